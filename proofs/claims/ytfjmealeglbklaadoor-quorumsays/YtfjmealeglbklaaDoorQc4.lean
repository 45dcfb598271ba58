/- Package quorum: the least sets (Least), and whether of any nodes and all others one side has a set (Full); what lay in memory lies as it lay. -/
import Derived.Test.YtfjmealeglbklaaDoorQc3
import Derived.Test.YtfjmealeglbklaaDoorOwnI
namespace Go.Proofs.YtfjmealeglbklaaDoor
open Go.RowKit

/-- those of the first k that are so -/
def upB (P : Nat → Bool) (k : Nat) : List Nat := (List.range k).filter P
theorem upB_hit {P : Nat → Bool} {k : Nat} (h : P k = true) : upB P (k + 1) = upB P k ++ [k] := by
  unfold upB; rw [List.range_succ, List.filter_append, List.filter_cons_of_pos h, List.filter_nil]
theorem upB_miss {P : Nat → Bool} {k : Nat} (h : P k = false) : upB P (k + 1) = upB P k := by
  unfold upB; rw [List.range_succ, List.filter_append, List.filter_cons_of_neg (by rw [h]; simp), List.filter_nil, List.append_nil]
theorem upB_len (P : Nat → Bool) (k : Nat) : (upB P k).length ≤ k := by
  have := List.length_filter_le P (List.range k)
  rw [List.length_range] at this; exact this
theorem owns_more17 {w : World} {base base' n size : Nat} {e : TypeId} {v : Value} {xs : List Value} (h : w.ownsRow base e size v n xs) (hb : base' ≤ base) : w.ownsRow base' e size v n xs := by
  refine ⟨h.1, ?_⟩
  rcases h.2 with h2 | ⟨g, cap, cur, h1, h2, h3⟩
  · exact .inl h2
  · exact .inr ⟨g, cap, cur, h1, by omega, h3⟩
set_option maxRecDepth 100000 in
set_option maxHeartbeats 1000000 in
theorem qLeast_err (m : Int) (zs : List Int) (c : Nat) (p : Option Addr) (n cap : Nat) (w : World) (hl : zs.length = n) (hcap : n ≤ cap) (hc : HasI zs p w) (h0 : qcode m zs = c) (hne : c ≠ 0) :
    Calls Tryd.prog 14 #[.int .i64 m, .slice p n cap] w fun e w' => e = .returned (.tuple #[.slice none 0 0, errP c]) ∧ Below w.heap.size w w' := by
  have hck := qcheck_ok m zs p n cap w hl hcap hc
  rw [h0, terr_ne hne] at hck
  clear hc h0 hne
  go_enter Tryd.func14, Tryd.ntmps14
  go_wp2_with fail
  refine hck.mono ?_
  rintro e w2 ⟨rfl, hB⟩
  go_wp2_with fail
  go_ret2
  exact ⟨rfl, hB⟩
set_option maxRecDepth 100000 in
set_option maxHeartbeats 2000000 in
theorem qLeast_ok (N : Nat) (S : List Nat) (p : Option Addr) (n cap : Nat) (w : World) (hR : QR N S) (hl : S.length = n) (hcap : n ≤ cap) (hc : HasI (ints S) p w) :
    Calls Tryd.prog 14 #[.int .i64 (N : Nat), .slice p n cap] w fun e w' => ∃ v, e = .returned (.tuple #[v, .nilIface]) ∧ w'.ownsRow w.heap.size 3 1 v (M.leastQ N S).length (icells (M.leastQ N S)) ∧ Below w.heap.size w w' := by
  obtain ⟨i0, hi0, hzz⟩ := Option.map_eq_some_iff.1 infoInt
  simp only [Prod.mk.injEq] at hzz
  obtain ⟨hz0, hz1, hz2⟩ := hzz
  have hck := qcheck_nil N S p n cap w hR hl hcap hc
  have hn20 : n ≤ 20 := hl ▸ hR.len
  have hN8 := hR.hi
  have hcon := fun k W h => qcontains_ok S k p n cap W hl (by unfold maxLen; omega) h
  have hoth := fun k W (hk : k < 256) h => qother_ok S k p n cap W hl (by unfold maxLen; omega) (fun j => by have := hR.row j; omega) (by omega) h
  have h8 := pow8 hN8
  obtain ⟨q, hq⟩ : ∃ q : Nat, 2 ^ N = q := ⟨_, rfl⟩
  have hsh := i64_one N hN8 hq
  have HQ : Hid (upB (M.lowQ S) q = M.leastQ N S) := (by rw [← hq]; rfl : upB (M.lowQ S) q = M.leastQ N S)
  rw [hq] at h8
  have hn64 : (N : Int) < 64 := by omega
  have HC : Hid (HasI (ints S) p w) := hc
  clear hc hR hl hq
  go_enter Tryd.func14, Tryd.ntmps14
  go_wp2_with fail
  refine hck.mono ?_
  rintro e w1 ⟨rfl, hB1⟩
  have h10 : w1.ownsRow w1.heap.size 3 1 (.slice none 0 0) (upB (M.lowQ S) 0).length (icells (upB (M.lowQ S) 0)) := ⟨rfl, .inl ⟨rfl, rfl⟩⟩
  have HB1 : Hid (Below w.heap.size w w1) := hB1
  clear hB1 hck
  go_wp2_with fail
  go_loopw [7, 17] (fun sv v wr => ∃ k : Nat, v = .int .i64 (k : Nat) ∧ k ≤ q ∧ wr.ownsRow w1.heap.size 3 1 sv (upB (M.lowQ S) k).length (icells (upB (M.lowQ S) k)) ∧ Below w1.heap.size w1 wr) (fun _ v _ => q - (intOf v).toNat)
  case atStart => exact ⟨0, rfl, Nat.zero_le _, h10, Below.refl _ _⟩
  case round =>
    clear h10
    obtain ⟨k, rfl, hk, hown, hB⟩ := hrel
    obtain ⟨p', c', rfl⟩ := owns_slice hown
    by_cases hlt : k < q
    · have hkq : (k : Int) < (q : Int) := by omega
      have hcw := HC.out.later (bel_on HB1.out hB)
      have hcn := fun W h => hcon k W h
      have hot := fun W h => hoth k W (by omega) h
      have hlow := M.lowQ_eq S k
      have hhit := @upB_hit (M.lowQ S) k
      have hmiss := @upB_miss (M.lowQ S) k
      have hlen := upB_len (M.lowQ S) k
      obtain ⟨L, hL⟩ : ∃ L, upB (M.lowQ S) k = L := ⟨_, rfl⟩
      rw [hL] at hown hhit hmiss hlen
      rw [hL]
      obtain ⟨a, ha⟩ : ∃ a, S.contains k = a := ⟨_, rfl⟩
      obtain ⟨b, hb⟩ : ∃ b, M.hasO S k = b := ⟨_, rfl⟩
      rw [ha] at hcn hlow
      rw [hb] at hot hlow
      clear ha hb hL
      have HOWN : Hid (wr.ownsRow w1.heap.size 3 1 (.slice p' L.length c') L.length (icells L)) := hown
      obtain ⟨l, hl⟩ : ∃ l, L.length = l := ⟨_, rfl⟩
      have HL : Hid (L.length = l) := hl
      rw [hl] at hown hlen
      rw [hl]
      cases a with
      | false =>
        have HM : Hid (upB (M.lowQ S) (k + 1) = L) := hmiss (by rw [hlow]; rfl)
        clear hhit hmiss hlow hown hl
        go_wp2_with fail
        refine (hcn _ hcw).mono ?_
        rintro e w2 ⟨rfl, rfl⟩
        go_wp2_with fail
        go_roundw
        case rel => exact ⟨k + 1, by go_num, by omega, by rw [HM.out, ← HL.out]; exact HOWN.out, hB⟩
        case measure => simp [intOf]; omega
      | true =>
        cases b with
        | true =>
          have HM : Hid (upB (M.lowQ S) (k + 1) = L) := hmiss (by rw [hlow]; rfl)
          clear hhit hmiss hlow hown hl
          go_wp2_with fail
          refine (hcn _ hcw).mono ?_
          rintro e w2 ⟨rfl, rfl⟩
          go_wp2_with fail
          refine (hot _ hcw).mono ?_
          rintro e w3 ⟨rfl, hB3⟩
          have FO : Hid (w3.ownsRow w1.heap.size 3 1 (.slice p' L.length c') L.length (icells L)) := owns_below HOWN.out hB3
          have FB : Hid (Below w1.heap.size w1 w3) := bel_on hB hB3
          clear hB3 hB hcw HOWN
          go_wp2_with fail
          go_roundw
          case rel => exact ⟨k + 1, by go_num, by omega, by rw [HM.out, ← HL.out]; exact FO.out, FB.out⟩
          case measure => simp [intOf]; omega
        | false =>
          have HM : Hid (upB (M.lowQ S) (k + 1) = L ++ [k]) := hhit (by rw [hlow]; rfl)
          clear hhit hmiss hlow hown hl
          go_wp2_with fail
          refine (hcn _ hcw).mono ?_
          rintro e w2 ⟨rfl, rfl⟩
          go_wp2_with fail
          refine (hot _ hcw).mono ?_
          rintro e w3 ⟨rfl, hB3⟩
          have ho3 : w3.ownsRow w1.heap.size 3 1 (.slice p' l c') l (icells L) := by rw [← HL.out]; exact owns_below HOWN.out hB3
          have hB4 := bel_on hB hB3
          have hszr := hB4.size
          clear hB3 hB hcw HOWN
          go_wp2_with (at_builtin; refine wpList_append_own _ rfl _ _ 22 rfl w1.heap.size 3 i0 (.int .i64 0) 1 8 Tryd.underlying22 hi0 hz0 hz1 hz2 rfl (by decide) _ _ _ rfl (ho3.alloc _) ⟨w3.heap.size, 0, none⟩ 1 1 [.int .i64 (k : Nat)] rfl rfl (cell_one_new _ _ _) (by simp [Value.oneCell']) (by unfold maxLen; omega) (by omega) (by simp; omega) ?_; intro v' w6 hown' hgrow _)
          have hB6 : Below w1.heap.size w1 w6 := (bel_al hB4 _).grown hgrow (by simp; omega) (fun j e => (ho3.lt j e).1)
          have ho6 : w6.ownsRow w1.heap.size 3 1 v' (upB (M.lowQ S) (k + 1)).length (icells (upB (M.lowQ S) (k + 1))) := by
            rw [HM.out, icells_snoc, List.length_append, HL.out]; exact hown'
          clear hown' hgrow ho3 hB4
          go_wp2_with fail
          go_roundw
          case rel => exact ⟨k + 1, by go_num, by omega, ho6, hB6⟩
          case measure => simp [intOf]; omega
    · obtain rfl : q = k := by omega
      have HOWN : Hid (wr.ownsRow w1.heap.size 3 1 (.slice p' (upB (M.lowQ S) q).length c') (M.leastQ N S).length (icells (M.leastQ N S))) := by rw [← HQ.out]; exact hown
      obtain ⟨l, hl⟩ : ∃ l, (upB (M.lowQ S) q).length = l := ⟨_, rfl⟩
      rw [hl] at HOWN
      rw [hl]
      clear hown hl
      go_wp2_with fail
      go_ret2
      exact ⟨_, rfl, owns_more17 HOWN.out HB1.out.size, bel_on HB1.out hB⟩
set_option maxRecDepth 100000 in
set_option maxHeartbeats 1000000 in
theorem qFull_err (m : Int) (zs : List Int) (c : Nat) (p : Option Addr) (n cap : Nat) (w : World) (hl : zs.length = n) (hcap : n ≤ cap) (hc : HasI zs p w) (h0 : qcode m zs = c) (hne : c ≠ 0) :
    Calls Tryd.prog 16 #[.int .i64 m, .slice p n cap] w fun e w' => e = .returned (.tuple #[.bool false, .int .i64 0, errP c]) ∧ Below w.heap.size w w' := by
  have hck := qcheck_ok m zs p n cap w hl hcap hc
  rw [h0, terr_ne hne] at hck
  clear hc h0 hne
  go_enter Tryd.func16, Tryd.ntmps16
  go_wp2_with fail
  refine hck.mono ?_
  rintro e w2 ⟨rfl, hB⟩
  go_wp2_with fail
  go_ret3
  exact ⟨rfl, hB⟩
theorem full_at {N k : Nat} {S : List Nat} (hk : k < 2 ^ N) (h : ∀ j, j < k → M.openQ N S j = false) (ho : M.openQ N S k = true) : M.fullQ N S = some k := find_first _ hk h ho
theorem full_all {N : Nat} {S : List Nat} (h : ∀ j, j < 2 ^ N → M.openQ N S j = false) : M.fullQ N S = none := by
  unfold M.fullQ
  rw [List.find?_eq_none]
  intro j hj; rw [h j (List.mem_range.1 hj)]; simp
/-- what Full tells -/
def fullV (o : Option Nat) : Value := .tuple #[.bool o.isNone, .int .i64 ((o.getD 0 : Nat) : Int), .nilIface]
set_option maxRecDepth 100000 in
set_option maxHeartbeats 2000000 in
theorem qFull_ok (N : Nat) (S : List Nat) (p : Option Addr) (n cap : Nat) (w : World) (hR : QR N S) (hl : S.length = n) (hcap : n ≤ cap) (hc : HasI (ints S) p w) :
    Calls Tryd.prog 16 #[.int .i64 (N : Nat), .slice p n cap] w fun e w' => e = .returned (fullV (M.fullQ N S)) ∧ Below w.heap.size w w' := by
  have hck := qcheck_nil N S p n cap w hR hl hcap hc
  have hn20 : n ≤ 20 := hl ▸ hR.len
  have hN8 := hR.hi
  have hh := fun s W (hs : s < 256) h => qhas_ok S s p n cap W hl (by unfold maxLen; omega) (fun j => by have := hR.row j; omega) (by omega) h
  have h8 := pow8 hN8
  obtain ⟨q, hq⟩ : ∃ q : Nat, 2 ^ N = q := ⟨_, rfl⟩
  have hsh := i64_one N hN8 hq
  have HQ : Hid (2 ^ N = q) := hq
  rw [hq] at h8
  have hn64 : (N : Int) < 64 := by omega
  have HC : Hid (HasI (ints S) p w) := hc
  clear hc hR hl hq
  go_enter Tryd.func16, Tryd.ntmps16
  go_wp2_with fail
  refine hck.mono ?_
  rintro e w1 ⟨rfl, hB1⟩
  have HB1 : Hid (Below w.heap.size w w1) := hB1
  clear hB1 hck
  go_wp2_with fail
  go_loopw [17] (fun v wr => ∃ k : Nat, v = .int .i64 (k : Nat) ∧ k ≤ q ∧ Hid (∀ j, j < k → M.openQ N S j = false) ∧ Hid (Below w.heap.size w wr)) (fun v _ => q - (intOf v).toNat)
  case atStart => exact ⟨0, rfl, Nat.zero_le _, fun j h => absurd h (Nat.not_lt_zero _), HB1.out⟩
  case round =>
    obtain ⟨k, rfl, hk, hz, hB⟩ := hrel
    by_cases hlt : k < q
    · have hkq : (k : Int) < (q : Int) := by omega
      have hkN : k < 2 ^ N := by rw [HQ.out]; exact hlt
      have hot := fun W => qothers_ok N k W hN8 hkN
      have hcp : M.cpl N k < 256 := by have := @M.cpl_lt N k; rw [HQ.out] at this; omega
      have hha := fun W h => hh k W (by omega) h
      have hhb := fun W h => hh (M.cpl N k) W hcp h
      have hop : M.openQ N S k = (!M.hasQ S k && !M.hasQ S (M.cpl N k)) := rfl
      obtain ⟨a, ha⟩ : ∃ a, M.hasQ S k = a := ⟨_, rfl⟩
      obtain ⟨b, hb⟩ : ∃ b, M.hasQ S (M.cpl N k) = b := ⟨_, rfl⟩
      rw [ha] at hha hop
      rw [hb] at hhb hop
      obtain ⟨c, hcc⟩ : ∃ c, M.cpl N k = c := ⟨_, rfl⟩
      rw [hcc] at hot hhb
      have hcw := HC.out.later hB.out
      have hnext : M.openQ N S k = false → ∀ j, j < k + 1 → M.openQ N S j = false := fun h j hj => by
        by_cases e : j = k
        · rw [e]; exact h
        · exact hz.out j (by omega)
      clear ha hb hcc hcp
      cases a with
      | true =>
        have HN : Hid (∀ j, j < k + 1 → M.openQ N S j = false) := hnext (by rw [hop]; rfl)
        clear hnext hop hkN
        go_wp2_with fail
        refine (hha _ hcw).mono ?_
        rintro e w2 ⟨rfl, hB2⟩
        have FB : Hid (Below w.heap.size w w2) := bel_on hB.out hB2
        clear hB2 hcw
        go_wp2_with fail
        go_roundw
        case rel => exact ⟨k + 1, by go_num, by omega, HN, FB⟩
        case measure => simp [intOf]; omega
      | false =>
        cases b with
        | true =>
          have HN : Hid (∀ j, j < k + 1 → M.openQ N S j = false) := hnext (by rw [hop]; rfl)
          clear hnext hop hkN
          go_wp2_with fail
          refine (hha _ hcw).mono ?_
          rintro e w2 ⟨rfl, hB2⟩
          have hcw2 := hcw.later hB2
          have HB2 : Hid (Below w.heap.size w w2) := bel_on hB.out hB2
          clear hB2 hcw
          go_wp2_with fail
          refine (hot _).mono ?_
          rintro e w3 ⟨rfl, rfl⟩
          go_wp2_with fail
          refine (hhb _ hcw2).mono ?_
          rintro e w4 ⟨rfl, hB4⟩
          have FB : Hid (Below w.heap.size w w4) := bel_on HB2.out hB4
          clear hB4 hcw2
          go_wp2_with fail
          go_roundw
          case rel => exact ⟨k + 1, by go_num, by omega, HN, FB⟩
          case measure => simp [intOf]; omega
        | false =>
          have HF : Hid (M.fullQ N S = some k) := full_at hkN hz.out (by rw [hop]; rfl)
          clear hnext hop hkN
          go_wp2_with fail
          refine (hha _ hcw).mono ?_
          rintro e w2 ⟨rfl, hB2⟩
          have hcw2 := hcw.later hB2
          have HB2 : Hid (Below w.heap.size w w2) := bel_on hB.out hB2
          clear hB2 hcw
          go_wp2_with fail
          refine (hot _).mono ?_
          rintro e w3 ⟨rfl, rfl⟩
          go_wp2_with fail
          refine (hhb _ hcw2).mono ?_
          rintro e w4 ⟨rfl, hB4⟩
          have FB : Hid (Below w.heap.size w w4) := bel_on HB2.out hB4
          clear hB4 hcw2
          go_wp2_with fail
          go_ret3
          exact ⟨by rw [HF.out]; rfl, FB.out⟩
    · obtain rfl : q = k := by omega
      have HF : Hid (M.fullQ N S = none) := full_all (by rw [HQ.out]; exact hz.out)
      go_wp2_with fail
      go_ret3
      exact ⟨by rw [HF.out]; rfl, hB.out⟩
end Go.Proofs.YtfjmealeglbklaaDoor
