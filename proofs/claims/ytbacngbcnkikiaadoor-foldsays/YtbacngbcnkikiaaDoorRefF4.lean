/- The document's own answer on what must stay behind, and on whether two words are the same (package whensteadref3, Ahead, Only, same, Same); what lay in memory lies as it lay. -/
import Derived.Test.YtbacngbcnkikiaaDoorRefF1
import Derived.Test.YtbacngbcnkikiaaDoorFo4
import Derived.Test.YtbacngbcnkikiaaDoorOwnA
namespace Go.Proofs.YtbacngbcnkikiaaDoor
open Go.RowKit
namespace M
theorem cnt_low {f : Nat → Nat → Bool} {w : List Nat} {i : Nat} : ∀ j, j ≤ i + 1 → cnt01 j (ahB f w i) = 0
  | 0, _ => rfl
  | j + 1, h => by
    rw [cnt_step, cnt_low j (by omega)]
    have : ahB f w i j = false := by unfold ahB; rw [decide_eq_false (by omega)]; rfl
    rw [this]; simp
theorem cnt_hit {p : Nat → Bool} {j : Nat} (h : p j = true) : cnt01 (j + 1) p = cnt01 j p + 2 ^ j := by
  rw [cnt_step, h, if_pos rfl]
  refine (add_pow_or _ _ ?_).symm
  rw [cnt01_bit, decide_eq_false (Nat.lt_irrefl _)]; rfl
theorem cnt_miss {p : Nat → Bool} {j : Nat} (h : p j = false) : cnt01 (j + 1) p = cnt01 j p := by
  rw [cnt_step, h]; simp
/-- alike at all pairs that were looked at, up to that of a and b -/
def alkR (f : Nat → Nat → Bool) (v u : List Nat) (a b : Nat) : Prop := ∀ x y, (x < a ∨ (x = a ∧ y < b)) → y ≤ x → f x y = false → only x y v = only x y u
theorem alkR_zero (f : Nat → Nat → Bool) (v u : List Nat) : alkR f v u 0 0 := fun x y h _ _ => by omega
theorem alkR_next {f : Nat → Nat → Bool} {v u : List Nat} {a : Nat} (h : alkR f v u a (a + 1)) : alkR f v u (a + 1) 0 := fun x y hx hy e => h x y (by omega) hy e
theorem alkR_step {f : Nat → Nat → Bool} {v u : List Nat} {a b : Nat} (h1 : alkR f v u a b) (h2 : f a b = false → only a b v = only a b u) : alkR f v u a (b + 1) := fun x y hx hy e => by
  by_cases c : x = a ∧ y = b
  · obtain ⟨rfl, rfl⟩ := c; exact h2 e
  · exact h1 x y (by omega) hy e
theorem onlyR_hit {a b i : Nat} {w : List Nat} (hi : i < w.length) (h : row w i = a ∨ row w i = b) : only a b (w.take (i + 1)) = only a b (w.take i) ++ [row w i] := by
  rw [take_row hi, only_app, only_cons, if_pos h, only_nil]
theorem onlyR_miss {a b i : Nat} {w : List Nat} (hi : i < w.length) (h : ¬ (row w i = a ∨ row w i = b)) : only a b (w.take (i + 1)) = only a b (w.take i) := by
  rw [take_row hi, only_app, only_cons, if_neg h, only_nil, List.append_nil]
theorem onlyR_le (a b : Nat) (w : List Nat) : (only a b w).length ≤ w.length := List.length_filter_le _ _
end M
theorem sameW_alk {F v u : List Nat} (hF : FOk F) (hV : WOk F v) (hU : WOk F u) (h : M.alkR (M.fr F) v u F.length 0) : sameW F v u = true :=
  (sameW_iff hF hV hU).2 ((M.eqv_pairs hF.fr hV.lt hU.lt).2 fun a b ha hb e => h a b (by omega) hb e)
theorem sameW_not {F v u : List Nat} (hF : FOk F) (hV : WOk F v) (hU : WOk F u) {a b : Nat} (e : M.fr F a b = false) (h : M.only a b v ≠ M.only a b u) : sameW F v u = false := by
  cases c : sameW F v u with
  | false => rfl
  | true => exact absurd ((sameW_iff hF hV hU).1 c a b e) h
theorem eqR {a b : Nat} (h : a = b) : ((a : Int) == (b : Int)) = true := by simp; omega
theorem neR {a b : Nat} (h : ¬ a = b) : ((a : Int) == (b : Int)) = false := by simp; omega
theorem neR' {a b : Nat} (h : ¬ a = b) : (a == b) = false := by simp; omega
set_option maxRecDepth 100000 in
set_option maxHeartbeats 4000000 in
theorem refAhead_ok (F u : List Nat) (p : Option Addr) (n cap : Nat) (q : Option Addr) (m cap2 : Nat) (w : World) (hl : F.length = n) (hF : FOk F) (hc : HasI (ints F) p w) (hl2 : u.length = m) (hU : WOk F u) (hd : HasI (ints u) q w) :
    Calls Tryd.prog 15 #[.slice p n cap, .slice q m cap2] w fun e w' => ∃ v, e = .returned v ∧ w'.ownsRow w.heap.size 3 1 v m (icells (M.ahR (M.fr F) u)) ∧ Below w.heap.size w w' := by
  have hm : m ≤ 24 := hl2 ▸ hU.len
  have hn6 := hF.len
  obtain ⟨i0, hi0, hz0, hz1, hz2⟩ := infoA_parts infoInt
  have hal : (M.ahR (M.fr F) u).length = m := by rw [M.ahR_length, hl2]
  have har : ∀ i, i < m → M.row (M.ahR (M.fr F) u) i = M.cnt01 m (M.ahB (M.fr F) u i) := fun i hi => by unfold M.ahR; simp [M.row, hl2, hi]
  obtain ⟨R, hR⟩ : ∃ R, M.ahR (M.fr F) u = R := ⟨_, rfl⟩
  rw [hR] at hal har
  rw [hR]
  have HAR : Hid (∀ i, i < m → M.row R i = M.cnt01 m (M.ahB (M.fr F) u i)) := har
  have h10 : w.ownsRow w.heap.size 3 1 (.slice none 0 0) 0 (icells (R.take 0)) := ⟨rfl, .inl ⟨rfl, rfl⟩⟩
  clear hR har
  go_enter Tryd.func15, Tryd.ntmps15
  go_wp2_with fail
  go_loopw [5, 6] (fun sv iv wr => ∃ i : Nat, iv = .int .i64 i ∧ i ≤ m ∧ wr.ownsRow w.heap.size 3 1 sv i (icells (R.take i)) ∧ Below w.heap.size w wr) (fun _ iv _ => m - (intOf iv).toNat)
  case atStart => exact ⟨0, rfl, Nat.zero_le _, h10, Below.refl _ _⟩
  case round =>
    clear h10
    obtain ⟨i, rfl, hi, hown, hB⟩ := hrel
    obtain ⟨p', c', rfl⟩ := owns_slice hown
    by_cases him : i < m
    · obtain ⟨wo, hwo⟩ : ∃ wo, wo = wr := ⟨_, rfl⟩
      subst hwo
      have h0 : M.cnt01 (i + 1) (M.ahB (M.fr F) u i) = 0 := M.cnt_low _ (Nat.le_refl _)
      go_wp2_with fail
      go_loopw [7, 8] (fun sv jv wr => ∃ j : Nat, jv = .int .i64 j ∧ sv = .int .i64 (M.cnt01 j (M.ahB (M.fr F) u i) : Nat) ∧ i < j ∧ j ≤ m ∧ Below wo.heap.size wo wr) (fun _ jv _ => m - (intOf jv).toNat)
      case atStart => exact ⟨i + 1, by go_num, by rw [h0]; rfl, by omega, by omega, Below.refl _ _⟩
      case round =>
        clear h0
        obtain ⟨j, rfl, rfl, hij, hj, hBj⟩ := hrel
        by_cases hjm : j < m
        · have hBr := bel_on hB hBj
          have hst := stays_ok F u p n cap q m cap2 i j wr hl hF (hc.later hBr) hl2 hU (hd.later hBr) him hjm
          have hhit := @M.cnt_hit (M.ahB (M.fr F) u i) j
          have hmis := @M.cnt_miss (M.ahB (M.fr F) u i) j
          have hlt := M.cnt01_lt j (M.ahB (M.fr F) u i)
          have h24 := pow_24 j (by omega)
          obtain ⟨x, hx⟩ : ∃ x, M.cnt01 j (M.ahB (M.fr F) u i) = x := ⟨_, rfl⟩
          rw [hx] at hhit hmis hlt
          rw [hx]
          obtain ⟨y, hy⟩ : ∃ y, 2 ^ j = y := ⟨_, rfl⟩
          have HY : Hid (2 ^ j = y) := hy
          rw [hy] at hhit hlt h24
          have hpw := fun W => pow2_big j y W (by omega) HY
          obtain ⟨t, ht⟩ : ∃ t, M.ahB (M.fr F) u i j = t := ⟨_, rfl⟩
          rw [ht] at hst hhit hmis
          have HB : Hid (Below wo.heap.size wo wr) := hBj
          clear hx hy ht hBj
          cases t with
          | true =>
            have HN : Hid (M.cnt01 (j + 1) (M.ahB (M.fr F) u i) = x + y) := hhit rfl
            clear hhit hmis
            go_wp2_with fail
            refine hst.mono ?_
            rintro e w2 ⟨rfl, hB2⟩
            have HB2 : Hid (Below wo.heap.size wo w2) := bel_on HB.out hB2
            clear hst hB2
            go_wp2_with fail
            refine (hpw _).mono ?_
            rintro e w3 ⟨rfl, rfl⟩
            go_wp2_with fail
            go_roundw
            case rel => exact ⟨j + 1, by go_num, by rw [HN.out]; go_num, by omega, by omega, HB2.out⟩
            case measure => simp [intOf]; omega
          | false =>
            have HN : Hid (M.cnt01 (j + 1) (M.ahB (M.fr F) u i) = x) := hmis rfl
            clear hhit hmis
            go_wp2_with fail
            refine hst.mono ?_
            rintro e w2 ⟨rfl, hB2⟩
            have HB2 : Hid (Below wo.heap.size wo w2) := bel_on HB.out hB2
            clear hst hB2
            go_wp2_with fail
            go_roundw
            case rel => exact ⟨j + 1, by go_num, by rw [HN.out], by omega, by omega, HB2.out⟩
            case measure => simp [intOf]; omega
        · obtain rfl : j = m := by omega
          have hown2 := owns_below hown hBj
          have hBr := bel_on hB hBj
          have hsn : icells (R.take (i + 1)) = icells (R.take i) ++ [.int .i64 (M.cnt01 j (M.ahB (M.fr F) u i) : Nat)] := by
            rw [M.take_row (by omega), icells_snoc, HAR.out i him]
          obtain ⟨x, hx⟩ : ∃ x, M.cnt01 j (M.ahB (M.fr F) u i) = x := ⟨_, rfl⟩
          rw [hx] at hsn
          rw [hx]
          have HSN : Hid (icells (R.take (i + 1)) = icells (R.take i) ++ [.int .i64 (x : Nat)]) := hsn
          have hbs := hBr.size
          clear hsn hx hown hBj
          go_wp2_with (at_builtin; refine wpList_append_own _ rfl _ _ 22 rfl w.heap.size 3 i0 (.int .i64 0) 1 8 Tryd.underlying22 hi0 hz0 hz1 hz2 rfl (by decide) _ _ _ rfl (hown2.alloc _) ⟨wr.heap.size, 0, none⟩ 1 1 [.int .i64 (x : Nat)] rfl rfl (cell_one_new _ _ _) (by simp [Value.oneCell']) (by unfold maxLen; omega) (by omega) (by simp; omega) ?_; intro v' w6 hown' hgrow _)
          have hB6 : Below w.heap.size w w6 := (bel_al hBr _).grown hgrow (by simp; omega) (fun j e => (hown2.lt j e).1)
          first | go_roundw | skip
          case rel => exact ⟨i + 1, by go_num, by omega, by rw [HSN.out]; exact hown', hB6⟩
          case measure => simp [intOf]; omega
    · obtain rfl : i = m := by omega
      rw [List.take_of_length_le (by omega)] at hown
      go_wp2_with fail
      go_ret
      exact ⟨_, rfl, hown, hB⟩
set_option maxRecDepth 100000 in
set_option maxHeartbeats 4000000 in
theorem refOnly_ok (v : List Nat) (a b : Nat) (q : Option Addr) (m cap2 : Nat) (w : World) (hl2 : v.length = m) (hm : m ≤ 24) (hd : HasI (ints v) q w) :
    Calls Tryd.prog 40 #[.slice q m cap2, .int .i64 (a : Nat), .int .i64 (b : Nat)] w fun e w' => ∃ x, e = .returned x ∧ w'.ownsRow w.heap.size 3 1 x (M.only a b v).length (icells (M.only a b v)) ∧ Below w.heap.size w w' := by
  obtain ⟨i0, hi0, hz0, hz1, hz2⟩ := infoA_parts infoInt
  have hown0 : w.ownsRow w.heap.size 3 1 (.slice none 0 0) (M.only a b (v.take 0)).length (icells (M.only a b (v.take 0))) := ⟨rfl, .inl ⟨rfl, rfl⟩⟩
  go_enter Tryd.func40, Tryd.ntmps40
  go_wp2_with fail
  go_loopw [7, 8] (fun sv iv wr => ∃ (i : Nat), iv = .int .i64 i ∧ i ≤ m ∧ wr.ownsRow w.heap.size 3 1 sv (M.only a b (v.take i)).length (icells (M.only a b (v.take i))) ∧ Below w.heap.size w wr) (fun _ iv _ => m - (intOf iv).toNat)
  case atStart => exact ⟨0, rfl, Nat.zero_le _, hown0, Below.refl _ _⟩
  case round =>
    clear hown0
    obtain ⟨i, rfl, hi, hown, hBi⟩ := hrel
    obtain ⟨p', c', rfl⟩ := owns_slice hown
    by_cases him : i < m
    · obtain ⟨bv, ov, rfl, hbv, hcv⟩ := (hd.later hBi) i (by rw [ints_length]; omega)
      rw [ints_get] at hcv
      have hhit := @M.onlyR_hit a b i v (by omega)
      have hmis := @M.onlyR_miss a b i v (by omega)
      have hle := M.onlyR_le a b (v.take i)
      rw [List.length_take] at hle
      obtain ⟨N, hN⟩ : ∃ N, (M.only a b (v.take i)).length = N := ⟨_, rfl⟩
      rw [hN] at hown hle
      rw [hN]
      obtain ⟨c, hcc⟩ : ∃ c, M.row v i = c := ⟨_, rfl⟩
      rw [hcc] at hcv hhit hmis
      have hN24 : N ≤ 24 := by omega
      have him' : (i : Int) < (m : Int) := by omega
      clear hcc
      by_cases hca : c = a
      · have hh := hhit (.inl hca)
        have HO : Hid (M.only a b (v.take (i + 1)) = M.only a b (v.take i) ++ [c]) := hh
        have HLn : Hid ((M.only a b (v.take (i + 1))).length = N + 1) := by show _ = _; rw [hh, List.length_append, hN]; rfl
        have g1 := eqR hca
        clear hhit hmis hh hN hca hle
        go_wp2_with (at_builtin; refine wpList_append_own _ rfl _ _ 22 rfl w.heap.size 3 i0 (.int .i64 0) 1 8 Tryd.underlying22 hi0 hz0 hz1 hz2 rfl (by decide) _ _ _ rfl (hown.alloc _) ⟨wr.heap.size, 0, none⟩ 1 1 [.int .i64 (c : Nat)] rfl rfl (cell_one_new _ _ _) (by simp [Value.oneCell']) (by unfold maxLen; omega) (by omega) (by have := hBi.size; simp; omega) ?_; intro v' w5 hown' hgrow _)
        have hB5 : Below w.heap.size w w5 := (bel_al hBi _).grown hgrow (by have := hBi.size; simp; omega) (fun j e => (hown.lt j e).1)
        first | go_roundw | skip
        case rel => exact ⟨i + 1, by go_num, by omega, by rw [HLn.out, HO.out, icells_snoc]; exact hown', hB5⟩
        case measure => simp [intOf]; omega
      · have g1 := neR hca
        have g1' := neR' hca
        by_cases hcb : c = b
        · have hh := hhit (.inr hcb)
          have HO : Hid (M.only a b (v.take (i + 1)) = M.only a b (v.take i) ++ [c]) := hh
          have HLn : Hid ((M.only a b (v.take (i + 1))).length = N + 1) := by show _ = _; rw [hh, List.length_append, hN]; rfl
          have g2 := eqR hcb
          clear hhit hmis hh hN hca hle hcb
          go_wp2_with (at_builtin; refine wpList_append_own _ rfl _ _ 22 rfl w.heap.size 3 i0 (.int .i64 0) 1 8 Tryd.underlying22 hi0 hz0 hz1 hz2 rfl (by decide) _ _ _ rfl (hown.alloc _) ⟨wr.heap.size, 0, none⟩ 1 1 [.int .i64 (c : Nat)] rfl rfl (cell_one_new _ _ _) (by simp [Value.oneCell']) (by unfold maxLen; omega) (by omega) (by have := hBi.size; simp; omega) ?_; intro v' w5 hown' hgrow _)
          have hB5 : Below w.heap.size w w5 := (bel_al hBi _).grown hgrow (by have := hBi.size; simp; omega) (fun j e => (hown.lt j e).1)
          first | go_roundw | skip
          case rel => exact ⟨i + 1, by go_num, by omega, by rw [HLn.out, HO.out, icells_snoc]; exact hown', hB5⟩
          case measure => simp [intOf]; omega
        · have hh := hmis (fun h => h.elim hca hcb)
          have HO : Hid (M.only a b (v.take (i + 1)) = M.only a b (v.take i)) := hh
          have HLn : Hid ((M.only a b (v.take (i + 1))).length = N) := by show _ = _; rw [hh, hN]
          have g2 := neR hcb
          have g2' := neR' hcb
          clear hhit hmis hh hN hca hle hcb
          go_wp2_with fail
          go_roundw
          case rel => exact ⟨i + 1, by go_num, by omega, by rw [HLn.out, HO.out]; exact hown, hBi⟩
          case measure => simp [intOf]; omega
    · obtain rfl : i = m := by omega
      rw [List.take_of_length_le (by omega)] at hown
      rw [List.take_of_length_le (by omega)]
      go_wp2_with fail
      go_ret
      exact ⟨_, rfl, hown, hBi⟩
set_option maxRecDepth 100000 in
set_option maxHeartbeats 2000000 in
theorem refsame_any (zs ys : List Int) (p q : Option Addr) (n m cap cap' : Nat) (w : World) (hl : zs.length = n) (hl2 : ys.length = m) (hmax : n ≤ maxLen) (hmax2 : m ≤ maxLen) (hp : HasI zs p w) (hq : HasI ys q w) :
    Calls Tryd.prog 39 #[.slice p n cap, .slice q m cap'] w fun e w' => e = .returned (.bool (zs == ys)) ∧ Below w.heap.size w w' := by
  unfold maxLen at hmax hmax2
  by_cases hnm : n = m
  · subst hnm
    have g1 : ((n : Int) != (n : Int)) = false := by simp
    go_enter Tryd.func39, Tryd.ntmps39
    go_wp2_with fail
    go_loopw [5] (fun i wr => ∃ k : Nat, k ≤ n ∧ i = .int .i64 k ∧ Hid (∀ j, j < k → zs[j]?.getD 0 = ys[j]?.getD 0) ∧ Below w.heap.size w wr) (fun i _ => n - (intOf i).toNat)
    case atStart => exact ⟨0, Nat.zero_le _, rfl, show ∀ j, j < 0 → _ from fun j hj => absurd hj (Nat.not_lt_zero _), Below.refl _ _⟩
    case round =>
      obtain ⟨k, hk, rfl, hJ, hB⟩ := hrel
      by_cases hlt : k < n
      · obtain ⟨b, off, rfl, hb, hcell⟩ := hp.later hB k (by omega)
        obtain ⟨b', off', rfl, hb', hcell'⟩ := hq.later hB k (by omega)
        obtain ⟨z, hz⟩ : ∃ z, zs[k]?.getD 0 = z := ⟨_, rfl⟩
        obtain ⟨y, hy⟩ : ∃ y, ys[k]?.getD 0 = y := ⟨_, rfl⟩
        rw [hz] at hcell
        rw [hy] at hcell'
        by_cases hzy : z = y
        · have HJ : Hid (∀ j, j < k + 1 → zs[j]?.getD 0 = ys[j]?.getD 0) := fun j hj => by
            by_cases e : j = k
            · subst e; rw [hz, hy]; exact hzy
            · exact hJ.out j (by omega)
          have g2 : (z != y) = false := by simp [hzy]
          clear hz hy hp hq hzy
          go_wp2_with fail
          go_quiet (fail)
          go_wp2_with fail
          go_roundw
          case rel => exact ⟨k + 1, by omega, by go_num, HJ, hB.trans ((below_drewN _ _).mono hB.size)⟩
          case measure => simp [intOf]; omega
        · have HN : Hid ((zs == ys) = false) := beq_no (fun e => hzy (by rw [← hz, ← hy, e]))
          have g2 : (z != y) = true := by simpa using hzy
          have HB : Hid (Below _ _ _) := hB
          clear hz hy hp hq hzy hB
          go_wp2_with fail
          go_quiet (fail)
          go_wp2_with fail
          go_ret
          exact ⟨by rw [HN.out]; rfl, bel_drN HB.out _⟩
      · obtain rfl : k = n := by omega
        have HN : Hid ((zs == ys) = true) := beq_yes (lists_eq (by omega) (by rw [hl]; exact hJ.out))
        clear hp hq
        go_wp2_with fail
        go_ret
        exact ⟨by rw [HN.out]; rfl, hB⟩
  · have HN : Hid ((zs == ys) = false) := beq_no (fun e => hnm (by rw [← hl, ← hl2, e]))
    have g1 : ((n : Int) != (m : Int)) = true := by simp; omega
    have g1' : (n != m) = true := by simpa using hnm
    clear hp hq hnm
    go_enter Tryd.func39, Tryd.ntmps39
    go_wp2_with fail
    go_ret
    exact ⟨by rw [HN.out]; rfl, Below.refl _ _⟩
set_option maxRecDepth 100000 in
set_option maxHeartbeats 4000000 in
theorem refSame_ok (F v u : List Nat) (p : Option Addr) (n cap : Nat) (q : Option Addr) (m cap2 : Nat) (q3 : Option Addr) (m3 cap3 : Nat) (w : World) (hl : F.length = n) (hF : FOk F) (hc : HasI (ints F) p w) (hl2 : v.length = m) (hV : WOk F v) (hd : HasI (ints v) q w) (hl3 : u.length = m3) (hU : WOk F u) (hf : HasI (ints u) q3 w) :
    Calls Tryd.prog 20 #[.slice p n cap, .slice q m cap2, .slice q3 m3 cap3] w fun e w' => e = .returned (.bool (sameW F v u)) ∧ Below w.heap.size w w' := by
  have hm : m ≤ 24 := hl2 ▸ hV.len
  have hm3 : m3 ≤ 24 := hl3 ▸ hU.len
  have hn6 := hF.len
  go_enter Tryd.func20, Tryd.ntmps20
  go_wp2_with fail
  go_loopw [7] (fun av wr => ∃ a : Nat, av = .int .i64 a ∧ a ≤ n ∧ Hid (M.alkR (M.fr F) v u a 0) ∧ Below w.heap.size w wr) (fun av _ => n - (intOf av).toNat)
  case atStart => exact ⟨0, rfl, Nat.zero_le _, M.alkR_zero _ _ _, Below.refl _ _⟩
  case round =>
    obtain ⟨a, rfl, ha, hG, hB⟩ := hrel
    by_cases hlt : a < n
    · go_wp2_with fail
      go_loopw [8] (fun bv wr => ∃ b : Nat, bv = .int .i64 b ∧ b ≤ a + 1 ∧ Hid (M.alkR (M.fr F) v u a b) ∧ Below w.heap.size w wr) (fun bv _ => a + 1 - (intOf bv).toNat)
      case atStart => exact ⟨0, rfl, Nat.zero_le _, hG, hB⟩
      case round =>
        clear hG hB
        obtain ⟨b, rfl, hb, hG, hB⟩ := hrel
        by_cases hba : b ≤ a
        · obtain ⟨bf, of, rfl, hbf, hcf⟩ := (hc.later hB) a (by rw [ints_length]; omega)
          rw [ints_get] at hcf
          have hfl := hF.lt a
          have hbit := fun W => bit_big (M.row F a) b W (by omega) (by omega)
          rw [show (M.row F a).testBit b = M.fr F a b from rfl] at hbit
          obtain ⟨x, hx⟩ : ∃ x, M.row F a = x := ⟨_, rfl⟩
          rw [hx] at hcf hbit
          have han : (a : Int) < (n : Int) := by omega
          have hdba : decide ((b : Int) ≤ (a : Int)) = true := decide_eq_true (by omega)
          have hdba' : decide (b ≤ a) = true := decide_eq_true hba
          have hstp := @M.alkR_step (M.fr F) v u a b hG.out
          clear hx hfl
          cases hfr : M.fr F a b with
          | true =>
            have HN : Hid (M.alkR (M.fr F) v u a (b + 1)) := hstp (fun e => by rw [hfr] at e; cases e)
            rw [hfr] at hbit
            clear hstp hfr hG
            go_wp2_with fail
            refine (hbit _).mono ?_
            rintro e w3 ⟨rfl, rfl⟩
            go_wp2_with fail
            go_roundw
            case rel => exact ⟨b + 1, by go_num, by omega, HN, hB⟩
            case measure => simp [intOf]; omega
          | false =>
            have HST : Hid (M.only a b v = M.only a b u → M.alkR (M.fr F) v u a (b + 1)) := fun h => hstp (fun _ => h)
            have HNT : Hid (M.only a b v ≠ M.only a b u → sameW F v u = false) := fun h => sameW_not hF hV hU hfr h
            rw [hfr] at hbit
            clear hstp hfr hG
            go_wp2_with fail
            refine (hbit _).mono ?_
            rintro e w3 ⟨rfl, rfl⟩
            go_wp2_with fail
            refine (refOnly_ok v a b q m cap2 _ hl2 hm (hd.later hB)).mono ?_
            rintro e w4 ⟨xv, rfl, hox, hB4⟩
            obtain ⟨px, cx, rfl⟩ := owns_slice hox
            have hC4 := bel_on hB hB4
            have hlx := M.onlyR_le a b v
            obtain ⟨lx, hlxe⟩ : ∃ lx, (M.only a b v).length = lx := ⟨_, rfl⟩
            rw [hlxe] at hox hlx
            rw [hlxe]
            have hxI := hasI_of_owns hlxe hox
            clear hox hB4 hB
            go_wp2_with fail
            refine (refOnly_ok u a b q3 m3 cap3 _ hl3 hm3 (hf.later hC4)).mono ?_
            rintro e w5 ⟨yv, rfl, hoy, hB5⟩
            obtain ⟨py, cy, rfl⟩ := owns_slice hoy
            have hC5 := bel_on hC4 hB5
            have hly := M.onlyR_le a b u
            obtain ⟨ly, hlye⟩ : ∃ ly, (M.only a b u).length = ly := ⟨_, rfl⟩
            rw [hlye] at hoy hly
            rw [hlye]
            have hyI := hasI_of_owns hlye hoy
            have hxI5 := hxI.later hB5
            have hei := refsame_any (ints (M.only a b v)) (ints (M.only a b u)) px py lx ly cx cy _ (by rw [ints_length]; exact hlxe) (by rw [ints_length]; exact hlye) (by unfold maxLen; omega) (by unfold maxLen; omega) hxI5 hyI
            rw [ints_beq] at hei
            have hge : (M.only a b v == M.only a b u) = true ↔ M.only a b v = M.only a b u := beq_iff_eq
            obtain ⟨t, ht⟩ : ∃ t, (M.only a b v == M.only a b u) = t := ⟨_, rfl⟩
            rw [ht] at hei hge
            clear hoy hxI hyI hxI5 hB5 hC4 hlxe hlye ht
            cases t with
            | true =>
              have HN : Hid (M.alkR (M.fr F) v u a (b + 1)) := HST.out (hge.1 rfl)
              clear hge
              go_wp2_with fail
              refine hei.mono ?_
              rintro e w6 ⟨rfl, hB6⟩
              have HB6 : Hid (Below _ _ _) := bel_on hC5 hB6
              clear hB6 hei
              go_wp2_with fail
              go_roundw
              case rel => exact ⟨b + 1, by go_num, by omega, HN, HB6.out⟩
              case measure => simp [intOf]; omega
            | false =>
              have HN : Hid (sameW F v u = false) := HNT.out (fun h => by have := hge.2 h; cases this)
              clear hge
              go_wp2_with fail
              refine hei.mono ?_
              rintro e w6 ⟨rfl, hB6⟩
              have HB6 : Hid (Below _ _ _) := bel_on hC5 hB6
              clear hB6 hei
              go_wp2_with fail
              go_ret
              exact ⟨by rw [HN.out]; rfl, HB6.out⟩
        · obtain ⟨b', hbe⟩ : ∃ b', a + 1 = b' := ⟨_, rfl⟩
          obtain rfl : b = b' := by omega
          have HG : Hid (M.alkR (M.fr F) v u (a + 1) 0) := by
            have h1 : M.alkR (M.fr F) v u a (a + 1) := by rw [hbe]; exact hG.out
            exact M.alkR_next h1
          rw [hbe] at HG
          have hdba : decide ((b : Int) ≤ (a : Int)) = false := decide_eq_false (by omega)
          have hdba' : decide (b ≤ a) = false := decide_eq_false hba
          have hbb : (a : Int) + 1 = (b : Int) := by omega
          clear hG hba
          go_wp2_with fail
          go_roundw
          case rel => exact ⟨b, by go_num, by omega, HG, hB⟩
          case measure => simp [intOf]; omega
    · obtain rfl : a = n := by omega
      have HN : Hid (sameW F v u = true) := sameW_alk hF hV hU (by rw [hl]; exact hG.out)
      go_wp2_with fail
      go_ret
      exact ⟨by rw [HN.out]; rfl, hB⟩
end Go.Proofs.YtbacngbcnkikiaaDoor
