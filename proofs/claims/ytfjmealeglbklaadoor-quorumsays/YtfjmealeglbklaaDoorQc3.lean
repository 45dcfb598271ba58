/- Package quorum: how few two sets have in common, how few may be gone (fewestCommon, fewestGone), and from them Masks; what lay in memory lies as it lay. -/
import Derived.Test.YtfjmealeglbklaaDoorQc2
import Derived.Test.YtfjmealeglbklaaDoorOnes
namespace Go.Proofs.YtfjmealeglbklaaDoor
open Go.RowKit

/-- the least of some, from n on -/
structure MinP {ι : Type} (n : Nat) (v : ι → Nat) (ok q : ι → Prop) (m : Nat) : Prop where
  le : m ≤ n
  low : ∀ x, q x → m ≤ v x
  is : m = n ∨ ∃ x, ok x ∧ m = v x
theorem MinP.start {ι : Type} (n : Nat) (v : ι → Nat) (ok q : ι → Prop) (h : ∀ x, ¬ q x) : MinP n v ok q n := ⟨Nat.le_refl _, fun x hx => absurd hx (h x), Or.inl rfl⟩
theorem MinP.step {ι : Type} {n : Nat} {v : ι → Nat} {ok q q' : ι → Prop} {m m' : Nat} (h : MinP n v ok q m) (x : ι) (hx : ok x) (hm : Nat.min m (v x) = m') (hq : ∀ y, q' y → q y ∨ y = x) : MinP n v ok q' m' := by
  have h1 := h.le
  have e : m' ≤ m ∧ m' ≤ v x ∧ (m' = m ∨ m' = v x) := by
    rw [← hm]
    show min m (v x) ≤ m ∧ min m (v x) ≤ v x ∧ (min m (v x) = m ∨ min m (v x) = v x)
    omega
  refine ⟨by omega, fun y hy => ?_, ?_⟩
  · rcases hq y hy with h2 | rfl
    · have := h.low y h2; omega
    · exact e.2.1
  · rcases e.2.2 with e2 | e2
    · rw [e2]; exact h.is
    · exact Or.inr ⟨x, hx, e2⟩
theorem MinP.mono {ι : Type} {n : Nat} {v : ι → Nat} {ok q q' : ι → Prop} {m : Nat} (h : MinP n v ok q m) (hq : ∀ y, q' y → q y) : MinP n v ok q' m := ⟨h.le, fun y hy => h.low y (hq y hy), h.is⟩
/-- the pairs of sets -/
abbrev PairP (N : Nat) (S : List Nat) (q : Nat × Nat → Prop) (m : Nat) : Prop := MinP N (fun x : Nat × Nat => M.cnt N (M.row S x.1 &&& M.row S x.2)) (fun x => x.1 < S.length ∧ x.2 < S.length) q m
theorem pair_end {N m : Nat} {S : List Nat} {q : Nat × Nat → Prop} (hS : S ≠ []) (h : PairP N S q m) (hq : ∀ i j, j ≤ i → i < S.length → q (i, j)) : m = M.meetQ N S :=
  M.meet_eq hS h.le (fun i j hj hi => h.low (i, j) (hq i j hj hi)) (by
    rcases h.is with h | ⟨⟨a, b⟩, ⟨h1, h2⟩, h3⟩
    · exact Or.inl h
    · exact Or.inr ⟨a, b, h1, h2, h3⟩)
/-- those who may be gone -/
abbrev GoneP (N : Nat) (S : List Nat) (k m : Nat) : Prop := MinP N (fun g : Nat => M.cnt N g) (fun g => g < 2 ^ N ∧ M.hasQ S (M.cpl N g) = false) (fun g => g < k ∧ M.hasQ S (M.cpl N g) = false) m
theorem gone_end {N m : Nat} {S : List Nat} (hR : QR N S) (h : GoneP N S (2 ^ N) m) : m = M.failQ N S N 0 + 1 :=
  M.gone_eq hR.ok h.le hR.lo (fun g h1 h2 => h.low g ⟨h1, h2⟩) (by
    rcases h.is with h | ⟨g, ⟨h1, h2⟩, h3⟩
    · exact Or.inl h
    · exact Or.inr ⟨g, h1, h2, h3⟩)
theorem gone_skip {N k m : Nat} {S : List Nat} (h : GoneP N S k m) (hk : M.hasQ S (M.cpl N k) = true) : GoneP N S (k + 1) m := h.mono fun y hy => ⟨by
  by_cases e : y = k
  · rw [e, hk] at hy; cases hy.2
  · have := hy.1; omega, hy.2⟩
theorem gone_take {N k m m' : Nat} {S : List Nat} (h : GoneP N S k m) (hk : M.hasQ S (M.cpl N k) = false) (hkn : k < 2 ^ N) (hm : Nat.min m (M.cnt N k) = m') : GoneP N S (k + 1) m' := h.step k ⟨hkn, hk⟩ hm fun y hy => by
  by_cases e : y = k
  · exact Or.inr e
  · exact Or.inl ⟨by have := hy.1; omega, hy.2⟩
theorem min_int {a b m : Nat} (h : Nat.min a b = m) : (if b < a then (b : Int) else (a : Int)) = (m : Int) := by
  subst h; show _ = ((min a b : Nat) : Int); split <;> omega
theorem sizeN_ok {N s : Nat} (w : World) (hN : N ≤ 8) (hs : s < 2 ^ N) :
    Calls Tryd.prog 50 #[.int .i64 (s : Nat)] w fun e w' => e = .returned (.int .i64 (M.cnt N s : Nat)) ∧ w = w' := by
  rw [← M.pc_cnt (by omega) hs]
  exact size_any s w (by have := pow8 hN; omega)

set_option maxRecDepth 100000 in
set_option maxHeartbeats 2000000 in
theorem qcommon_ok (N : Nat) (S : List Nat) (p : Option Addr) (n cap : Nat) (w : World) (hR : QR N S) (hl : S.length = n) (hcap : n ≤ cap) (hc : HasI (ints S) p w) :
    Calls Tryd.prog 36 #[.int .i64 (N : Nat), .slice p n cap] w fun e w' => e = .returned (.int .i64 (M.meetQ N S : Nat)) ∧ w = w' := by
  have HC : Hid (HasN (M.row S) n p w) := by have := hc.toN; rw [hl] at this; exact this
  have HR : Hid (QR N S) := hR
  have HL : Hid (S.length = n) := hl
  have hn20 : n ≤ 20 := hl ▸ hR.len
  have hN8 := hR.hi
  have h0 : Hid (PairP N S (fun x => x.2 ≤ x.1 ∧ x.1 < 0) N) := (MinP.start _ _ _ _ (fun x hx => absurd hx.2 (Nat.not_lt_zero _)) : PairP N S (fun x => x.2 ≤ x.1 ∧ x.1 < 0) N)
  clear hc hR hl
  go_enter Tryd.func36, Tryd.ntmps36
  go_wp2_with fail
  go_loop [5, 13] (fun u v => ∃ i m : Nat, u = .int .i64 (m : Nat) ∧ v = .int .i64 (i : Nat) ∧ i ≤ n ∧ Hid (PairP N S (fun x => x.2 ≤ x.1 ∧ x.1 < i) m)) (fun _ v => n - (intOf v).toNat)
  case atStart => exact ⟨0, N, rfl, rfl, Nat.zero_le _, h0⟩
  case round =>
    clear h0
    obtain ⟨i, m, rfl, rfl, hi, hP⟩ := hrel
    by_cases hlt : i < n
    · obtain ⟨b, off, rfl, hb, hcell⟩ := HC.out i hlt
      have hri := HR.out.row i
      obtain ⟨s, hs⟩ : ∃ s, M.row S i = s := ⟨_, rfl⟩
      rw [hs] at hcell hri
      have HS : Hid (M.row S i = s) := hs
      clear hs
      have hin : (i : Int) < (n : Int) := by omega
      obtain ⟨i1, hi1⟩ : ∃ i1, i + 1 = i1 := ⟨_, rfl⟩
      have hi1i : (i : Int) + 1 = (i1 : Int) := by omega
      have hic : (i1 : Int) ≤ (cap : Int) := by omega
      have hP0 : Hid (PairP N S (fun x => x.2 ≤ x.1 ∧ (x.1 < i ∨ (x.1 = i ∧ x.2 < 0))) m) := (hP.out.mono (fun y hy => ⟨hy.1, by have := hy.2; omega⟩) : PairP N S (fun x => x.2 ≤ x.1 ∧ (x.1 < i ∨ (x.1 = i ∧ x.2 < 0))) m)
      clear hP
      go_wp2_with fail
      go_loop [5, 23] (fun u v => ∃ j m : Nat, u = .int .i64 (m : Nat) ∧ v = .int .i64 (j : Nat) ∧ j ≤ i1 ∧ Hid (PairP N S (fun x => x.2 ≤ x.1 ∧ (x.1 < i ∨ (x.1 = i ∧ x.2 < j))) m)) (fun _ v => i1 - (intOf v).toNat)
      case atStart => exact ⟨0, m, rfl, rfl, Nat.zero_le _, hP0⟩
      case round =>
        clear hP0 hcell
        obtain ⟨j, y, rfl, rfl, hj, hP⟩ := hrel
        by_cases hjt : j < i1
        · obtain ⟨b', off', e', hb', hcell⟩ := HC.out j (by omega)
          cases e'
          have hrj := HR.out.row j
          obtain ⟨t, ht⟩ : ∃ t, M.row S j = t := ⟨_, rfl⟩
          rw [ht] at hcell hrj
          have HT : Hid (M.row S j = t) := ht
          have hji : (j : Int) < (i1 : Int) := by omega
          have hand := i64_and_nat s t (by omega) (by omega)
          have hst : s &&& t < 2 ^ N := by
            have h1 := HR.out.ok.lt _ (M.row_inS (S := S) (i := i) (by rw [HL.out]; exact hlt))
            rw [HS.out] at h1
            exact M.and_lt2 h1
          have hsz := fun W => sizeN_ok W hN8 hst
          obtain ⟨z, hz⟩ : ∃ z, M.cnt N (s &&& t) = z := ⟨_, rfl⟩
          rw [hz] at hsz
          obtain ⟨g, hg⟩ : ∃ g, s &&& t = g := ⟨_, rfl⟩
          rw [hg] at hand hsz
          obtain ⟨mm, hm⟩ : ∃ m', Nat.min y z = m' := ⟨_, rfl⟩
          have hmi := min_int hm
          have hP2 : Hid (PairP N S (fun x => x.2 ≤ x.1 ∧ (x.1 < i ∨ (x.1 = i ∧ x.2 < j + 1))) mm) := (hP.out.step (i, j) ⟨by rw [HL.out]; exact hlt, by rw [HL.out]; show j < n; omega⟩ (by show Nat.min y (M.cnt N (M.row S i &&& M.row S j)) = mm; rw [HS.out, HT.out, hz]; exact hm) (fun x hx => by
            obtain ⟨a, b⟩ := x
            simp only at hx
            by_cases e : a = i ∧ b = j
            · exact Or.inr (by rw [e.1, e.2])
            · exact Or.inl ⟨hx.1, by show a < i ∨ (a = i ∧ b < j); omega⟩) : PairP N S (fun x => x.2 ≤ x.1 ∧ (x.1 < i ∨ (x.1 = i ∧ x.2 < j + 1))) mm)
          clear hz hm hg hst ht hP
          go_wp2_with fail
          refine (hsz _).mono ?_
          rintro e w2 ⟨rfl, rfl⟩
          go_wp2_with fail
          go_round
          case rel => exact ⟨j + 1, mm, by go_num, by go_num, by omega, hP2⟩
          case measure => simp [intOf]; omega
        · obtain rfl : i1 = j := by omega
          have hP2 : Hid (PairP N S (fun x => x.2 ≤ x.1 ∧ x.1 < i + 1) y) := (hP.out.mono (fun x hx => ⟨hx.1, by have := hx.1; have := hx.2; omega⟩) : PairP N S (fun x => x.2 ≤ x.1 ∧ x.1 < i + 1) y)
          clear hP
          go_wp2_with fail
          go_round
          case rel => exact ⟨i + 1, y, by go_num, by go_num, by omega, hP2⟩
          case measure => simp [intOf]; omega
    · obtain rfl : n = i := by omega
      have HM : Hid (m = M.meetQ N S) := pair_end HR.out.ok.some hP.out (fun a b h1 h2 => ⟨h1, by rw [← HL.out]; exact h2⟩)
      go_wp2_with fail
      go_ret
      exact ⟨by rw [← HM.out]; rfl, rfl⟩
theorem i64_one (N : Nat) (hN : N ≤ 8) {q : Nat} (hq : 2 ^ N = q) : IntKind.i64.wrap (2 ^ N) = (q : Int) := by
  rw [i64_shl_big N (by omega), Nat.shiftLeft_eq, Nat.one_mul, hq]
set_option maxRecDepth 100000 in
set_option maxHeartbeats 2000000 in
theorem qgone_ok (N : Nat) (S : List Nat) (p : Option Addr) (n cap : Nat) (w : World) (hR : QR N S) (hl : S.length = n) (hc : HasI (ints S) p w) :
    Calls Tryd.prog 37 #[.int .i64 (N : Nat), .slice p n cap] w fun e w' => e = .returned (.int .i64 ((M.failQ N S N 0 + 1 : Nat) : Int)) ∧ Below w.heap.size w w' := by
  have HC : Hid (HasI (ints S) p w) := hc
  have HR : Hid (QR N S) := hR
  have hn20 : n ≤ 20 := hl ▸ hR.len
  have hN8 := hR.hi
  have hh := fun s W (hs : s < 256) h => qhas_ok S s p n cap W hl (by unfold maxLen; omega) (fun j => by have := hR.row j; omega) (by omega) h
  have h8 := pow8 hN8
  have h0 : Hid (GoneP N S 0 N) := (MinP.start _ _ _ _ (fun x hx => absurd hx.1 (Nat.not_lt_zero _)) : GoneP N S 0 N)
  obtain ⟨q, hq⟩ : ∃ q : Nat, 2 ^ N = q := ⟨_, rfl⟩
  have hsh := i64_one N hN8 hq
  have HQ : Hid (2 ^ N = q) := hq
  rw [hq] at h8
  have hn64 : (N : Int) < 64 := by omega
  clear hc hR hl hq
  go_enter Tryd.func37, Tryd.ntmps37
  go_wp2_with fail
  go_loopw [5, 10] (fun u v wr => ∃ k m : Nat, u = .int .i64 (m : Nat) ∧ v = .int .i64 (k : Nat) ∧ k ≤ q ∧ Hid (GoneP N S k m) ∧ Hid (Below w.heap.size w wr)) (fun _ v _ => q - (intOf v).toNat)
  case atStart => exact ⟨0, N, rfl, rfl, Nat.zero_le _, h0, Below.refl _ _⟩
  case round =>
    clear h0
    obtain ⟨k, m, rfl, rfl, hk, hP, hB⟩ := hrel
    by_cases hlt : k < q
    · have hkq : (k : Int) < (q : Int) := by omega
      have hkN : k < 2 ^ N := by rw [HQ.out]; exact hlt
      have hot := fun W => qothers_ok N k W hN8 hkN
      have hcp : M.cpl N k < 256 := by have := @M.cpl_lt N k; rw [HQ.out] at this; omega
      have hhs := fun W h => hh (M.cpl N k) W hcp h
      have hsz := fun W => sizeN_ok W hN8 hkN
      obtain ⟨z, hz⟩ : ∃ z, M.cnt N k = z := ⟨_, rfl⟩
      rw [hz] at hsz
      obtain ⟨r, hr⟩ : ∃ r, M.hasQ S (M.cpl N k) = r := ⟨_, rfl⟩
      rw [hr] at hhs
      obtain ⟨c, hcc⟩ : ∃ c, M.cpl N k = c := ⟨_, rfl⟩
      rw [hcc] at hot hhs
      have hcw := HC.out.later hB.out
      cases r with
      | true =>
        have hP2 : Hid (GoneP N S (k + 1) m) := gone_skip hP.out hr
        clear hr hcc hz hP hcp hkN
        go_wp2_with fail
        refine (hot _).mono ?_
        rintro e w2 ⟨rfl, rfl⟩
        go_wp2_with fail
        refine (hhs _ hcw).mono ?_
        rintro e w2 ⟨rfl, hB2⟩
        have FB : Hid (Below w.heap.size w w2) := bel_on hB.out hB2
        clear hB2 hcw
        go_wp2_with fail
        go_roundw
        case rel => exact ⟨k + 1, m, by go_num, by go_num, by omega, hP2, FB⟩
        case measure => simp [intOf]; omega
      | false =>
        obtain ⟨mm, hm⟩ : ∃ m', Nat.min m z = m' := ⟨_, rfl⟩
        have hmi := min_int hm
        have hP2 : Hid (GoneP N S (k + 1) mm) := gone_take hP.out hr hkN (by rw [hz]; exact hm)
        clear hr hcc hz hP hcp hkN hm
        go_wp2_with fail
        refine (hot _).mono ?_
        rintro e w2 ⟨rfl, rfl⟩
        go_wp2_with fail
        refine (hhs _ hcw).mono ?_
        rintro e w2 ⟨rfl, hB2⟩
        have FB : Hid (Below w.heap.size w w2) := bel_on hB.out hB2
        clear hB2 hcw
        go_wp2_with fail
        refine (hsz _).mono ?_
        rintro e w3 ⟨rfl, rfl⟩
        go_wp2_with fail
        go_roundw
        case rel => exact ⟨k + 1, mm, by go_num, by go_num, by omega, hP2, FB⟩
        case measure => simp [intOf]; omega
    · obtain rfl : q = k := by omega
      have HM : Hid (m = M.failQ N S N 0 + 1) := gone_end HR.out (by rw [HQ.out]; exact hP.out)
      go_wp2_with fail
      go_ret
      exact ⟨by rw [← HM.out]; rfl, hB.out⟩
set_option maxRecDepth 100000 in
set_option maxHeartbeats 1000000 in
theorem qMasks_err (m : Int) (zs : List Int) (c : Nat) (p : Option Addr) (n cap : Nat) (w : World) (hl : zs.length = n) (hcap : n ≤ cap) (hc : HasI zs p w) (h0 : qcode m zs = c) (hne : c ≠ 0) :
    Calls Tryd.prog 17 #[.int .i64 m, .slice p n cap] w fun e w' => e = .returned (.tuple #[.int .i64 0, .int .i64 0, errP c]) ∧ Below w.heap.size w w' := by
  have hck := qcheck_ok m zs p n cap w hl hcap hc
  rw [h0, terr_ne hne] at hck
  clear hc h0 hne
  go_enter Tryd.func17, Tryd.ntmps17
  go_wp2_with fail
  refine hck.mono ?_
  rintro e w2 ⟨rfl, hB⟩
  go_wp2_with fail
  go_ret3
  exact ⟨rfl, hB⟩
set_option maxRecDepth 100000 in
set_option maxHeartbeats 1000000 in
theorem qMasks_ok (N : Nat) (S : List Nat) (p : Option Addr) (n cap : Nat) (w : World) (hR : QR N S) (hl : S.length = n) (hcap : n ≤ cap) (hc : HasI (ints S) p w) :
    Calls Tryd.prog 17 #[.int .i64 (N : Nat), .slice p n cap] w fun e w' => e = .returned (.tuple #[.int .i64 (((M.meetQ N S - 1) / 2 : Nat) : Int), .int .i64 (M.failQ N S N 0 : Nat), .nilIface]) ∧ Below w.heap.size w w' := by
  have hck := qcheck_nil N S p n cap w hR hl hcap hc
  have hco := fun W h => qcommon_ok N S p n cap W hR hl hcap h
  have hgo := fun W h => qgone_ok N S p n cap W hR hl h
  have hmp := M.meet_pos hR.ok
  have hml := M.meet_le_n N S
  have hfl := M.fail_lt hR.ok
  have hN8 := hR.hi
  obtain ⟨a, ha⟩ : ∃ a, M.meetQ N S = a + 1 := ⟨M.meetQ N S - 1, by omega⟩
  obtain ⟨f, hf⟩ : ∃ f, M.failQ N S N 0 = f := ⟨_, rfl⟩
  rw [ha] at hco hmp hml
  rw [hf] at hgo hfl
  rw [ha, hf]
  obtain ⟨a1, ha1⟩ : ∃ a1, a + 1 = a1 := ⟨_, rfl⟩
  obtain ⟨f1, hf1⟩ : ∃ f1, f + 1 = f1 := ⟨_, rfl⟩
  rw [ha1] at hco
  rw [hf1] at hgo
  rw [Nat.add_sub_cancel]
  have e1 : (a1 : Int) - 1 = (a : Int) := by omega
  have e2 : (f1 : Int) - 1 = (f : Int) := by omega
  have e3 : (a : Int) / 2 = ((a / 2 : Nat) : Int) := by omega
  obtain ⟨h, hh⟩ : ∃ h, a / 2 = h := ⟨_, rfl⟩
  rw [hh] at e3
  rw [hh]
  have HC : Hid (HasI (ints S) p w) := hc
  clear hc ha hf hh ha1 hf1 hR
  go_enter Tryd.func17, Tryd.ntmps17
  go_wp2_with fail
  refine hck.mono ?_
  rintro e w2 ⟨rfl, hB⟩
  go_wp2_with fail
  refine (hco _ (HC.out.later hB)).mono ?_
  rintro e w3 ⟨rfl, rfl⟩
  go_wp2_with fail
  refine (hgo _ (HC.out.later hB)).mono ?_
  rintro e w4 ⟨rfl, hB2⟩
  have FB : Hid (Below w.heap.size w w4) := bel_on hB hB2
  clear hB hB2
  go_wp2_with fail
  go_ret3
  exact ⟨rfl, FB.out⟩
end Go.Proofs.YtfjmealeglbklaaDoor
