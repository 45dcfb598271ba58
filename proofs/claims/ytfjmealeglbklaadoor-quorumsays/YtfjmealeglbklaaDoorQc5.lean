/- Weights of nodes, at whatever numbers: what is wrong with them and with how much is needed (package quorum, checkVotes); and, as plain mathematics, what a set weighs, told thing by thing, and who can be spared; what lay in memory lies as it lay. -/
import Derived.Test.YtfjmealeglbklaaDoorQc4
namespace Go.Proofs.YtfjmealeglbklaaDoor
open Go.RowKit

/-- what the first i weigh -/
def psum (zs : List Int) : Nat → Int
  | 0 => 0
  | i + 1 => psum zs i + zs[i]?.getD 0
def wOk (z : Int) : Bool := decide (0 ≤ z ∧ z ≤ 20)
def wAll (zs : List Int) : Bool := zs.all wOk
/-- What is wrong with weights and with how much is needed: the number of its error. -/
def vcode (zs : List Int) (need : Int) : Nat := if zs.length = 0 then 5 else if 8 < zs.length then 4 else if wAll zs then (if need < 1 ∨ psum zs zs.length < need then 1 else if 2 * need ≤ psum zs zs.length then 6 else 0) else 1
theorem vcode_none {zs : List Int} {need : Int} (h : zs.length = 0) : vcode zs need = 5 := by unfold vcode; rw [if_pos h]
theorem vcode_full {zs : List Int} {need : Int} (h : 8 < zs.length) : vcode zs need = 4 := by unfold vcode; rw [if_neg (by omega), if_pos h]
theorem wAll_iff {zs : List Int} : wAll zs = true ↔ ∀ i, i < zs.length → wOk (zs[i]?.getD 0) = true := by
  unfold wAll
  rw [List.all_eq_true]
  constructor
  · intro h i hi
    rw [List.getElem?_eq_getElem hi]; exact h _ (List.getElem_mem hi)
  · intro h a ha
    obtain ⟨i, hi, rfl⟩ := List.getElem_of_mem ha
    have := h i hi
    rw [List.getElem?_eq_getElem hi] at this; exact this
theorem vcode_bad {zs : List Int} {need : Int} {i : Nat} (h0 : 0 < zs.length) (h1 : zs.length ≤ 8) (hi : i < zs.length) (h : wOk (zs[i]?.getD 0) = false) : vcode zs need = 1 := by
  unfold vcode
  rw [if_neg (by omega), if_neg (by omega), if_neg]
  intro e
  rw [wAll_iff.1 e i hi] at h; cases h
theorem vcode_good {zs : List Int} {need : Int} (h0 : 0 < zs.length) (h1 : zs.length ≤ 8) (h : wAll zs = true) : vcode zs need = if need < 1 ∨ psum zs zs.length < need then 1 else if 2 * need ≤ psum zs zs.length then 6 else 0 := by
  unfold vcode
  rw [if_neg (by omega), if_neg (by omega), if_pos h]
theorem psum_bounds {zs : List Int} (h : ∀ i, i < zs.length → wOk (zs[i]?.getD 0) = true) : ∀ i, i ≤ zs.length → 0 ≤ psum zs i ∧ psum zs i ≤ 20 * i := by
  intro i
  induction i with
  | zero => intro _; exact ⟨Int.le_refl _, Int.le_refl _⟩
  | succ i ih =>
    intro hi
    have h1 := ih (by omega)
    have h2 := h i (by omega)
    unfold wOk at h2
    have h3 := of_decide_eq_true h2
    simp only [psum]
    omega
namespace M
theorem wtQ_snoc (f : Nat → Nat) (n s : Nat) : wtQ f (n + 1) s = wtQ f n s + (if s.testBit n then f n else 0) := rfl
theorem wtQ_above {f : Nat → Nat} {n s : Nat} (hs : s < 2 ^ n) : ∀ d, wtQ f (n + d) s = wtQ f n s := by
  intro d
  induction d with
  | zero => rfl
  | succ d ih =>
    rw [← Nat.add_assoc, wtQ_snoc, ih]
    have : s.testBit (n + d) = false := Nat.testBit_lt_two_pow (Nat.lt_of_lt_of_le hs (Nat.pow_le_pow_right (by omega) (by omega)))
    rw [this]; simp
/-- the same, thing by thing -/
def wtL (f : Nat → Nat) (xs : List Nat) : Nat := (xs.map f).sum
theorem wtL_snoc (f : Nat → Nat) (xs : List Nat) (x : Nat) : wtL f (xs ++ [x]) = wtL f xs + f x := by simp [wtL]
theorem wtL_filter (f : Nat → Nat) (s : Nat) : ∀ n, wtL f ((List.range n).filter fun j => s.testBit j) = wtQ f n s := by
  intro n
  induction n with
  | zero => rfl
  | succ n ih =>
    rw [List.range_succ, List.filter_append, wtQ_snoc, ← ih]
    cases e : s.testBit n with
    | true => rw [List.filter_cons_of_pos e, List.filter_nil, wtL_snoc]; rfl
    | false => rw [List.filter_cons_of_neg (by rw [e]; simp), List.filter_nil, List.append_nil]; rfl
theorem wtL_bits {f : Nat → Nat} {n s : Nat} (hn : n ≤ 12) (hs : s < 2 ^ n) : wtL f (bits s) = wtQ f n s := by
  unfold bits
  rw [wtL_filter]
  have := wtQ_above (f := f) hs (12 - n)
  rw [show n + (12 - n) = 12 by omega] at this
  exact this
theorem wtL_le {f : Nat → Nat} {m : Nat} (hf : ∀ x, f x ≤ m) : ∀ xs : List Nat, wtL f xs ≤ m * xs.length := by
  intro xs
  induction xs with
  | nil => exact Nat.zero_le _
  | cons x xs ih =>
    have h1 := hf x
    have : wtL f (x :: xs) = f x + wtL f xs := by simp [wtL]
    rw [this, List.length_cons, Nat.mul_add, Nat.mul_one]; omega
/-- without one of them -/
def Wo (s i r : Nat) : Prop := ∀ j, r.testBit j = (s.testBit j && !(1 <<< i).testBit j)
theorem Wo.sub {s i r : Nat} (h : Wo s i r) : subB r s = true := subB_iff.2 fun j hj => by
  rw [h j] at hj
  cases e : s.testBit j with
  | true => rfl
  | false => rw [e] at hj; cases hj
theorem qone_bit (i j : Nat) : (1 <<< i).testBit j = decide (j = i) := by
  rw [Nat.shiftLeft_eq, Nat.one_mul, Nat.testBit_two_pow]
  simp [eq_comm]
theorem Wo.ne {s i r : Nat} (h : Wo s i r) (hb : s.testBit i = true) : r ≠ s := fun e => by
  have := h i
  rw [e, hb, qone_bit] at this
  simp at this
theorem Wo.big {s i r t : Nat} (h : Wo s i r) (ht : subB t s = true) (hi : t.testBit i = false) : subB t r = true := subB_iff.2 fun j hj => by
  rw [h j, subB_iff.1 ht j hj, qone_bit]
  have : j ≠ i := fun e => by rw [e, hi] at hj; cases hj
  simp [this]
theorem sub_diff {s t : Nat} (h : subB t s = true) (hne : t ≠ s) : ∃ i, s.testBit i = true ∧ t.testBit i = false := by
  refine Classical.byContradiction fun hn => hne (sub_anti h (subB_iff.2 fun j hj => ?_))
  cases e : t.testBit j with
  | true => rfl
  | false => exact absurd ⟨j, hj, e⟩ hn
/-- one can be spared -/
theorem vote_spare {f : Nat → Nat} {n need s i r : Nat} (hb : s.testBit i = true) (h : Wo s i r) (hw : need ≤ wtQ f n r) : voteB f n need s = false := by
  cases e : voteB f n need s with
  | false => rfl
  | true => exact absurd ((voteB_iff.1 e).2 r h.sub hw) (h.ne hb)
theorem vote_light {f : Nat → Nat} {n need s : Nat} (h : wtQ f n s < need) : voteB f n need s = false := by
  cases e : voteB f n need s with
  | false => rfl
  | true => have := (voteB_iff.1 e).1; omega
theorem vote_yes {f : Nat → Nat} {n need s : Nat} (hw : need ≤ wtQ f n s) (h : ∀ i, s.testBit i = true → ∃ r, Wo s i r ∧ wtQ f n r < need) : voteB f n need s = true := by
  rw [voteB_iff]
  refine ⟨hw, fun t ht hn => Classical.byContradiction fun hne => ?_⟩
  obtain ⟨i, h1, h2⟩ := sub_diff ht hne
  obtain ⟨r, h3, h4⟩ := h i h1
  have := wt_sub (f := f) (h3.big ht h2) n
  omega
end M
/-- Right weights, and how much is needed. -/
structure VR (W : List Nat) (need : Nat) : Prop where
  lo : 1 ≤ W.length
  hi : W.length ≤ 8
  le : ∀ i, M.row W i ≤ 20
  some : 1 ≤ need
  most : need ≤ M.wtQ (M.row W) W.length (2 ^ W.length - 1)
  half : M.wtQ (M.row W) W.length (2 ^ W.length - 1) < 2 * need
theorem psum_ints (W : List Nat) : ∀ i, psum (ints W) i = (M.wtQ (M.row W) i (2 ^ i - 1) : Nat) := by
  have key : ∀ i s, (∀ j, j < i → s.testBit j = true) → psum (ints W) i = (M.wtQ (M.row W) i s : Nat) := by
    intro i
    induction i with
    | zero => intro s _; rfl
    | succ i ih =>
      intro s h
      simp only [psum]
      rw [ih s fun j hj => h j (by omega), M.wtQ_snoc, h i (by omega), if_pos rfl, ints_get]
      omega
  exact fun i => key i _ fun j hj => M.all_bits hj
theorem vcode_get {zs : List Int} {need : Int} (h : vcode zs need = 0) : ∃ (W : List Nat) (nd : Nat), zs = ints W ∧ need = nd ∧ VR W nd := by
  unfold vcode at h
  by_cases h1 : zs.length = 0
  · rw [if_pos h1] at h; cases h
  rw [if_neg h1] at h
  by_cases h2 : 8 < zs.length
  · rw [if_pos h2] at h; cases h
  rw [if_neg h2] at h
  by_cases h3 : wAll zs = true
  · rw [if_pos h3] at h
    by_cases h4 : need < 1 ∨ psum zs zs.length < need
    · rw [if_pos h4] at h; cases h
    rw [if_neg h4] at h
    by_cases h5 : 2 * need ≤ psum zs zs.length
    · rw [if_pos h5] at h; cases h
    have hz : ∀ i, i < zs.length → 0 ≤ zs[i]?.getD 0 ∧ zs[i]?.getD 0 ≤ 20 := fun i hi => by
      have := wAll_iff.1 h3 i hi
      unfold wOk at this
      exact of_decide_eq_true this
    have hzs : zs = ints (qnats zs) := by
      apply List.ext_getElem?
      intro j
      unfold ints qnats
      rw [List.map_map, List.getElem?_map]
      by_cases hj : j < zs.length
      · have := hz j hj
        rw [List.getElem?_eq_getElem hj] at this ⊢
        simp only [Option.map_some, Option.getD_some, Function.comp] at this ⊢
        congr 1; omega
      · rw [List.getElem?_eq_none (by omega)]; rfl
    have hlen : (qnats zs).length = zs.length := by unfold qnats; rw [List.length_map]
    have hps : psum zs zs.length = (M.wtQ (M.row (qnats zs)) (qnats zs).length (2 ^ (qnats zs).length - 1) : Nat) := by
      have := psum_ints (qnats zs) zs.length
      rw [← hzs] at this
      rw [this, hlen]
    refine ⟨qnats zs, need.toNat, hzs, by omega, by omega, by omega, fun i => ?_, by omega, by omega, by omega⟩
    by_cases hi : i < zs.length
    · have := hz i hi
      unfold M.row qnats
      rw [List.getElem?_map]
      rw [List.getElem?_eq_getElem hi] at this ⊢
      simp only [Option.map_some, Option.getD_some] at this ⊢
      omega
    · unfold M.row; rw [List.getElem?_eq_none (by omega)]; decide
  · rw [if_neg h3] at h; cases h
theorem VR.ok {W : List Nat} {nd : Nat} (h : VR W nd) : wAll (ints W) = true := wAll_iff.2 fun i _ => by
  rw [ints_get]
  have := h.le i
  exact decide_eq_true (by omega)
theorem VR.code (W : List Nat) (nd : Nat) (h : VR W nd) (need : Int) : vcode (ints W) need = if need < 1 ∨ (M.wtQ (M.row W) W.length (2 ^ W.length - 1) : Int) < need then 1 else if 2 * need ≤ (M.wtQ (M.row W) W.length (2 ^ W.length - 1) : Int) then 6 else 0 := by
  have h1 := h.lo
  have h2 := h.hi
  rw [vcode_good (by rw [ints_length]; omega) (by rw [ints_length]; omega) h.ok, ints_length, psum_ints]
theorem VR.zero {W : List Nat} {nd : Nat} (h : VR W nd) : vcode (ints W) nd = 0 := by
  have h1 := h.some
  have h2 := h.most
  have h3 := h.half
  rw [h.code, if_neg (by omega), if_neg (by omega)]
set_option maxRecDepth 100000 in
set_option maxHeartbeats 2000000 in
theorem qcv_ok (zs : List Int) (need : Int) (p : Option Addr) (n cap : Nat) (w : World) (hl : zs.length = n) (hmax : n ≤ maxLen) (hc : HasI zs p w) :
    Calls Tryd.prog 40 #[.slice p n cap, .int .i64 need] w fun e w' => e = .returned (terr (vcode zs need)) ∧ w = w' := by
  unfold maxLen at hmax
  by_cases h0 : n = 0
  · subst h0
    have HQ : Hid (vcode zs need = 5) := vcode_none hl
    clear hc
    go_enter Tryd.func40, Tryd.ntmps40
    go_wp2_with fail
    go_ret
    exact ⟨by rw [HQ.out]; rfl, rfl⟩
  have g3 : ((n : Int) == 0) = false := by simp; omega
  have hn0 : 0 < n := by omega
  clear h0
  by_cases h20 : 8 < n
  · have HQ : Hid (vcode zs need = 4) := vcode_full (by omega)
    have g4 : decide (8 < (n : Int)) = true := decide_eq_true (by omega)
    clear hc
    go_enter Tryd.func40, Tryd.ntmps40
    go_wp2_with fail
    go_ret
    exact ⟨by rw [HQ.out]; rfl, rfl⟩
  have g4 : decide (8 < (n : Int)) = false := decide_eq_false (by omega)
  have hn8 : n ≤ 8 := by omega
  clear h20
  have HC : Hid (HasI zs p w) := hc
  have HL : Hid (zs.length = n) := hl
  clear hc hl
  go_enter Tryd.func40, Tryd.ntmps40
  go_wp2_with fail
  go_loop [5, 20] (fun u v => ∃ (i : Nat) (m : Int), u = .int .i64 m ∧ v = .int .i64 (i : Nat) ∧ i ≤ n ∧ Hid (psum zs i = m) ∧ 0 ≤ m ∧ m ≤ 20 * i ∧ Hid (∀ j, j < i → wOk (zs[j]?.getD 0) = true)) (fun _ v => n - (intOf v).toNat)
  case atStart => exact ⟨0, 0, rfl, rfl, Nat.zero_le _, (rfl : psum zs 0 = 0), by omega, by omega, fun j h => absurd h (Nat.not_lt_zero _)⟩
  case round =>
    obtain ⟨i, m, rfl, rfl, hi, hm, hm0, hm1, hz⟩ := hrel
    by_cases hlt : i < n
    · obtain ⟨b, off, rfl, hb, hcell⟩ := HC.out i (by rw [HL.out]; exact hlt)
      have hps : psum zs (i + 1) = psum zs i + zs[i]?.getD 0 := rfl
      rw [hm.out] at hps
      obtain ⟨z, hzz⟩ : ∃ z, zs[i]?.getD 0 = z := ⟨_, rfl⟩
      rw [hzz] at hcell hps
      have hin : (i : Int) < (n : Int) := by omega
      by_cases hz0 : z < 0
      · have HQ : Hid (vcode zs need = 1) := vcode_bad (i := i) (by rw [HL.out]; exact hn0) (by rw [HL.out]; exact hn8) (by rw [HL.out]; exact hlt) (by rw [hzz]; exact decide_eq_false (by omega))
        have g5 : decide (z < 0) = true := decide_eq_true hz0
        clear hps hzz hz0
        go_wp2_with fail
        go_ret
        exact ⟨by rw [HQ.out]; rfl, rfl⟩
      have g5 : decide (z < 0) = false := decide_eq_false hz0
      by_cases hz2 : 20 < z
      · have HQ : Hid (vcode zs need = 1) := vcode_bad (i := i) (by rw [HL.out]; exact hn0) (by rw [HL.out]; exact hn8) (by rw [HL.out]; exact hlt) (by rw [hzz]; exact decide_eq_false (by omega))
        have g6 : decide (20 < z) = true := decide_eq_true hz2
        clear hps hzz hz0 hz2
        go_wp2_with fail
        go_ret
        exact ⟨by rw [HQ.out]; rfl, rfl⟩
      have g6 : decide (20 < z) = false := decide_eq_false hz2
      have HN : Hid (∀ j, j < i + 1 → wOk (zs[j]?.getD 0) = true) := fun j hj => by
        by_cases e : j = i
        · rw [e, hzz]; exact decide_eq_true (by omega)
        · exact hz.out j (by omega)
      obtain ⟨y, hy⟩ : ∃ y, m + z = y := ⟨_, rfl⟩
      have hy0 : 0 ≤ y := by omega
      have hy1 : y ≤ 20 * ((i + 1 : Nat) : Int) := by omega
      have HY : Hid (psum zs (i + 1) = y) := hps.trans hy
      have hzl : 0 ≤ z := by omega
      have hzh : z ≤ 20 := by omega
      have hy2 : y ≤ 160 := by omega
      clear hps hzz hz0 hz2
      go_wp2_with fail
      go_round
      case rel => exact ⟨i + 1, y, rfl, by go_num, by omega, HY, hy0, hy1, HN⟩
      case measure => simp [intOf]; omega
    · obtain rfl : n = i := by omega
      have hg := vcode_good (need := need) (by rw [HL.out]; exact hn0) (by rw [HL.out]; exact hn8) (wAll_iff.2 (by rw [HL.out]; exact hz.out))
      rw [HL.out, hm.out] at hg
      by_cases hc1 : need < 1
      · have HQ : Hid (vcode zs need = 1) := by rw [if_pos (Or.inl hc1)] at hg; exact hg
        have g5 : decide (need < 1) = true := decide_eq_true hc1
        clear hg hc1
        go_wp2_with fail
        go_ret
        exact ⟨by rw [HQ.out]; rfl, rfl⟩
      have g5 : decide (need < 1) = false := decide_eq_false hc1
      by_cases hc2 : m < need
      · have HQ : Hid (vcode zs need = 1) := by rw [if_pos (Or.inr hc2)] at hg; exact hg
        have g6 : decide (m < need) = true := decide_eq_true hc2
        clear hg hc1 hc2
        go_wp2_with fail
        go_ret
        exact ⟨by rw [HQ.out]; rfl, rfl⟩
      have g6 : decide (m < need) = false := decide_eq_false hc2
      have hnl : 1 ≤ need := by omega
      have hnh : need ≤ 160 := by omega
      rw [if_neg (by omega)] at hg
      obtain ⟨d, hd⟩ : ∃ d, 2 * need = d := ⟨_, rfl⟩
      rw [hd] at hg
      by_cases hc3 : d ≤ m
      · have HQ : Hid (vcode zs need = 6) := by rw [if_pos hc3] at hg; exact hg
        have g7 : decide (d ≤ m) = true := decide_eq_true hc3
        clear hg hc1 hc2 hc3
        go_wp2_with fail
        go_ret
        exact ⟨by rw [HQ.out]; rfl, rfl⟩
      · have HQ : Hid (vcode zs need = 0) := by rw [if_neg hc3] at hg; exact hg
        have g7 : decide (d ≤ m) = false := decide_eq_false hc3
        clear hg hc1 hc2 hc3
        go_wp2_with fail
        go_ret
        exact ⟨by rw [HQ.out]; rfl, rfl⟩
end Go.Proofs.YtfjmealeglbklaaDoor
