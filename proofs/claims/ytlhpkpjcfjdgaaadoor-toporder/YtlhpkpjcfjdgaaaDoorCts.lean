/- Plain mathematics of cuts through traces: of each process so many of its events. A cut is whole just if it has all that happened before any of its events; the line in a cut is whole, in it, and no whole cut in it goes beyond; whole cuts are closed under greater and lesser numbers. No program text is named. -/
import Derived.Test.YtlhpkpjcfjdgaaaDoorStp
import Derived.Test.YtlhpkpjcfjdgaaaDoorFst
namespace Go.Proofs.YtlhpkpjcfjdgaaaDoor.M

/-! ### how many of a process -/
/-- how many of the first k events were at process p -/
def evn (T : List (Int × Int)) (p k : Nat) : Nat := cb k fun j => pr T j == (p : Int)
theorem evn_succ (T : List (Int × Int)) (p k : Nat) : evn T p (k + 1) = evn T p k + if pr T k = (p : Int) then 1 else 0 := by
  unfold evn
  by_cases h : pr T k = (p : Int)
  · rw [cb_at (b := true) (by simp [h]), if_pos h]; rfl
  · rw [cb_at (b := false) (by simp [h]), if_neg h]; rfl
theorem evn_le (T : List (Int × Int)) (p k : Nat) : evn T p k ≤ k := cb_le _ _
theorem evn_mono (T : List (Int × Int)) (p : Nat) {k m : Nat} (h : k ≤ m) : evn T p k ≤ evn T p m := cb_more h _
theorem nth_evn {T : List (Int × Int)} {p i : Nat} (h : pr T i = (p : Int)) : nth T i = evn T p i := by unfold nth evn; rw [h]
theorem nth_lt_evn {T : List (Int × Int)} {p i k : Nat} (h : pr T i = (p : Int)) (hi : i < k) : nth T i < evn T p k := by
  have h1 := evn_succ T p i
  rw [if_pos h] at h1
  have h2 := evn_mono T p (show i + 1 ≤ k by omega)
  rw [nth_evn h]; omega
/-- of what goes on being so backwards, as many as the first ones -/
theorem first_iff {T : List (Int × Int)} {p : Nat} {Q : Nat → Bool} (n : Nat) (h : ∀ i j, i < j → j < n → pr T i = (p : Int) → pr T j = (p : Int) → Q j = true → Q i = true) :
    cb n (fun i => pr T i == (p : Int) && Q i) ≤ evn T p n ∧ ∀ j, j < n → pr T j = (p : Int) → (Q j = true ↔ nth T j < cb n (fun i => pr T i == (p : Int) && Q i)) := by
  induction n with
  | zero => exact ⟨Nat.zero_le _, fun j hj => by omega⟩
  | succ n ih =>
    obtain ⟨h1, h2⟩ := ih (fun i j a b => h i j a (by omega))
    have hs := evn_succ T p n
    by_cases hp : pr T n = (p : Int)
    · rw [if_pos hp] at hs
      cases hq : Q n with
      | true =>
        have hall : cb n (fun i => pr T i == (p : Int) && Q i) = evn T p n := by
          unfold evn
          refine cb_congr fun j hj => ?_
          cases e : pr T j == (p : Int) with
          | false => rfl
          | true => rw [Bool.true_and]; exact h j n hj (by omega) (by simpa using e) hp hq
        have hb : (fun i => pr T i == (p : Int) && Q i) n = true := by show (pr T n == (p : Int) && Q n) = true; rw [hq, hp]; simp
        rw [cb_at hb, hall, if_pos rfl]
        refine ⟨by omega, fun j hj e => ?_⟩
        constructor
        · intro _
          have := nth_lt_evn e hj
          omega
        · intro _
          by_cases ej : j = n
          · subst ej; exact hq
          · exact h j n (by omega) (by omega) e hp hq
      | false =>
        have hb : (fun i => pr T i == (p : Int) && Q i) n = false := by show (pr T n == (p : Int) && Q n) = false; rw [hq]; simp
        rw [cb_at hb]
        simp only [Bool.false_eq_true, if_false, Nat.add_zero]
        refine ⟨by omega, fun j hj e => ?_⟩
        by_cases ej : j = n
        · subst ej
          rw [hq]
          constructor
          · intro hh; cases hh
          · intro hh; have := nth_evn e; omega
        · exact h2 j (by omega) e
    · have hb : (fun i => pr T i == (p : Int) && Q i) n = false := by
        show (pr T n == (p : Int) && Q n) = false
        rw [show (pr T n == (p : Int)) = false by simpa using hp]; rfl
      rw [if_neg hp] at hs
      rw [cb_at hb]
      simp only [Bool.false_eq_true, if_false, Nat.add_zero]
      refine ⟨by omega, fun j hj e => ?_⟩
      by_cases ej : j = n
      · subst ej; exact absurd e hp
      · exact h2 j (by omega) e
theorem first_min (T : List (Int × Int)) (p m n : Nat) : cb n (fun i => pr T i == (p : Int) && decide (nth T i < m)) = min m (evn T p n) := by
  induction n with
  | zero => simp [cb, evn]
  | succ n ih =>
    rw [evn_succ]
    by_cases hp : pr T n = (p : Int)
    · rw [if_pos hp]
      by_cases hm : nth T n < m
      · have hb : (fun i => pr T i == (p : Int) && decide (nth T i < m)) n = true := by show (pr T n == (p : Int) && decide (nth T n < m)) = true; rw [hp, decide_eq_true hm]; simp
        rw [cb_at hb, ih, if_pos rfl]
        rw [nth_evn hp] at hm
        omega
      · have hb : (fun i => pr T i == (p : Int) && decide (nth T i < m)) n = false := by show (pr T n == (p : Int) && decide (nth T n < m)) = false; rw [decide_eq_false hm]; simp
        rw [cb_at hb, ih]
        rw [nth_evn hp] at hm
        simp only [Bool.false_eq_true, if_false, Nat.add_zero]
        omega
    · have hb : (fun i => pr T i == (p : Int) && decide (nth T i < m)) n = false := by
        show (pr T n == (p : Int) && decide (nth T n < m)) = false
        rw [show (pr T n == (p : Int)) = false by simpa using hp]; rfl
      rw [cb_at hb, ih, if_neg hp]
      rfl

/-! ### cuts -/
/-- is an event in a cut? -/
def inC (T : List (Int × Int)) (c : List Nat) (j : Nat) : Bool := decide (nth T j < row c (pr T j).toNat)
theorem inC_iff {T : List (Int × Int)} {c : List Nat} {j p : Nat} (h : pr T j = (p : Int)) : inC T c j = true ↔ nth T j < row c p := by
  unfold inC; rw [decide_eq_true_eq, h, Int.toNat_natCast]
/-- the events of a cut, as a set -/
def cset (T : List (Int × Int)) (c : List Nat) : Nat → Nat
  | 0 => 0
  | k + 1 => if inC T c k = true then cset T c k + 2 ^ k else cset T c k
theorem cset_lt (T : List (Int × Int)) (c : List Nat) (k : Nat) : cset T c k < 2 ^ k := by
  induction k with
  | zero => simp [cset]
  | succ k ih =>
    simp only [cset]
    rw [Nat.pow_succ]
    split <;> omega
theorem cset_bit (T : List (Int × Int)) (c : List Nat) (k j : Nat) : (cset T c k).testBit j = (decide (j < k) && inC T c j) := by
  induction k with
  | zero => simp [cset]
  | succ k ih =>
    simp only [cset]
    have hlt := cset_lt T c k
    by_cases h : inC T c k = true
    · rw [if_pos h]
      have e : cset T c k + 2 ^ k = 2 ^ k * 1 ||| cset T c k := by
        rw [← Nat.two_pow_add_eq_or_of_lt hlt]; omega
      rw [e, Nat.testBit_or, ih, Nat.mul_one, Nat.testBit_two_pow]
      by_cases hj : k = j
      · subst hj; simp [h]
      · by_cases hl : j < k
        · simp [hl, hj, show j < k + 1 by omega]
        · simp [hl, hj, show ¬ j < k + 1 by omega]
    · rw [if_neg h, ih]
      by_cases hj : j = k
      · subst hj; simp [h]
      · by_cases hl : j < k
        · simp [hl, show j < k + 1 by omega]
        · simp [hl, show ¬ j < k + 1 by omega]
/-- no event in the cut, of the first k, heard of one that is not -/
def whTo (T : List (Int × Int)) (c : List Nat) : Nat → Bool
  | 0 => true
  | k + 1 => whTo T c k && (!inC T c k || decide (fm T k < 0) || inC T c (fm T k).toNat)
theorem whTo_iff (T : List (Int × Int)) (c : List Nat) (n : Nat) : whTo T c n = true ↔ ∀ i, i < n → inC T c i = true → 0 ≤ fm T i → inC T c (fm T i).toNat = true := by
  induction n with
  | zero => simp [whTo]
  | succ n ih =>
    simp only [whTo, Bool.and_eq_true, Bool.or_eq_true, Bool.not_eq_true', decide_eq_true_eq, ih]
    constructor
    · rintro ⟨h1, h2⟩ i hi a b
      by_cases e : i = n
      · subst e
        rcases h2 with (h2 | h2) | h2
        · rw [a] at h2; cases h2
        · omega
        · exact h2
      · exact h1 i (by omega) a b
    · intro h
      refine ⟨fun i hi => h i (by omega), ?_⟩
      cases e : inC T c n with
      | false => exact .inl (.inl rfl)
      | true =>
        by_cases f : fm T n < 0
        · exact .inl (.inr f)
        · exact .inr (h n (by omega) e (by omega))
theorem whTo_not {T : List (Int × Int)} {c : List Nat} {i n : Nat} (hi : i < n) (h1 : inC T c i = true) (h2 : 0 ≤ fm T i) (h3 : inC T c (fm T i).toNat = false) : whTo T c n = false := by
  cases e : whTo T c n with
  | false => rfl
  | true => rw [(whTo_iff T c n).1 e i hi h1 h2] at h3; cases h3
/-- is a cut whole? -/
def whB (T : List (Int × Int)) (c : List Nat) : Bool := whTo T c T.length
/-- an event of its process ahead of one in the cut is in it -/
theorem inC_pr {T : List (Int × Int)} {c : List Nat} {i j : Nat} (hj : j < i) (e : pr T j = pr T i) (h : inC T c i = true) : inC T c j = true := by
  unfold inC at *
  rw [decide_eq_true_eq] at *
  have := nth_lt hj e
  rw [e]; omega
/-- A WHOLE CUT HAS ALL THAT HAPPENED BEFORE -/
theorem wh_bs {P : Int} {T : List (Int × Int)} (hk : TOk P T) (c : List Nat) : whB T c = true ↔ ∀ i, i < T.length → inC T c i = true → ∀ k, (bs T i).testBit k = true → inC T c k = true := by
  unfold whB
  rw [whTo_iff]
  constructor
  · intro h i
    induction i using Nat.strongRecOn with
    | _ i ih =>
      intro hi hc k hb
      obtain ⟨j, hj, hm, hkj⟩ := (bs_bit T i k).1 hb
      have hcj : inC T c j = true := by
        unfold mustB at hm
        simp only [Bool.or_eq_true, beq_iff_eq] at hm
        rcases hm with hm | hm
        · exact inC_pr hj hm hc
        · have := h i hi hc (by omega)
          rw [hm, Int.toNat_natCast] at this
          exact this
      rcases hkj with rfl | hkj
      · exact hcj
      · exact ih j hj (by omega) hcj k hkj
  · intro h i hi hc hf
    have hlt := hk.fmI i hi
    refine h i hi hc _ (bs_must (by omega) ?_)
    unfold mustB
    rw [Int.toNat_of_nonneg hf]
    simp
theorem wh_sub {P : Int} {T : List (Int × Int)} (hk : TOk P T) (c : List Nat) : whB T c = true ↔ ∀ i, i < T.length → (cset T c T.length).testBit i = true → subB (bs T i) (cset T c T.length) = true := by
  rw [wh_bs hk]
  constructor
  · intro h i hi hc
    rw [cset_bit, Bool.and_eq_true] at hc
    refine subB_iff.2 fun k hb => ?_
    rw [cset_bit, h i hi hc.2 k hb, Bool.and_true, decide_eq_true_eq]
    have := bs_in T i k hb; omega
  · intro h i hi hc k hb
    have := subB_iff.1 (h i hi (by rw [cset_bit, hc, Bool.and_true, decide_eq_true_eq]; exact hi)) k hb
    rw [cset_bit, Bool.and_eq_true] at this
    exact this.2
/-- a cut that may be -/
structure COk (P : Int) (T : List (Int × Int)) (c : List Nat) : Prop where
  len : (c.length : Int) = P
  rng : ∀ p, p < c.length → row c p ≤ evn T p T.length
theorem pr_nat {P : Int} {T : List (Int × Int)} (hk : TOk P T) {i : Nat} (hi : i < T.length) : ∃ p : Nat, pr T i = (p : Int) ∧ (p : Int) < P := by
  have h0 := hk.pr0 i hi
  have h1 := hk.prP i hi
  exact ⟨(pr T i).toNat, by omega, by omega⟩

/-! ### the line -/
/-- an event that is in the cut, with all that happened before -/
def lnB (T : List (Int × Int)) (c : List Nat) (i : Nat) : Bool := inC T c i && subB (bs T i) (cset T c T.length)
theorem lnB_iff {T : List (Int × Int)} {c : List Nat} {i : Nat} (hi : i < T.length) : lnB T c i = true ↔ inC T c i = true ∧ ∀ k, (bs T i).testBit k = true → inC T c k = true := by
  unfold lnB
  rw [Bool.and_eq_true, subB_iff]
  constructor
  · rintro ⟨h1, h2⟩
    refine ⟨h1, fun k hb => ?_⟩
    have := h2 k hb
    rw [cset_bit, Bool.and_eq_true] at this
    exact this.2
  · rintro ⟨h1, h2⟩
    refine ⟨h1, fun k hb => ?_⟩
    rw [cset_bit, h2 k hb, Bool.and_true, decide_eq_true_eq]
    have := bs_in T i k hb; omega
/-- and so is all that happened before it -/
theorem lnB_bs {T : List (Int × Int)} {c : List Nat} {i k : Nat} (hi : i < T.length) (h : lnB T c i = true) (hb : (bs T i).testBit k = true) : lnB T c k = true := by
  have hki := bs_in T i k hb
  obtain ⟨h1, h2⟩ := (lnB_iff hi).1 h
  exact (lnB_iff (by omega)).2 ⟨h2 k hb, fun m hm => h2 m (bs_trans T i k m hb hm)⟩
/-- of process p so many -/
def ln (T : List (Int × Int)) (c : List Nat) (p : Nat) : Nat := cb T.length fun i => pr T i == (p : Int) && lnB T c i
def line (T : List (Int × Int)) (c : List Nat) : List Nat := (List.range c.length).map (ln T c)
theorem line_length (T : List (Int × Int)) (c : List Nat) : (line T c).length = c.length := by simp [line]
theorem line_row (T : List (Int × Int)) {c : List Nat} {p : Nat} (h : p < c.length) : row (line T c) p = ln T c p := by simp [row, line, h]
theorem ln_iff {T : List (Int × Int)} {c : List Nat} {p : Nat} : ln T c p ≤ evn T p T.length ∧ ∀ j, j < T.length → pr T j = (p : Int) → (lnB T c j = true ↔ nth T j < ln T c p) :=
  first_iff T.length fun _ _ h1 h2 e1 e2 h => lnB_bs h2 h (bs_must h1 (must_pr (e1.trans e2.symm)))
theorem line_in {P : Int} {T : List (Int × Int)} (hk : TOk P T) {c : List Nat} (hc : (c.length : Int) = P) {j : Nat} (hj : j < T.length) : inC T (line T c) j = lnB T c j := by
  obtain ⟨p, hp, hpP⟩ := pr_nat hk hj
  rw [Bool.eq_iff_iff, inC_iff hp, line_row T (by omega), (ln_iff.2 j hj hp)]
theorem line_whole {P : Int} {T : List (Int × Int)} (hk : TOk P T) {c : List Nat} (hc : (c.length : Int) = P) : whB T (line T c) = true := by
  rw [wh_bs hk]
  intro i hi h k hb
  rw [line_in hk hc hi] at h
  have := bs_in T i k hb
  rw [line_in hk hc (by omega)]
  exact lnB_bs hi h hb
theorem line_le (T : List (Int × Int)) (c : List Nat) (p : Nat) : ln T c p ≤ row c p := by
  have h1 : ln T c p ≤ cb T.length fun i => pr T i == (p : Int) && decide (nth T i < row c p) := by
    unfold ln
    refine cb_mono fun j hj h => ?_
    rw [Bool.and_eq_true] at *
    obtain ⟨e, h⟩ := h
    refine ⟨e, ?_⟩
    rw [decide_eq_true_eq]
    exact (inC_iff (by simpa using e)).1 ((lnB_iff hj).1 h).1
  rw [first_min] at h1
  omega
theorem line_ok {P : Int} {T : List (Int × Int)} {c : List Nat} (hc : (c.length : Int) = P) : COk P T (line T c) :=
  ⟨by rw [line_length]; exact hc, fun p hp => by rw [line_length] at hp; rw [line_row T hp]; exact ln_iff.1⟩
/-- no whole cut in the cut goes beyond -/
theorem line_most {P : Int} {T : List (Int × Int)} (hk : TOk P T) {c d : List Nat} (hd : COk P T d) (hw : whB T d = true) (hle : ∀ p, p < d.length → row d p ≤ row c p) {p : Nat} (hp : p < d.length) : row d p ≤ ln T c p := by
  have h1 : (cb T.length fun i => pr T i == (p : Int) && decide (nth T i < row d p)) ≤ ln T c p := by
    unfold ln
    refine cb_mono fun j hj h => ?_
    rw [Bool.and_eq_true] at *
    obtain ⟨e, h⟩ := h
    refine ⟨e, ?_⟩
    rw [decide_eq_true_eq] at h
    have e' : pr T j = (p : Int) := by simpa using e
    have up : ∀ k, k < T.length → inC T d k = true → inC T c k = true := fun k hkk hh => by
      obtain ⟨q, hq, hqP⟩ := pr_nat hk hkk
      rw [inC_iff hq] at *
      have := hle q (by have := hd.len; omega)
      omega
    have hin : inC T d j = true := (inC_iff e').2 h
    refine (lnB_iff hj).2 ⟨up j hj hin, fun k hb => up k (by have := bs_in T j k hb; omega) ((wh_bs hk d).1 hw j hj hin k hb)⟩
  rw [first_min] at h1
  have := hd.rng p hp
  omega
/-- the greatest whole cut in a cut is one: what is whole, in it, and beyond which none goes, is the line -/
theorem line_one {P : Int} {T : List (Int × Int)} (hk : TOk P T) {c d : List Nat} (hc : COk P T c) (hd : COk P T d) (hw : whB T d = true) (hle : ∀ p, p < d.length → row d p ≤ row c p) (hm : ∀ p, p < d.length → ln T c p ≤ row d p) : d = line T c := by
  have hl : d.length = c.length := by have := hc.len; have := hd.len; omega
  apply List.ext_getElem
  · rw [line_length]; exact hl
  · intro p h1 h2
    have e1 : row d p = d[p] := by simp [row, h1]
    have e2 : row (line T c) p = (line T c)[p] := by simp [row, h2]
    rw [← e1, ← e2, line_row T (by omega)]
    have := hm p h1
    have := line_most hk hd hw hle h1
    omega
/-- of a whole cut it is the cut -/
theorem line_self {P : Int} {T : List (Int × Int)} (hk : TOk P T) {c : List Nat} (hc : COk P T c) (hw : whB T c = true) : line T c = c :=
  (line_one hk hc hc hw (fun _ _ => Nat.le_refl _) (fun p _ => line_le T c p)).symm

/-! ### a lattice -/
def most (c d : List Nat) : List Nat := (List.range c.length).map fun p => if row c p < row d p then row d p else row c p
def least (c d : List Nat) : List Nat := (List.range c.length).map fun p => if row c p < row d p then row c p else row d p
theorem most_length (c d : List Nat) : (most c d).length = c.length := by simp [most]
theorem least_length (c d : List Nat) : (least c d).length = c.length := by simp [least]
theorem most_row {c d : List Nat} {p : Nat} (h : p < c.length) : row (most c d) p = if row c p < row d p then row d p else row c p := by simp [row, most, h]
theorem least_row {c d : List Nat} {p : Nat} (h : p < c.length) : row (least c d) p = if row c p < row d p then row c p else row d p := by simp [row, least, h]
theorem most_in {P : Int} {T : List (Int × Int)} (hk : TOk P T) {c d : List Nat} (hc : (c.length : Int) = P) {j : Nat} (hj : j < T.length) : inC T (most c d) j = (inC T c j || inC T d j) := by
  obtain ⟨p, hp, hpP⟩ := pr_nat hk hj
  rw [Bool.eq_iff_iff, Bool.or_eq_true, inC_iff hp, inC_iff hp, inC_iff hp, most_row (by omega)]
  split <;> omega
theorem least_in {P : Int} {T : List (Int × Int)} (hk : TOk P T) {c d : List Nat} (hc : (c.length : Int) = P) {j : Nat} (hj : j < T.length) : inC T (least c d) j = (inC T c j && inC T d j) := by
  obtain ⟨p, hp, hpP⟩ := pr_nat hk hj
  rw [Bool.eq_iff_iff, Bool.and_eq_true, inC_iff hp, inC_iff hp, inC_iff hp, least_row (by omega)]
  split <;> omega
theorem most_ok {P : Int} {T : List (Int × Int)} {c d : List Nat} (hc : COk P T c) (hd : COk P T d) : COk P T (most c d) :=
  ⟨by rw [most_length]; exact hc.len, fun p hp => by
    rw [most_length] at hp
    rw [most_row hp]
    have := hc.rng p hp
    have := hd.rng p (by have := hc.len; have := hd.len; omega)
    split <;> omega⟩
theorem least_ok {P : Int} {T : List (Int × Int)} {c d : List Nat} (hc : COk P T c) : COk P T (least c d) :=
  ⟨by rw [least_length]; exact hc.len, fun p hp => by
    rw [least_length] at hp
    rw [least_row hp]
    have := hc.rng p hp
    split <;> omega⟩
theorem most_whole {P : Int} {T : List (Int × Int)} (hk : TOk P T) {c d : List Nat} (hc : (c.length : Int) = P) (h1 : whB T c = true) (h2 : whB T d = true) : whB T (most c d) = true := by
  rw [wh_bs hk] at *
  intro i hi h k hb
  have := bs_in T i k hb
  rw [most_in hk hc hi, Bool.or_eq_true] at h
  rw [most_in hk hc (by omega), Bool.or_eq_true]
  rcases h with h | h
  · exact .inl (h1 i hi h k hb)
  · exact .inr (h2 i hi h k hb)
theorem least_whole {P : Int} {T : List (Int × Int)} (hk : TOk P T) {c d : List Nat} (hc : (c.length : Int) = P) (h1 : whB T c = true) (h2 : whB T d = true) : whB T (least c d) = true := by
  rw [wh_bs hk] at *
  intro i hi h k hb
  have := bs_in T i k hb
  rw [least_in hk hc hi, Bool.and_eq_true] at h
  rw [least_in hk hc (by omega), Bool.and_eq_true]
  exact ⟨h1 i hi h.1 k hb, h2 i hi h.2 k hb⟩
end Go.Proofs.YtlhpkpjcfjdgaaaDoor.M
