/- Plain mathematics of sets of nodes, at whatever numbers: what is wrong with some, the first fault first; which are least; how few they have in common, and how few may be gone. No program text is named. -/
import Derived.Test.YtfjmealeglbklaaDoorWqm
import Derived.Test.YtfjmealeglbklaaDoorSin
namespace Go.Proofs.YtfjmealeglbklaaDoor

theorem qset_nat {s n : Nat} (h : s < 2 ^ n) : setB (s : Int) n = true := by
  unfold setB
  refine decide_eq_true ⟨by omega, ?_⟩
  have : ((2 ^ n : Nat) : Int) = (2 : Int) ^ n := by simp
  rw [← this]; omega
theorem qset_get {z : Int} {n : Nat} (h : setB z n = true) : ∃ s : Nat, z = s ∧ s < 2 ^ n := by
  unfold setB at h
  obtain ⟨h1, h2⟩ := of_decide_eq_true h
  refine ⟨z.toNat, by omega, ?_⟩
  have : ((2 ^ n : Nat) : Int) = (2 : Int) ^ n := by simp
  rw [← this] at h2; omega
theorem qint_inj : ∀ {a b : List Nat}, ints a = ints b → a = b := by
  intro a
  induction a with
  | nil => intro b h; cases b with
    | nil => rfl
    | cons y b => simp [ints] at h
  | cons x a ih => intro b h; cases b with
    | nil => simp [ints] at h
    | cons y b =>
      have h1 : ((x : Nat) : Int) = y ∧ ints a = ints b := by simpa [ints] using h
      rw [ih h1.2, show x = y by omega]
def qnats (zs : List Int) : List Nat := zs.map Int.toNat
namespace M
theorem row_inS {S : List Nat} {i : Nat} (h : i < S.length) : row S i ∈ S := by
  unfold row; rw [List.getElem?_eq_getElem h]; exact List.getElem_mem h
theorem row_get {S : List Nat} {a : Nat} (h : a ∈ S) : ∃ i, i < S.length ∧ row S i = a := by
  obtain ⟨i, hi, e⟩ := List.getElem_of_mem h
  exact ⟨i, hi, by unfold row; rw [List.getElem?_eq_getElem hi]; exact e⟩
/-- the same over places -/
theorem hasQ_at {S : List Nat} {s i : Nat} (hi : i < S.length) (h : subB (row S i) s = true) : hasQ S s = true := hasQ_iff.2 ⟨_, row_inS hi, h⟩
theorem hasQ_not {S : List Nat} {s : Nat} (h : ∀ i, i < S.length → subB (row S i) s = false) : hasQ S s = false := by
  cases e : hasQ S s with
  | false => rfl
  | true =>
    obtain ⟨a, ha, hs⟩ := hasQ_iff.1 e
    obtain ⟨i, hi, rfl⟩ := row_get ha
    rw [h i hi] at hs; cases hs
/-- has some nodes one of the sets, and others besides? -/
def hasO (l : List Nat) (s : Nat) : Bool := l.any fun a => a != s && subB a s
theorem lowQ_eq (l : List Nat) (s : Nat) : lowQ l s = (l.contains s && !hasO l s) := by
  unfold lowQ hasO
  congr 1
  rw [Bool.eq_iff_iff, List.all_eq_true, Bool.not_eq_true', List.any_eq_false]
  constructor
  · intro h a ha k
    have := h a ha
    simp only [Bool.and_eq_true, bne_iff_ne] at k
    rw [k.2] at this
    simp at this
    exact k.1 this
  · intro h a ha
    have := h a ha
    by_cases e : a = s
    · simp [e]
    · cases f : subB a s with
      | false => simp
      | true => rw [f] at this; simp [e] at this
/-- what two sets have in common, told of all -/
theorem meet_eq {n m : Nat} {S : List Nat} (hS : S ≠ []) (h1 : m ≤ n) (h2 : ∀ i j, j ≤ i → i < S.length → m ≤ cnt n (row S i &&& row S j)) (h3 : m = n ∨ ∃ i j, i < S.length ∧ j < S.length ∧ m = cnt n (row S i &&& row S j)) : m = meetQ n S := by
  have h2' : ∀ i j, i < S.length → j < S.length → m ≤ cnt n (row S i &&& row S j) := fun i j hi hj => by
    by_cases h : j ≤ i
    · exact h2 i j h hi
    · rw [Nat.and_comm]; exact h2 j i (by omega) hj
  apply Nat.le_antisymm
  · obtain ⟨a, b, ha, hb, h⟩ := meet_is (n := n) hS
    obtain ⟨i, hi, rfl⟩ := row_get ha
    obtain ⟨j, hj, rfl⟩ := row_get hb
    rw [h]; exact h2' i j hi hj
  · rcases h3 with rfl | ⟨i, j, hi, hj, h⟩
    · exact (fold2_le (fun a b => cnt m (a &&& b)) S S m).1
    · rw [h]; exact meet_le (row_inS hi) (row_inS hj)
theorem meet_le_n (n : Nat) (S : List Nat) : meetQ n S ≤ n := (fold2_le (fun a b => cnt n (a &&& b)) S S n).1
/-- how many may fail is told by this -/
theorem fail_spec (n : Nat) (l : List Nat) : ∀ (d k : Nat), (∀ i, k < i → i ≤ failQ n l d k → lostQ n l i = true) ∧ k ≤ failQ n l d k ∧ failQ n l d k ≤ k + d ∧ (failQ n l d k = k + d ∨ lostQ n l (failQ n l d k + 1) = false) := by
  intro d
  induction d with
  | zero => intro k; exact ⟨fun i h1 h2 => by have : i ≤ k := h2; omega, Nat.le_refl _, Nat.le_refl _, Or.inl rfl⟩
  | succ d ih =>
    intro k
    unfold failQ
    cases e : lostQ n l (k + 1) with
    | false => simp only [Bool.false_eq_true, if_false]; exact ⟨fun i h1 h2 => by omega, Nat.le_refl _, by omega, Or.inr e⟩
    | true =>
      simp only [if_true]
      obtain ⟨h1, h2, h3, h4⟩ := ih (k + 1)
      refine ⟨fun i h5 h6 => ?_, by omega, by omega, ?_⟩
      · by_cases hi : i = k + 1
        · rw [hi]; exact e
        · exact h1 i (by omega) h6
      · rcases h4 with h4 | h4
        · exact Or.inl (by omega)
        · exact Or.inr h4
theorem fail_eq {n F : Nat} {l : List Nat} (h1 : ∀ i, 0 < i → i ≤ F → lostQ n l i = true) (h2 : F ≤ n) (h3 : F = n ∨ lostQ n l (F + 1) = false) : F = failQ n l n 0 := by
  obtain ⟨k1, _, k3, k4⟩ := fail_spec n l n 0
  rcases Nat.lt_trichotomy F (failQ n l n 0) with h | h | h
  · rcases h3 with h3 | h3
    · omega
    · rw [k1 (F + 1) (by omega) (by omega)] at h3; cases h3
  · exact h
  · rcases k4 with k4 | k4
    · omega
    · rw [h1 _ (by omega) (by omega)] at k4; cases k4
/-- how few are gone so that no set is left -/
theorem gone_eq {n m : Nat} {S : List Nat} (hS : QOk n S) (h1 : m ≤ n) (hn : 1 ≤ n) (h2 : ∀ g, g < 2 ^ n → hasQ S (cpl n g) = false → m ≤ cnt n g) (h3 : m = n ∨ ∃ g, g < 2 ^ n ∧ hasQ S (cpl n g) = false ∧ m = cnt n g) : m = failQ n S n 0 + 1 := by
  have hl : ∀ i, i < m → lostQ n S i = true := fun i hi => lost_iff.2 fun s hs hc => by
    cases e : hasQ S (cpl n s) with
    | true => rfl
    | false => have := h2 s hs e; omega
  have hm : lostQ n S m = false := by
    rcases h3 with rfl | ⟨g, hg, hh, rfl⟩
    · exact lost_all hS
    · cases e : lostQ n S (cnt n g) with
      | false => rfl
      | true => rw [lost_iff.1 e g hg rfl] at hh; cases hh
  have hp : 0 < m := by
    refine Nat.pos_of_ne_zero fun h => ?_
    subst h
    rw [lost_none hS] at hm; cases hm
  have := fail_eq (n := n) (F := m - 1) (l := S) (fun i _ hi => hl i (by omega)) (by omega) (Or.inr (by rw [show m - 1 + 1 = m by omega]; exact hm))
  omega
end M

/-- Right sets of so many nodes. -/
structure QR (n : Nat) (S : List Nat) : Prop where
  lo : 1 ≤ n
  hi : n ≤ 8
  len : S.length ≤ 20
  ok : M.QOk n S
/-- What is wrong with the set at a place. -/
def qone (n : Nat) (zs : List Int) (i : Nat) : Nat := if setB (zs[i]?.getD 0) n then (if zs[i]?.getD 0 = 0 then 3 else if (List.range i).any (fun j => ((zs[j]?.getD 0).toNat &&& (zs[i]?.getD 0).toNat) == 0) then 6 else 0) else 1
/-- What is wrong with sets of nodes: the number of its error. -/
def qcode (n : Int) (zs : List Int) : Nat := if n < 1 ∨ 8 < n then 1 else if zs.length = 0 then 5 else if 20 < zs.length then 4 else (((List.range zs.length).find? fun i => qone n.toNat zs i != 0).map (qone n.toNat zs)).getD 0
theorem qcode_range {n : Int} {zs : List Int} (h : n < 1 ∨ 8 < n) : qcode n zs = 1 := by unfold qcode; rw [if_pos h]
theorem qcode_none {n : Int} {zs : List Int} (h : ¬ (n < 1 ∨ 8 < n)) (h1 : zs.length = 0) : qcode n zs = 5 := by unfold qcode; rw [if_neg h, if_pos h1]
theorem qcode_full {n : Int} {zs : List Int} (h : ¬ (n < 1 ∨ 8 < n)) (h1 : 20 < zs.length) : qcode n zs = 4 := by unfold qcode; rw [if_neg h, if_neg (by omega), if_pos h1]
theorem find_first {p : Nat → Bool} {i : Nat} : ∀ (L : Nat), i < L → (∀ j, j < i → p j = false) → p i = true → (List.range L).find? p = some i := by
  intro L hL hj hi
  rw [List.find?_range_eq_some]
  exact ⟨hi, List.mem_range.2 hL, fun j h => by rw [hj j h]; rfl⟩
theorem qcode_bad {n : Nat} {zs : List Int} {i : Nat} (h : ¬ ((n : Int) < 1 ∨ 8 < (n : Int))) (h0 : zs.length ≤ 20) (hi : i < zs.length) (hj : ∀ j, j < i → qone n zs j = 0) (hb : qone n zs i ≠ 0) : qcode n zs = qone n zs i := by
  unfold qcode
  rw [if_neg h, if_neg (by omega), if_neg (by omega), Int.toNat_natCast, find_first (i := i) _ hi (fun j h => by rw [hj j h]; rfl) (by simpa using hb)]
  rfl
theorem qcode_good {n : Nat} {zs : List Int} (h : ¬ ((n : Int) < 1 ∨ 8 < (n : Int))) (h0 : 0 < zs.length) (h1 : zs.length ≤ 20) (hj : ∀ j, j < zs.length → qone n zs j = 0) : qcode n zs = 0 := by
  unfold qcode
  rw [if_neg h, if_neg (by omega), if_neg (by omega), Int.toNat_natCast, List.find?_eq_none.2 (fun j hm => by rw [hj j (List.mem_range.1 hm)]; simp)]
  rfl
theorem qone_range {n i : Nat} {zs : List Int} {z : Int} (hz : zs[i]?.getD 0 = z) (h : setB z n = false) : qone n zs i = 1 := by
  unfold qone; rw [hz, h]; rfl
theorem qone_shape {n i : Nat} {zs : List Int} (hz : zs[i]?.getD 0 = 0) : qone n zs i = 3 := by
  unfold qone
  have h : setB 0 n = true := qset_nat (s := 0) (Nat.two_pow_pos n)
  rw [hz, if_pos h, if_pos rfl]
/-- some ahead have nothing in common with this one -/
def clashQ (zs : List Int) (i s : Nat) : Bool := (List.range i).any fun j => ((zs[j]?.getD 0).toNat &&& s) == 0
theorem clashQ_hit {zs : List Int} {i j s : Nat} (hj : j < i) (h : (zs[j]?.getD 0).toNat &&& s = 0) : clashQ zs i s = true := by
  unfold clashQ
  rw [List.any_eq_true]
  exact ⟨j, List.mem_range.2 hj, by rw [h]; rfl⟩
theorem clashQ_no {zs : List Int} {i s : Nat} (h : ∀ j, j < i → (zs[j]?.getD 0).toNat &&& s ≠ 0) : clashQ zs i s = false := by
  unfold clashQ
  rw [List.any_eq_false]
  intro j hj
  have := h j (List.mem_range.1 hj)
  simpa using this
theorem qone_set {n i s : Nat} {zs : List Int} (hz : zs[i]?.getD 0 = (s : Int)) (hs : s < 2 ^ n) (h0 : s ≠ 0) : qone n zs i = if clashQ zs i s then 6 else 0 := by
  unfold qone clashQ
  rw [hz, if_pos (qset_nat hs), if_neg (by omega), Int.toNat_natCast]
theorem qone_zero {n i : Nat} {zs : List Int} (h : qone n zs i = 0) : ∃ s : Nat, zs[i]?.getD 0 = (s : Int) ∧ s < 2 ^ n ∧ s ≠ 0 ∧ clashQ zs i s = false := by
  cases e : setB (zs[i]?.getD 0) n with
  | false => rw [qone_range rfl e] at h; cases h
  | true =>
    obtain ⟨s, hz, hs⟩ := qset_get e
    by_cases h0 : s = 0
    · exfalso
      unfold qone at h
      rw [e, if_pos rfl, if_pos (by rw [hz, h0]; rfl)] at h; cases h
    · rw [qone_set hz hs h0] at h
      refine ⟨s, hz, hs, h0, ?_⟩
      cases f : clashQ zs i s with
      | false => rfl
      | true => rw [f] at h; cases h
theorem clashQ_at {zs : List Int} {i j s : Nat} (h : clashQ zs i s = false) (hj : j < i) : (zs[j]?.getD 0).toNat &&& s ≠ 0 := fun e => by rw [clashQ_hit hj e] at h; cases h
/-- nothing is wrong: they are right sets -/
theorem qcode_get {n : Int} {zs : List Int} (h : qcode n zs = 0) : ∃ (N : Nat) (S : List Nat), n = N ∧ zs = ints S ∧ QR N S := by
  unfold qcode at h
  by_cases h1 : n < 1 ∨ 8 < n
  · rw [if_pos h1] at h; cases h
  rw [if_neg h1] at h
  by_cases h2 : zs.length = 0
  · rw [if_pos h2] at h; cases h
  rw [if_neg h2] at h
  by_cases h3 : 20 < zs.length
  · rw [if_pos h3] at h; cases h
  rw [if_neg h3] at h
  obtain ⟨N, rfl⟩ : ∃ N : Nat, n = N := ⟨n.toNat, by omega⟩
  rw [Int.toNat_natCast] at h
  have hall : ∀ j, j < zs.length → qone N zs j = 0 := by
    cases e : (List.range zs.length).find? fun i => qone N zs i != 0 with
    | none =>
      intro j hj
      have := List.find?_eq_none.1 e j (List.mem_range.2 hj)
      simpa using this
    | some i =>
      exfalso
      rw [e] at h
      have := List.find?_some e
      have h' : qone N zs i = 0 := h
      rw [h'] at this; simp at this
  have hrow : ∀ j, j < zs.length → ((M.row (qnats zs) j : Nat) : Int) = zs[j]?.getD 0 := fun j hj => by
    obtain ⟨s, hz, _⟩ := qone_zero (hall j hj)
    unfold M.row qnats
    rw [List.getElem?_map]
    rw [List.getElem?_eq_getElem hj] at hz ⊢
    simp only [Option.getD_some, Option.map_some] at hz ⊢
    omega
  have hzs : zs = ints (qnats zs) := by
    apply List.ext_getElem?
    intro j
    unfold ints qnats
    rw [List.map_map, List.getElem?_map]
    by_cases hj : j < zs.length
    · have := hrow j hj
      unfold M.row qnats at this
      rw [List.getElem?_map, List.getElem?_eq_getElem hj] at this
      rw [List.getElem?_eq_getElem hj]
      simp only [Option.map_some, Option.getD_some, Function.comp] at this ⊢
      rw [this]
    · rw [List.getElem?_eq_none (by omega)]; rfl
  have hlen : (qnats zs).length = zs.length := by unfold qnats; rw [List.length_map]
  have hat : ∀ j, j < zs.length → M.row (qnats zs) j < 2 ^ N ∧ M.row (qnats zs) j ≠ 0 ∧ clashQ zs j (M.row (qnats zs) j) = false := fun j hj => by
    obtain ⟨s, hz, h5, h6, h7⟩ := qone_zero (hall j hj)
    have := hrow j hj
    obtain rfl : M.row (qnats zs) j = s := by omega
    exact ⟨h5, h6, h7⟩
  have hmt : ∀ i j, j < i → i < zs.length → M.row (qnats zs) j &&& M.row (qnats zs) i ≠ 0 := fun i j hji hi => by
    have := clashQ_at (hat i hi).2.2 hji
    rw [← hrow j (by omega), Int.toNat_natCast] at this
    exact this
  refine ⟨N, qnats zs, rfl, hzs, by omega, by omega, by omega, ?_, ?_, ?_, ?_⟩
  · intro e; rw [e] at hlen; exact h2 hlen.symm
  · intro a ha
    obtain ⟨i, hi, rfl⟩ := M.row_get ha
    exact (hat i (by omega)).1
  · intro a ha
    obtain ⟨i, hi, rfl⟩ := M.row_get ha
    exact (hat i (by omega)).2.1
  · intro a b ha hb
    obtain ⟨i, hi, rfl⟩ := M.row_get ha
    obtain ⟨j, hj, rfl⟩ := M.row_get hb
    rcases Nat.lt_trichotomy i j with h | h | h
    · exact hmt j i h (by omega)
    · subst h; rw [Nat.and_self]; exact (hat i (by omega)).2.1
    · rw [Nat.and_comm]; exact hmt i j h (by omega)
theorem QR.code {n : Nat} {S : List Nat} (h : QR n S) : qcode n (ints S) = 0 := by
  have hp : 0 < S.length := List.length_pos_iff.2 h.ok.some
  have h1 := h.lo
  have h2 := h.hi
  refine qcode_good (by omega) (by rw [ints_length]; exact hp) (by rw [ints_length]; exact h.len) (fun j hj => ?_)
  rw [ints_length] at hj
  have hm := M.row_inS hj
  rw [qone_set (ints_get S j) (h.ok.lt _ hm) (h.ok.pos _ hm), clashQ_no]
  · rfl
  · intro k hk
    rw [ints_get, Int.toNat_natCast]
    exact h.ok.meet _ _ (M.row_inS (by omega)) hm
theorem QR.lt {n : Nat} {S : List Nat} (h : QR n S) {a : Nat} (ha : a ∈ S) : a < 256 := by
  have h1 := h.ok.lt a ha
  have h2 : 2 ^ n ≤ 2 ^ 8 := Nat.pow_le_pow_right (by omega) h.hi
  omega
theorem QR.pow {n : Nat} {S : List Nat} (h : QR n S) : 2 ^ n ≤ 256 := Nat.pow_le_pow_right (n := 2) (by omega) h.hi
theorem QR.row {n : Nat} {S : List Nat} (h : QR n S) (i : Nat) : M.row S i < 256 := by
  by_cases hi : i < S.length
  · exact h.lt (M.row_inS hi)
  · unfold M.row; rw [List.getElem?_eq_none (by omega)]; decide
theorem QR.least {n : Nat} {S : List Nat} (h : QR n S) : QR n (M.leastQ n S) := ⟨h.lo, h.hi, Nat.le_trans (M.least_len h.ok) h.len, M.leastQ_ok h.ok⟩
end Go.Proofs.YtfjmealeglbklaaDoor
