/- Plain mathematics of hybrid clocks as they are reckoned: by the latest stamp that an event knows. No program text is named. -/
import Derived.Test.YtlhpkpjcfjdgaaaDoorHyb
namespace Go.Proofs.YtlhpkpjcfjdgaaaDoor.M

/-- the times as numbers -/
def tm (zs : List Int) (k : Nat) : Nat := (zs[k]?.getD 0).toNat
/-- the latest Time known at process p ahead of event i -/
def kT (T : List (Int × Int)) (t : Nat → Nat) (p : Int) (i : Nat) : Int := match lastP T p i with | none => -1 | some a => (hT T t a : Nat)
/-- and its Count -/
def kC (T : List (Int × Int)) (t : Nat → Nat) (p : Int) (i : Nat) : Nat := match lastP T p i with | none => 0 | some a => hC T t a
theorem kT_zero (T : List (Int × Int)) (t : Nat → Nat) (p : Int) : kT T t p 0 = -1 := rfl
theorem kC_zero (T : List (Int × Int)) (t : Nat → Nat) (p : Int) : kC T t p 0 = 0 := rfl
theorem kT_succ (T : List (Int × Int)) (t : Nat → Nat) (p : Int) (i : Nat) : kT T t p (i + 1) = if pr T i = p then ((hT T t i : Nat) : Int) else kT T t p i := by
  unfold kT
  by_cases e : pr T i = p
  · simp [lastP, e]
  · simp [lastP, e]
theorem kC_succ (T : List (Int × Int)) (t : Nat → Nat) (p : Int) (i : Nat) : kC T t p (i + 1) = if pr T i = p then hC T t i else kC T t p i := by
  unfold kC
  by_cases e : pr T i = p
  · simp [lastP, e]
  · simp [lastP, e]
/-- is a stamp less than another one? -/
def lsB (a c b d : Int) : Bool := if a = b then decide (c < d) else decide (a < b)
/-- the stamp behind the latest -/
def nxT (x : Int) (z : Int) : Int := if x < z then z else x
def nxC (x c : Int) (z : Int) : Int := if x < z then 0 else c + 1
theorem hT_imm {T : List (Int × Int)} {P : Int} (hk : TOk P T) {t : Nat → Nat} {i c : Nat} (hi : i < T.length) (h0 : t i ≤ c) (h1 : ∀ j, imm T j i = true → hT T t j ≤ c) (h2 : c = t i ∨ ∃ j, imm T j i = true ∧ c ≤ hT T t j) : hT T t i = c := by
  refine mxf_one h0 (fun j _ h => ?_) ?_
  · obtain ⟨a, _, ha, h3⟩ := bs_imm T i j h
    have := h1 a ha
    rcases h3 with rfl | h3
    · have := hT_own T t j; omega
    · have := hT_bs (t := t) h3; omega
  · rcases h2 with h2 | ⟨j, h3, h4⟩
    · exact .inl h2
    · have hb := imm_bs hk hi h3
      rcases hT_at T t j with e | ⟨k, b, e⟩
      · exact .inr ⟨j, bs_in T i j hb, hb, by omega⟩
      · have hb2 := bs_trans T i j k hb b
        exact .inr ⟨k, bs_in T i k hb2, hb2, by omega⟩
/-- x, c is the latest stamp that event i knows -/
structure Lat (T : List (Int × Int)) (t : Nat → Nat) (i : Nat) (x : Int) (c : Nat) : Prop where
  le : ∀ j, imm T j i = true → (hT T t j : Int) < x ∨ ((hT T t j : Int) = x ∧ hC T t j ≤ c)
  at_ : x = -1 ∨ ∃ j, imm T j i = true ∧ x = hT T t j ∧ c = hC T t j
theorem Lat.step {T : List (Int × Int)} {P : Int} (hk : TOk P T) {t : Nat → Nat} {i : Nat} {x : Int} {c : Nat} (hi : i < T.length) (h : Lat T t i x c) : nxT x (t i) = hT T t i ∧ nxC x c (t i) = hC T t i := by
  unfold nxT nxC
  by_cases hx : x < (t i : Int)
  · rw [if_pos hx, if_pos hx]
    have e : hT T t i = t i := hT_imm hk hi (Nat.le_refl _) (fun j hj => by have := h.le j hj; omega) (.inl rfl)
    have e2 : hC T t i = 0 := hC_one (fun j hj h1 h2 => by have := h.le j h1; omega) (.inl rfl)
    rw [e, e2]
    exact ⟨rfl, rfl⟩
  · rw [if_neg hx, if_neg hx]
    obtain ⟨j, h1, h2, h3⟩ : ∃ j, imm T j i = true ∧ x = hT T t j ∧ c = hC T t j := by
      rcases h.at_ with h4 | h4
      · omega
      · exact h4
    have e : hT T t i = hT T t j := hT_imm hk hi (by omega) (fun k hk => by have := h.le k hk; omega) (.inr ⟨j, h1, Nat.le_refl _⟩)
    have e2 : hC T t i = c + 1 := hC_one (fun k hk h4 h5 => by have := h.le k h4; omega) (.inr ⟨j, imm_lt hk hi h1, h1, e.symm, by omega⟩)
    rw [e, e2]
    exact ⟨h2, by omega⟩
theorem lat_none {T : List (Int × Int)} {P : Int} (hk : TOk P T) {t : Nat → Nat} {i : Nat} (hi : i < T.length) (h : fm T i < 0) : Lat T t i (kT T t (pr T i) i) (kC T t (pr T i) i) := by
  constructor
  · intro j hj
    rcases (imm_iff hk hi).1 hj with e | e
    · omega
    · unfold kT kC; rw [e]; exact .inr ⟨rfl, Nat.le_refl _⟩
  · unfold kT kC
    cases e : lastP T (pr T i) i with
    | none => exact .inl rfl
    | some a => exact .inr ⟨a, (imm_iff hk hi).2 (.inr e), rfl, rfl⟩
theorem lat_heard {T : List (Int × Int)} {P : Int} (hk : TOk P T) {t : Nat → Nat} {i j : Nat} (hi : i < T.length) (h : fm T i = (j : Nat)) :
    (lsB (kT T t (pr T i) i) (kC T t (pr T i) i : Nat) (hT T t j : Nat) (hC T t j : Nat) = true → Lat T t i (hT T t j : Nat) (hC T t j)) ∧
    (lsB (kT T t (pr T i) i) (kC T t (pr T i) i : Nat) (hT T t j : Nat) (hC T t j : Nat) = false → Lat T t i (kT T t (pr T i) i) (kC T t (pr T i) i)) := by
  have hj : imm T j i = true := (imm_iff hk hi).2 (.inl h)
  unfold lsB
  constructor
  · intro hl
    refine ⟨fun k hk2 => ?_, .inr ⟨j, hj, rfl, rfl⟩⟩
    rcases (imm_iff hk hi).1 hk2 with e | e
    · obtain rfl : j = k := by omega
      exact .inr ⟨rfl, Nat.le_refl _⟩
    · have e1 : kT T t (pr T i) i = (hT T t k : Nat) := by unfold kT; rw [e]
      have e2 : kC T t (pr T i) i = hC T t k := by unfold kC; rw [e]
      rw [e1, e2] at hl
      split at hl <;> have := of_decide_eq_true hl <;> omega
  · intro hl
    constructor
    · intro k hk2
      rcases (imm_iff hk hi).1 hk2 with e | e
      · obtain rfl : j = k := by omega
        split at hl <;> have := of_decide_eq_false hl <;> omega
      · unfold kT kC; rw [e]; exact .inr ⟨rfl, Nat.le_refl _⟩
    · cases e : lastP T (pr T i) i with
      | none => unfold kT; rw [e]; exact .inl rfl
      | some a => unfold kT kC; rw [e]; exact .inr ⟨a, (imm_iff hk hi).2 (.inr e), rfl, rfl⟩

/-! ### bounds -/
theorem hC_le (T : List (Int × Int)) (t : Nat → Nat) (i : Nat) : hC T t i ≤ i := by
  induction i using Nat.strongRecOn with
  | _ i ih =>
    rcases hC_at T t i with e | ⟨j, a, _, _, e⟩
    · omega
    · have := ih j a; omega
theorem hT_bound {T : List (Int × Int)} {t : Nat → Nat} {B n i : Nat} (h : ∀ k, k < n → t k ≤ B) (hi : i < n) : hT T t i ≤ B := by
  rcases hT_at T t i with e | ⟨j, b, e⟩
  · rw [e]; exact h i hi
  · rw [e]; exact h j (by have := bs_in T i j b; omega)
theorem kC_bound (T : List (Int × Int)) (t : Nat → Nat) (p : Int) (i : Nat) : kC T t p i ≤ i := by
  unfold kC
  cases e : lastP T p i with
  | none => exact Nat.zero_le _
  | some a => have := (lastP_some e).1; have := hC_le T t a; show hC T t a ≤ i; omega
theorem kT_bound {T : List (Int × Int)} {t : Nat → Nat} {B n i : Nat} {p : Int} (h : ∀ k, k < n → t k ≤ B) (hi : i ≤ n) : -1 ≤ kT T t p i ∧ kT T t p i ≤ B := by
  unfold kT
  cases e : lastP T p i with
  | none => simp only []; omega
  | some a =>
    have h1 := (lastP_some e).1
    have := hT_bound (T := T) h (show a < n by omega)
    simp only []; omega

/-! ### as cells -/
def rowZ (m : List Int) (k : Nat) : Int := m[k]?.getD 0
theorem rowZ_set (m : List Int) (o : Nat) (v : Int) (x : Nat) : rowZ (m.set o v) x = if x = o ∧ x < m.length then v else rowZ m x := by
  unfold rowZ
  by_cases h : x = o
  · subst h
    by_cases h2 : x < m.length
    · simp [h2]
    · simp [h2]
  · rw [List.getElem?_set_ne (fun e => h e.symm), if_neg (fun e => h e.1)]
theorem ext_rowZ {a b : List Int} (hl : a.length = b.length) (h : ∀ x, x < a.length → rowZ a x = rowZ b x) : a = b := by
  apply List.ext_getElem hl
  intro x h1 h2
  have := h x h1
  simpa [rowZ, h1, h2] using this
/-- two numbers from o on -/
def set2 (m : List Int) (o : Nat) (v0 v1 : Int) : List Int := (m.set o v0).set (o + 1) v1
theorem set2_length (m : List Int) (o : Nat) (v0 v1 : Int) : (set2 m o v0 v1).length = m.length := by simp [set2]
theorem set2_at {m : List Int} {o x : Nat} {v0 v1 : Int} (hx : x < m.length) : rowZ (set2 m o v0 v1) x = if x = o then v0 else if x = o + 1 then v1 else rowZ m x := by
  unfold set2
  rw [rowZ_set, rowZ_set]
  simp only [List.length_set, hx, and_true]
  by_cases h1 : x = o + 1
  · rw [if_pos h1, if_neg (by omega), if_pos h1]
  · rw [if_neg h1, if_neg h1]
/-- the stamps of the first i events, cell by cell, then noughts -/
def stF (T : List (Int × Int)) (t : Nat → Nat) (i x : Nat) : Int := if x / 2 < i then (if x % 2 = 0 then (hT T t (x / 2) : Nat) else (hC T t (x / 2) : Nat)) else 0
def stl (T : List (Int × Int)) (t : Nat → Nat) (n i : Nat) : List Int := (List.range (n * 2)).map (stF T t i)
theorem stl_length (T : List (Int × Int)) (t : Nat → Nat) (n i : Nat) : (stl T t n i).length = n * 2 := by simp [stl]
theorem stl_row (T : List (Int × Int)) (t : Nat → Nat) {n i x : Nat} (h : x < n * 2) : rowZ (stl T t n i) x = stF T t i x := by
  unfold rowZ stl
  simp [h]
theorem stl_T (T : List (Int × Int)) (t : Nat → Nat) {n i k : Nat} (h : k < i) (hk : k < n) : rowZ (stl T t n i) (k * 2) = (hT T t k : Nat) := by
  rw [stl_row T t (by omega)]
  unfold stF
  rw [if_pos (by omega), if_pos (by omega), show k * 2 / 2 = k by omega]
theorem stl_C (T : List (Int × Int)) (t : Nat → Nat) {n i k : Nat} (h : k < i) (hk : k < n) : rowZ (stl T t n i) (k * 2 + 1) = (hC T t k : Nat) := by
  rw [stl_row T t (by omega)]
  unfold stF
  rw [if_pos (by omega), if_neg (by omega), show (k * 2 + 1) / 2 = k by omega]
theorem stl_zero (T : List (Int × Int)) (t : Nat → Nat) (n : Nat) : stl T t n 0 = List.replicate (n * 2) 0 := by
  apply List.ext_getElem
  · simp [stl]
  · intro x h1 h2
    simp [stl, stF]
theorem stl_set {T : List (Int × Int)} {t : Nat → Nat} {n i : Nat} {a c : Int} (ha : a = (hT T t i : Nat)) (hc : c = (hC T t i : Nat)) : set2 (stl T t n i) (i * 2) a c = stl T t n (i + 1) := by
  apply ext_rowZ
  · rw [set2_length, stl_length, stl_length]
  · intro x hx
    rw [set2_length] at hx
    rw [set2_at hx]
    rw [stl_length] at hx
    rw [stl_row T t hx, stl_row T t hx]
    unfold stF
    by_cases e1 : x = i * 2
    · rw [if_pos e1, if_pos (by omega), if_pos (by omega), show x / 2 = i by omega, ha]
    · rw [if_neg e1]
      by_cases e2 : x = i * 2 + 1
      · rw [if_pos e2, if_pos (by omega), if_neg (by omega), show x / 2 = i by omega, hc]
      · rw [if_neg e2]
        by_cases e3 : x / 2 < i
        · exact (if_pos e3).trans (if_pos (show x / 2 < i + 1 by omega)).symm
        · exact (if_neg e3).trans (if_neg (show ¬ x / 2 < i + 1 by omega)).symm
/-- what all processes know, cell by cell -/
def ksl (T : List (Int × Int)) (t : Nat → Nat) (i : Nat) : List Int := (List.range 10).map fun x => if x % 2 = 0 then kT T t ((x / 2 : Nat) : Int) i else (kC T t ((x / 2 : Nat) : Int) i : Nat)
theorem ksl_length (T : List (Int × Int)) (t : Nat → Nat) (i : Nat) : (ksl T t i).length = 10 := by simp [ksl]
theorem ksl_row (T : List (Int × Int)) (t : Nat → Nat) (i : Nat) {x : Nat} (h : x < 10) : rowZ (ksl T t i) x = if x % 2 = 0 then kT T t ((x / 2 : Nat) : Int) i else (kC T t ((x / 2 : Nat) : Int) i : Nat) := by
  unfold rowZ ksl
  simp only [List.getElem?_map, List.getElem?_range h, Option.map_some, Option.getD_some]
theorem ksl_T (T : List (Int × Int)) (t : Nat → Nat) (i : Nat) {a : Nat} (h : a < 5) : rowZ (ksl T t i) (a * 2) = kT T t (a : Int) i := by
  rw [ksl_row T t i (by omega), if_pos (by omega), show a * 2 / 2 = a by omega]
theorem ksl_C (T : List (Int × Int)) (t : Nat → Nat) (i : Nat) {a : Nat} (h : a < 5) : rowZ (ksl T t i) (a * 2 + 1) = (kC T t (a : Int) i : Nat) := by
  rw [ksl_row T t i (by omega), if_neg (by omega), show (a * 2 + 1) / 2 = a by omega]
theorem ksl_zero (T : List (Int × Int)) (t : Nat → Nat) : ksl T t 0 = [-1, 0, -1, 0, -1, 0, -1, 0, -1, 0] := rfl
theorem ksl_set {T : List (Int × Int)} {t : Nat → Nat} {i a : Nat} {v c : Int} (hp : pr T i = (a : Nat)) (hv : v = (hT T t i : Nat)) (hc : c = (hC T t i : Nat)) : set2 (ksl T t i) (a * 2) v c = ksl T t (i + 1) := by
  apply ext_rowZ
  · rw [set2_length, ksl_length, ksl_length]
  · intro x hx
    rw [set2_length] at hx
    rw [set2_at hx]
    rw [ksl_length] at hx
    rw [ksl_row T t _ hx, ksl_row T t _ hx, kT_succ, kC_succ, hp]
    by_cases e1 : x = a * 2
    · rw [if_pos e1, if_pos (by omega), if_pos (by omega), hv]
    · rw [if_neg e1]
      by_cases e2 : x = a * 2 + 1
      · rw [if_pos e2, if_neg (by omega), if_pos (by omega), hc]
      · have hne : ¬ ((a : Nat) : Int) = ((x / 2 : Nat) : Int) := by omega
        rw [if_neg e2, if_neg hne, if_neg hne]
end Go.Proofs.YtlhpkpjcfjdgaaaDoor.M
