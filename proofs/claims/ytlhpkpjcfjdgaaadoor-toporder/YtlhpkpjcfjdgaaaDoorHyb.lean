/- Plain mathematics of clocks that look at the time: an event's Time is the greatest time of it and of all that happened before; its Count goes by the two behind which it stands. Who is before is less; no Count is above what happened before; where clocks are right it is the time; set later all is later. No program text is named. -/
import Derived.Test.YtlhpkpjcfjdgaaaDoorStp
namespace Go.Proofs.YtlhpkpjcfjdgaaaDoor.M

/-! ### the greatest, from a number on -/
/-- the greatest of s and of f at the members of x below m -/
def mxf (x : Nat) (f : Nat → Nat) (s : Nat) : Nat → Nat
  | 0 => s
  | j + 1 => if x.testBit j = true ∧ mxf x f s j < f j then f j else mxf x f s j
theorem mxf_ge (x : Nat) (f : Nat → Nat) (s m : Nat) : s ≤ mxf x f s m := by
  induction m with
  | zero => exact Nat.le_refl _
  | succ m ih => simp only [mxf]; split <;> omega
theorem mxf_le {x : Nat} {f : Nat → Nat} {s m j : Nat} (hj : j < m) (h : x.testBit j = true) : f j ≤ mxf x f s m := by
  induction m with
  | zero => omega
  | succ m ih =>
    simp only [mxf]
    by_cases e : j = m
    · subst e
      split
      · exact Nat.le_refl _
      · rename_i h2
        have : ¬ mxf x f s j < f j := fun h3 => h2 ⟨h, h3⟩
        omega
    · have := ih (by omega)
      split <;> omega
theorem mxf_at (x : Nat) (f : Nat → Nat) (s m : Nat) : mxf x f s m = s ∨ ∃ j, j < m ∧ x.testBit j = true ∧ mxf x f s m = f j := by
  induction m with
  | zero => exact .inl rfl
  | succ m ih =>
    simp only [mxf]
    split
    · rename_i h; exact .inr ⟨m, by omega, h.1, rfl⟩
    · rcases ih with h | ⟨j, a, b, c⟩
      · exact .inl h
      · exact .inr ⟨j, by omega, b, c⟩
theorem mxf_one {x : Nat} {f : Nat → Nat} {s m c : Nat} (h0 : s ≤ c) (h1 : ∀ j, j < m → x.testBit j = true → f j ≤ c) (h2 : c = s ∨ ∃ j, j < m ∧ x.testBit j = true ∧ c ≤ f j) : mxf x f s m = c := by
  have ha : mxf x f s m ≤ c := by
    rcases mxf_at x f s m with e | ⟨j, a, b, e⟩
    · omega
    · rw [e]; exact h1 j a b
  have hb : c ≤ mxf x f s m := by
    rcases h2 with e | ⟨j, a, b, e⟩
    · have := mxf_ge x f s m; omega
    · have := mxf_le (s := s) (f := f) a b; omega
  omega

/-! ### Time -/
/-- the Time of event i: t tells the times -/
def hT (T : List (Int × Int)) (t : Nat → Nat) (i : Nat) : Nat := mxf (bs T i) t (t i) i
theorem hT_own (T : List (Int × Int)) (t : Nat → Nat) (i : Nat) : t i ≤ hT T t i := mxf_ge _ _ _ _
theorem hT_bs {T : List (Int × Int)} {t : Nat → Nat} {i j : Nat} (h : (bs T i).testBit j = true) : t j ≤ hT T t i := mxf_le (bs_in T i j h) h
theorem hT_at (T : List (Int × Int)) (t : Nat → Nat) (i : Nat) : hT T t i = t i ∨ ∃ j, (bs T i).testBit j = true ∧ hT T t i = t j := by
  rcases mxf_at (bs T i) t (t i) i with h | ⟨j, _, b, c⟩
  · exact .inl h
  · exact .inr ⟨j, b, c⟩
theorem hT_le {T : List (Int × Int)} {t : Nat → Nat} {i j : Nat} (h : (bs T i).testBit j = true) : hT T t j ≤ hT T t i := by
  rcases hT_at T t j with e | ⟨k, b, e⟩
  · rw [e]; exact hT_bs h
  · rw [e]; exact hT_bs (bs_trans T i j k h b)
/-- the two behind which an event stands: the one ahead of it at its process, and the one of which it heard -/
def imm (T : List (Int × Int)) (j i : Nat) : Bool := fm T i == (j : Int) || (pr T j == pr T i && nth T j + 1 == nth T i)
theorem cb_pred {p : Nat → Bool} {i : Nat} (h : 0 < cb i p) : ∃ a, a < i ∧ p a = true ∧ ∀ k, a < k → k < i → p k = false := by
  induction i with
  | zero => simp [cb] at h
  | succ i ih =>
    cases e : p i with
    | true => exact ⟨i, by omega, e, fun k h1 h2 => by omega⟩
    | false =>
      rw [cb_at e] at h
      obtain ⟨a, h1, h2, h3⟩ := ih (by simpa using h)
      refine ⟨a, by omega, h2, fun k h4 h5 => ?_⟩
      by_cases hk : k = i
      · subst hk; exact e
      · exact h3 k h4 (by omega)
theorem cb_gap {p : Nat → Bool} {a i : Nat} (ha : a < i) (hp : p a = true) (h : ∀ k, a < k → k < i → p k = false) : cb i p = cb a p + 1 := by
  induction i with
  | zero => omega
  | succ i ih =>
    by_cases e : a = i
    · subst e; rw [cb_at hp]; rfl
    · rw [cb_at (h i (by omega) (by omega)), ih (by omega) (fun k h1 h2 => h k h1 (by omega))]; rfl
/-- what is told ahead at its process stands just ahead, or before the one that does -/
theorem pr_imm {T : List (Int × Int)} {m i : Nat} (hm : m < i) (e : pr T m = pr T i) : ∃ a, a < i ∧ pr T a = pr T i ∧ nth T a + 1 = nth T i ∧ m ≤ a := by
  have h0 : 0 < cb i fun j => pr T j == pr T i := by
    have h1 := cb_more (show m + 1 ≤ i by omega) (fun j => pr T j == pr T i)
    rw [cb_at (n := m) (b := true) (by simp [e])] at h1
    simp at h1; omega
  obtain ⟨a, h1, h2, h3⟩ := cb_pred h0
  have hpa : pr T a = pr T i := by simpa using h2
  refine ⟨a, h1, hpa, ?_, ?_⟩
  · have := cb_gap h1 h2 h3
    unfold nth
    rw [this, hpa]
  · rcases Nat.lt_or_ge a m with h4 | h4
    · have := h3 m h4 hm
      rw [e] at this
      simp at this
    · exact h4
theorem imm_lt {P : Int} {T : List (Int × Int)} (hk : TOk P T) {j i : Nat} (hi : i < T.length) (h : imm T j i = true) : j < i := by
  unfold imm at h
  simp only [Bool.or_eq_true, Bool.and_eq_true, beq_iff_eq] at h
  rcases h with h | ⟨h1, h2⟩
  · have := hk.fmI i hi; omega
  · rcases Nat.lt_trichotomy j i with h3 | h3 | h3
    · exact h3
    · subst h3; omega
    · have := nth_lt h3 h1.symm; omega
theorem imm_bs {P : Int} {T : List (Int × Int)} (hk : TOk P T) {j i : Nat} (hi : i < T.length) (h : imm T j i = true) : (bs T i).testBit j = true := by
  have hj := imm_lt hk hi h
  refine bs_must hj ?_
  unfold imm at h
  unfold mustB
  simp only [Bool.or_eq_true, Bool.and_eq_true, beq_iff_eq] at h ⊢
  rcases h with h | h
  · exact .inr h
  · exact .inl h.1
/-- all that happened before is one of the two, or before one of them -/
theorem bs_imm (T : List (Int × Int)) (i k : Nat) (h : (bs T i).testBit k = true) : ∃ a, a < i ∧ imm T a i = true ∧ (k = a ∨ (bs T a).testBit k = true) := by
  obtain ⟨m, h1, h2, h3⟩ := (bs_bit T i k).1 h
  unfold mustB at h2
  simp only [Bool.or_eq_true, beq_iff_eq] at h2
  rcases h2 with h2 | h2
  · obtain ⟨a, a1, a2, a3, a4⟩ := pr_imm h1 h2
    refine ⟨a, a1, by unfold imm; simp [a2, a3], ?_⟩
    by_cases e : m = a
    · subst e; exact h3
    · have hb : (bs T a).testBit m = true := bs_must (by omega) (by unfold mustB; rw [h2, a2]; simp)
      rcases h3 with rfl | h3
      · exact .inr hb
      · exact .inr (bs_trans T a m k hb h3)
  · exact ⟨m, h1, by unfold imm; simp [h2], h3⟩

/-! ### Count -/
/-- one more than the greatest Count of those of the two that have this Time, of those below m -/
def hcn (T : List (Int × Int)) (t : Nat → Nat) (f : Nat → Nat) (i : Nat) : Nat → Nat
  | 0 => 0
  | j + 1 => if imm T j i = true ∧ hT T t j = hT T t i ∧ hcn T t f i j < f j + 1 then f j + 1 else hcn T t f i j
theorem hcn_congr {T : List (Int × Int)} {t f g : Nat → Nat} {i m : Nat} (h : ∀ j, j < m → f j = g j) : hcn T t f i m = hcn T t g i m := by
  induction m with
  | zero => rfl
  | succ m ih => simp only [hcn]; rw [ih (fun j hj => h j (by omega)), h m (by omega)]
theorem hcn_le {T : List (Int × Int)} {t f : Nat → Nat} {i m j : Nat} (hj : j < m) (h1 : imm T j i = true) (h2 : hT T t j = hT T t i) : f j < hcn T t f i m := by
  induction m with
  | zero => omega
  | succ m ih =>
    simp only [hcn]
    by_cases e : j = m
    · subst e
      split
      · omega
      · rename_i h3
        have : ¬ hcn T t f i j < f j + 1 := fun h4 => h3 ⟨h1, h2, h4⟩
        omega
    · have := ih (by omega)
      split <;> omega
theorem hcn_at (T : List (Int × Int)) (t f : Nat → Nat) (i m : Nat) : hcn T t f i m = 0 ∨ ∃ j, j < m ∧ imm T j i = true ∧ hT T t j = hT T t i ∧ hcn T t f i m = f j + 1 := by
  induction m with
  | zero => exact .inl rfl
  | succ m ih =>
    simp only [hcn]
    split
    · rename_i h; exact .inr ⟨m, by omega, h.1, h.2.1, rfl⟩
    · rcases ih with h | ⟨j, a, b⟩
      · exact .inl h
      · exact .inr ⟨j, by omega, b⟩
def hcs (T : List (Int × Int)) (t : Nat → Nat) : Nat → List Nat
  | 0 => []
  | i + 1 => hcs T t i ++ [hcn T t (row (hcs T t i)) i i]
/-- the Count of event i -/
def hC (T : List (Int × Int)) (t : Nat → Nat) (i : Nat) : Nat := hcn T t (row (hcs T t i)) i i
theorem hcs_length (T : List (Int × Int)) (t : Nat → Nat) (k : Nat) : (hcs T t k).length = k := by
  induction k with
  | zero => rfl
  | succ k ih => simp [hcs, ih]
theorem hcs_row (T : List (Int × Int)) (t : Nat → Nat) {k i : Nat} (h : i < k) : row (hcs T t k) i = hC T t i := by
  induction k with
  | zero => omega
  | succ k ih =>
    unfold row
    simp only [hcs]
    by_cases e : i = k
    · subst e
      rw [List.getElem?_append_right (by rw [hcs_length]; omega), hcs_length]
      simp [hC]
    · rw [List.getElem?_append_left (by rw [hcs_length]; omega)]
      exact ih (by omega)
theorem hC_eq (T : List (Int × Int)) (t : Nat → Nat) (i : Nat) : hC T t i = hcn T t (hC T t) i i := hcn_congr fun _ hj => hcs_row T t hj
theorem hC_lt {T : List (Int × Int)} {t : Nat → Nat} {j i : Nat} (hj : j < i) (h1 : imm T j i = true) (h2 : hT T t j = hT T t i) : hC T t j < hC T t i := by
  rw [hC_eq T t i]; exact hcn_le hj h1 h2
theorem hC_at (T : List (Int × Int)) (t : Nat → Nat) (i : Nat) : hC T t i = 0 ∨ ∃ j, j < i ∧ imm T j i = true ∧ hT T t j = hT T t i ∧ hC T t i = hC T t j + 1 := by
  have := hcn_at T t (hC T t) i i
  rw [← hC_eq] at this; exact this
/-- what decides a Count -/
theorem hC_one {T : List (Int × Int)} {t : Nat → Nat} {i c : Nat} (h0 : ∀ j, j < i → imm T j i = true → hT T t j = hT T t i → hC T t j < c) (h1 : c = 0 ∨ ∃ j, j < i ∧ imm T j i = true ∧ hT T t j = hT T t i ∧ c ≤ hC T t j + 1) : hC T t i = c := by
  have ha : hC T t i ≤ c := by
    rcases hC_at T t i with e | ⟨j, a, b, d, e⟩
    · omega
    · have := h0 j a b d; omega
  have hb : c ≤ hC T t i := by
    rcases h1 with e | ⟨j, a, b, d, e⟩
    · omega
    · have := hC_lt a b d; omega
  omega

/-! ### the laws -/
/-- one stamp is less than another one -/
def hL (T : List (Int × Int)) (t : Nat → Nat) (j i : Nat) : Prop := hT T t j < hT T t i ∨ (hT T t j = hT T t i ∧ hC T t j < hC T t i)
theorem hL_trans {T : List (Int × Int)} {t : Nat → Nat} {a b c : Nat} (h1 : hL T t a b) (h2 : hL T t b c) : hL T t a c := by unfold hL at *; omega
/-- WHO IS BEFORE IS LESS -/
theorem hyb_before {P : Int} {T : List (Int × Int)} (hk : TOk P T) (t : Nat → Nat) (i : Nat) : i < T.length → ∀ j, (bs T i).testBit j = true → hL T t j i := by
  induction i using Nat.strongRecOn with
  | _ i ih =>
    intro hi j h
    obtain ⟨a, h1, h2, h3⟩ := bs_imm T i j h
    have ha : hL T t a i := by
      have hle := hT_le (t := t) (imm_bs hk hi h2)
      by_cases e : hT T t a = hT T t i
      · exact .inr ⟨e, hC_lt h1 h2 e⟩
      · exact .inl (by omega)
    rcases h3 with rfl | h3
    · exact ha
    · exact hL_trans (ih a h1 (by omega) j h3) ha
/-- and counts no more than what happened before -/
theorem hyb_many {P : Int} {T : List (Int × Int)} (hk : TOk P T) (t : Nat → Nat) (i : Nat) : i < T.length → hC T t i ≤ cnt 24 (bs T i) := by
  induction i using Nat.strongRecOn with
  | _ i ih =>
    intro hi
    have hl := hk.len
    rcases hC_at T t i with e | ⟨j, a, b, _, e⟩
    · omega
    · have h1 := ih j a (by omega)
      have h2 := imm_bs hk hi b
      have h3 := cnt_lt 24 (bs T j) (bs T i) (fun k h => bs_trans T i j k h2 h) j (by omega) h2 (by
        cases e2 : (bs T j).testBit j with
        | false => rfl
        | true => have := bs_in T j j e2; omega)
      omega
/-- WHERE CLOCKS ARE RIGHT IT IS THE TIME -/
theorem hyb_true {P : Int} {T : List (Int × Int)} (hk : TOk P T) {t : Nat → Nat} {i : Nat} (hi : i < T.length) (h : ∀ k, (bs T i).testBit k = true → t k < t i) : hT T t i = t i ∧ hC T t i = 0 := by
  have h1 : hT T t i = t i := by
    rcases hT_at T t i with e | ⟨j, b, e⟩
    · exact e
    · have := h j b; have := hT_own T t i; omega
  refine ⟨h1, ?_⟩
  rcases hC_at T t i with e | ⟨j, a, b, d, _⟩
  · exact e
  · have hb := imm_bs hk hi b
    rw [h1] at d
    rcases hT_at T t j with e | ⟨k, c, e⟩
    · have := h j hb; omega
    · have := h k (bs_trans T i j k hb c); omega
/-- SET LATER ALL IS LATER -/
theorem hT_late (T : List (Int × Int)) (t : Nat → Nat) (d i : Nat) : hT T (fun k => t k + d) i = hT T t i + d := by
  refine mxf_one (show t i + d ≤ _ by have := hT_own T t i; omega) (fun j _ h => show t j + d ≤ _ by have := hT_bs (t := t) h; omega) ?_
  rcases hT_at T t i with e | ⟨j, b, e⟩
  · exact .inl (show _ = t i + d by omega)
  · exact .inr ⟨j, bs_in T i j b, b, show _ ≤ t j + d by omega⟩
theorem hC_late (T : List (Int × Int)) (t : Nat → Nat) (d i : Nat) : hC T (fun k => t k + d) i = hC T t i := by
  induction i using Nat.strongRecOn with
  | _ i ih =>
    refine hC_one (fun j h1 h2 h3 => ?_) ?_
    · rw [hT_late, hT_late] at h3
      rw [ih j h1]
      exact hC_lt h1 h2 (by omega)
    · rcases hC_at T t i with e | ⟨j, a, b, c, e⟩
      · exact .inl e
      · exact .inr ⟨j, a, b, by rw [hT_late, hT_late, c], by rw [ih j a]; omega⟩

/-! ### by the last of each process -/
/-- the last event of process p below k -/
def lastP (T : List (Int × Int)) (p : Int) : Nat → Option Nat
  | 0 => none
  | k + 1 => if pr T k = p then some k else lastP T p k
theorem lastP_some {T : List (Int × Int)} {p : Int} {k a : Nat} (h : lastP T p k = some a) : a < k ∧ pr T a = p ∧ ∀ m, a < m → m < k → pr T m ≠ p := by
  induction k with
  | zero => simp [lastP] at h
  | succ k ih =>
    simp only [lastP] at h
    by_cases e : pr T k = p
    · rw [if_pos e] at h
      cases h
      exact ⟨by omega, e, fun m h1 h2 => by omega⟩
    · rw [if_neg e] at h
      obtain ⟨h1, h2, h3⟩ := ih h
      refine ⟨by omega, h2, fun m h4 h5 => ?_⟩
      by_cases hm : m = k
      · subst hm; exact e
      · exact h3 m h4 (by omega)
theorem lastP_none {T : List (Int × Int)} {p : Int} {k : Nat} (h : lastP T p k = none) : ∀ m, m < k → pr T m ≠ p := by
  induction k with
  | zero => intro m hm; omega
  | succ k ih =>
    simp only [lastP] at h
    by_cases e : pr T k = p
    · rw [if_pos e] at h; cases h
    · rw [if_neg e] at h
      intro m hm
      by_cases hk : m = k
      · subst hk; exact e
      · exact ih h m (by omega)
/-- the two, told by the last of its process and the one of which it heard -/
theorem imm_iff {P : Int} {T : List (Int × Int)} (hk : TOk P T) {j i : Nat} (hi : i < T.length) : imm T j i = true ↔ (fm T i = (j : Int) ∨ lastP T (pr T i) i = some j) := by
  constructor
  · intro h
    have hj := imm_lt hk hi h
    unfold imm at h
    simp only [Bool.or_eq_true, Bool.and_eq_true, beq_iff_eq] at h
    rcases h with h | ⟨h1, h2⟩
    · exact .inl h
    · right
      cases e : lastP T (pr T i) i with
      | none => exact absurd h1 (lastP_none e j hj)
      | some a =>
        obtain ⟨a1, a2, a3⟩ := lastP_some e
        have hja : j ≤ a := by
          rcases Nat.lt_or_ge a j with h3 | h3
          · exact absurd h1 (a3 j h3 hj)
          · exact h3
        by_cases e2 : j = a
        · rw [e2]
        · have := nth_lt (show j < a by omega) (h1.trans a2.symm)
          have := nth_lt a1 a2
          omega
  · intro h
    unfold imm
    simp only [Bool.or_eq_true, Bool.and_eq_true, beq_iff_eq]
    rcases h with h | h
    · exact .inl h
    · obtain ⟨a1, a2, a3⟩ := lastP_some h
      refine .inr ⟨a2, ?_⟩
      have := cb_gap (p := fun k => pr T k == pr T i) a1 (by simp [a2]) (fun k h1 h2 => by simpa using a3 k h1 h2)
      unfold nth
      rw [this, a2]
end Go.Proofs.YtlhpkpjcfjdgaaaDoor.M
