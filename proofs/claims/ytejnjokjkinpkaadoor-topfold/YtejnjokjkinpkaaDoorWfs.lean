/- Plain mathematics: the steps of a word in one row; what must stay behind in one row, place by place. No program text is named. -/
import Derived.Test.YtejnjokjkinpkaaDoorWfo
namespace Go.Proofs.YtejnjokjkinpkaaDoor.M

/-- the steps, in one row -/
def stL (S : Sts) : List Nat := (List.range S.n).map S.lv
theorem stL_length (S : Sts) : (stL S).length = S.n := by simp [stL]
theorem stL_row {S : Sts} {i : Nat} (h : i < S.n) : row (stL S) i = S.lv i := by simp [stL, row, h]
theorem stL_zero : stL sts0 = [] := rfl
theorem stL_old {f : Nat → Nat → Bool} {m : Nat} {S : Sts} {c : Nat} (h : whr f m S c < S.n) : stL (ins f m S c) = (stL S).set (whr f m S c) (S.lv (whr f m S c) ||| 1 <<< c) := by
  have e : (ins f m S c).n = S.n := by show max S.n (whr f m S c + 1) = S.n; omega
  apply List.ext_getElem
  · simp [stL, e]
  · intro i h1 h2
    have hi : i < S.n := by simpa [stL] using h2
    rw [List.getElem_set]
    have l : (stL (ins f m S c))[i] = (ins f m S c).lv i := by simp [stL]
    rw [l]
    show (if i = whr f m S c then S.lv i ||| 2 ^ c else S.lv i) = _
    by_cases c2 : i = whr f m S c
    · rw [if_pos c2, if_pos c2.symm, c2, Nat.shiftLeft_eq, Nat.one_mul]
    · rw [if_neg c2, if_neg (fun x => c2 x.symm)]; simp [stL]
theorem stL_new {f : Nat → Nat → Bool} {m : Nat} {S : Sts} {c : Nat} (hz : S.lv S.n = 0) (h : whr f m S c = S.n) : stL (ins f m S c) = stL S ++ [1 <<< c] := by
  have e : (ins f m S c).n = S.n + 1 := by show max S.n (whr f m S c + 1) = S.n + 1; omega
  unfold stL
  rw [e, List.range_succ, List.map_append, List.map_cons, List.map_nil]
  congr 1
  · apply List.map_congr_left
    intro i hi
    have := List.mem_range.1 hi
    show (if i = whr f m S c then S.lv i ||| 2 ^ c else S.lv i) = _
    rw [if_neg (by omega)]
  · show [if S.n = whr f m S c then S.lv S.n ||| 2 ^ c else S.lv S.n] = _
    rw [if_pos h.symm, hz, Nat.zero_or, Nat.shiftLeft_eq, Nat.one_mul]
theorem ins_lt {F : List Nat} {m : Nat} {S : Sts} (h : WF (fr F) m S) (i : Nat) : S.lv i < 2 ^ m := by
  apply Nat.lt_pow_two_of_testBit
  intro x hx
  cases e : (S.lv i).testBit x with
  | false => rfl
  | true => have := h.lt i x e; omega
theorem stp_n_le (f : Nat → Nat → Bool) (m : Nat) (w : List Nat) : ∀ j, j ≤ w.length → (stp f m (w.take j)).n ≤ j
  | 0, _ => by simp [stp, sts0]
  | j + 1, hj => by
    rw [take_row (by omega), stp_snoc]
    have := stp_n_le f m w j (by omega)
    have h2 := whr_le f m (stp f m (w.take j)) (row w j)
    show max _ _ ≤ _
    omega
/-- does a letter pass a step? -/
theorem pass_tied {F : List Nat} {m c L : Nat} (hL : ∀ x, L.testBit x = true → x < m) : tied (fr F) m c L = false ↔ ∀ x, L.testBit x = true → (row F c).testBit x = true := by
  constructor
  · intro h x hx
    exact untied h (hL x hx) hx
  · intro h
    cases e : tied (fr F) m c L with
    | false => rfl
    | true =>
      obtain ⟨y, _, h2, h3⟩ := tied_iff.1 e
      have := h y h2
      unfold fr at h3
      rw [this] at h3; cases h3
/-! ### what must stay behind, while it is found -/
/-- at the letter at j, i of those ahead of it done -/
def ahP (f : Nat → Nat → Bool) (w : List Nat) (j i : Nat) : List Nat := (List.range w.length).map fun x => cnt01 (if x < i then j + 1 else j) (ahB f w x)
theorem ahP_length (f : Nat → Nat → Bool) (w : List Nat) (j i : Nat) : (ahP f w j i).length = w.length := by simp [ahP]
theorem ahP_row {f : Nat → Nat → Bool} {w : List Nat} {j i x : Nat} (h : x < w.length) : row (ahP f w j i) x = cnt01 (if x < i then j + 1 else j) (ahB f w x) := by simp [ahP, row, h]
theorem ahP_zero (f : Nat → Nat → Bool) (w : List Nat) : ahP f w 0 0 = List.replicate w.length 0 := by
  apply List.ext_getElem
  · simp [ahP]
  · intro i h1 h2
    simp [ahP, cnt01]
theorem cnt_step (j : Nat) (p : Nat → Bool) : cnt01 (j + 1) p = cnt01 j p ||| (if p j then 1 <<< j else 0) := rfl
theorem ahP_keep {f : Nat → Nat → Bool} {w : List Nat} {j i : Nat} (h : f (row w i) (row w j) = true) : ahP f w j (i + 1) = ahP f w j i := by
  unfold ahP
  apply List.map_congr_left
  intro x _
  by_cases e : x = i
  · subst e
    rw [if_pos (by omega), if_neg (by omega), cnt_step]
    have : ahB f w x j = false := by unfold ahB; rw [h]; simp
    rw [this]; simp
  · by_cases c : x < i
    · rw [if_pos (by omega), if_pos c]
    · rw [if_neg (by omega), if_neg c]
theorem ahP_set {f : Nat → Nat → Bool} {w : List Nat} {j i : Nat} (hi : i < w.length) (hij : i < j) (h : f (row w i) (row w j) = false) : ahP f w j (i + 1) = (ahP f w j i).set i (row (ahP f w j i) i ||| 1 <<< j) := by
  rw [ahP_row hi, if_neg (Nat.lt_irrefl _)]
  apply List.ext_getElem
  · simp [ahP]
  · intro x h1 h2
    have hx : x < w.length := by simpa [ahP] using h1
    rw [List.getElem_set]
    by_cases e : i = x
    · subst e
      rw [if_pos rfl]
      have : ahB f w i j = true := by unfold ahB; rw [h, decide_eq_true hij]; rfl
      simp [ahP, cnt_step, this]
    · rw [if_neg e]
      simp only [ahP, List.getElem_map, List.getElem_range]
      by_cases c : x < i
      · rw [if_pos (by omega), if_pos c]
      · rw [if_neg (by omega), if_neg c]
theorem ahP_next (f : Nat → Nat → Bool) (w : List Nat) (j : Nat) : ahP f w j j = ahP f w (j + 1) 0 := by
  unfold ahP
  apply List.map_congr_left
  intro x _
  rw [if_neg (Nat.not_lt_zero _)]
  by_cases c : x < j
  · rw [if_pos c]
  · rw [if_neg c, cnt_step]
    have : ahB f w x j = false := by unfold ahB; rw [decide_eq_false c]; rfl
    rw [this]; simp
theorem ahP_done (f : Nat → Nat → Bool) (w : List Nat) : ahP f w w.length 0 = ahR f w := by
  unfold ahP ahR
  apply List.map_congr_left
  intro x _
  rw [if_neg (Nat.not_lt_zero _)]
theorem cnt01_lt (k : Nat) (p : Nat → Bool) : cnt01 k p < 2 ^ k := by
  apply Nat.lt_pow_two_of_testBit
  intro x hx
  rw [cnt01_bit, decide_eq_false (by omega)]; rfl
theorem ahP_lt (f : Nat → Nat → Bool) (w : List Nat) (j i x : Nat) : row (ahP f w j i) x < 2 ^ (j + 1) := by
  by_cases h : x < w.length
  · rw [ahP_row h]
    split
    · exact cnt01_lt _ _
    · exact Nat.lt_of_lt_of_le (cnt01_lt _ _) (Nat.pow_le_pow_right (by omega) (by omega))
  · rw [row_out _ _ (by rw [ahP_length]; omega)]; exact Nat.two_pow_pos _
end Go.Proofs.YtejnjokjkinpkaaDoor.M
