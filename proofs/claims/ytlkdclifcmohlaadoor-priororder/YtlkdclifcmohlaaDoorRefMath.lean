/- Plain mathematics: the document's own road to the closure (step by step, each row by itself) comes to the same closed rows; no program text is named. -/
import Derived.Test.YtlkdclifcmohlaaDoorBMa
namespace Go.Proofs.YtlkdclifcmohlaaDoor.M

def hTo (r : List Nat) (s : Nat) : Nat → Nat
  | 0 => s
  | j + 1 => if (hTo r s j).testBit j then hTo r s j ||| row r j else hTo r s j
def hstep (r : List Nat) (s : Nat) : Nat := hTo r s r.length
theorem hTo_up (r : List Nat) (s j : Nat) {k : Nat} (h : (hTo r s j).testBit k = true) : (hTo r s (j + 1)).testBit k = true := by
  simp only [hTo]
  split
  · rw [Nat.testBit_or, h]; rfl
  · exact h
theorem hTo_mono (r : List Nat) (s : Nat) {i j : Nat} (hij : i ≤ j) {k : Nat} (h : (hTo r s i).testBit k = true) : (hTo r s j).testBit k = true := by
  induction j with
  | zero => obtain rfl : i = 0 := by omega
            exact h
  | succ j ih =>
    by_cases e : i = j + 1
    · subst e; exact h
    · exact hTo_up r s j (ih (by omega))
theorem hTo_gets (r : List Nat) (s n : Nat) {j k : Nat} (hj : j < n) (hs : s.testBit j = true) (h : (row r j).testBit k = true) : (hTo r s n).testBit k = true := by
  have h1 : (hTo r s j).testBit j = true := hTo_mono r s (Nat.zero_le j) hs
  refine hTo_mono r s (i := j + 1) (by omega) ?_
  simp only [hTo]
  rw [if_pos h1, Nat.testBit_or, h, Bool.or_true]
theorem hTo_lt {r : List Nat} (hr : Ok r) {s : Nat} (hs : s < 2 ^ r.length) (n : Nat) : hTo r s n < 2 ^ r.length := by
  induction n with
  | zero => exact hs
  | succ n ih =>
    simp only [hTo]
    split
    · exact Nat.or_lt_two_pow ih (hr n)
    · exact ih
theorem hTo_sound {r : List Nat} (T : Nat → Prop) (h1 : ∀ j k, T j → (row r j).testBit k = true → T k) {s : Nat} (h0 : ∀ j, s.testBit j = true → T j) (n : Nat) : ∀ k, (hTo r s n).testBit k = true → T k := by
  induction n with
  | zero => exact h0
  | succ n ih =>
    intro k hk
    simp only [hTo] at hk
    split at hk
    · rename_i hb
      rw [Nat.testBit_or, Bool.or_eq_true] at hk
      rcases hk with hk | hk
      · exact ih k hk
      · exact h1 n k (ih n hb) hk
    · exact ih k hk
theorem hstep_lt {r : List Nat} (hr : Ok r) {s : Nat} (hs : s < 2 ^ r.length) : hstep r s < 2 ^ r.length := hTo_lt hr hs _
theorem iterh_lt {r : List Nat} (hr : Ok r) (i k : Nat) : iter (hstep r) k (row r i) < 2 ^ r.length := by
  induction k with
  | zero => exact hr i
  | succ k ih => exact hstep_lt hr ih
theorem iterh_ge (r : List Nat) (s k : Nat) : ∀ j, (iter (gstep r) k s).testBit j = true → (iter (hstep r) k s).testBit j = true := by
  induction k with
  | zero => exact fun _ h => h
  | succ k ih =>
    intro j h
    rcases (gstep_bit r _ j).1 h with h1 | ⟨m, h2, h3⟩
    · exact hTo_mono r _ (Nat.zero_le _) (ih j h1)
    · exact hTo_gets r _ _ (bit_in h3) (ih m h2) h3
theorem iterh_clo {r : List Nat} (hr : Ok r) (i : Nat) : iter (hstep r) r.length (row r i) = iter (gstep r) r.length (row r i) := by
  apply Nat.eq_of_testBit_eq
  intro j
  rw [Bool.eq_iff_iff]
  constructor
  · intro h
    have hall : ∀ k j, (iter (hstep r) k (row r i)).testBit j = true → Clo r i j := by
      intro k
      induction k with
      | zero => exact fun j h => clo_base h
      | succ k ih => exact hTo_sound (Clo r i) (fun _ _ ha hb => clo_step hr ha hb) ih _
    exact hall _ j h
  · exact iterh_ge r _ _ j
theorem iterh_row {r : List Nat} (hr : Ok r) (i : Nat) (h : i < r.length) : iter (hstep r) r.length (row r i) = row (clo r) i := by rw [iterh_clo hr, clo_row r i h]
end Go.Proofs.YtlkdclifcmohlaaDoor.M
