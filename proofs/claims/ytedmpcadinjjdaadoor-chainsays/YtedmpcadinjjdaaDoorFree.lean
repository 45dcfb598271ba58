/- A region that draws its order, by what holds whichever of its operations are done: no program text is named. -/
import Derived.Orders
import Derived.Tactics
namespace Go.Proofs.YtedmpcadinjjdaaDoor

section
variable {P : Program} {ops : Array Oper} {Q : Exit → Act → World → Prop} {md : Region.Mode}

def openN (l : Array Bool) : Nat := l.toList.countP (fun b => !b)
theorem openN_set {l : Array Bool} {i : Nat} (h : l.getD i true = false) : openN (l.setIfInBounds i true) < openN l := by
  have hi : i < l.size := by
    rcases Nat.lt_or_ge i l.size with h1 | h1
    · exact h1
    · simp [Array.getD, Nat.not_lt.2 h1] at h
  have hb : l.toList[i]'(by simpa using hi) = false := by
    simpa [Array.getD, hi] using h
  unfold openN
  rw [Array.toList_setIfInBounds, List.countP_set (by simpa using hi), hb]
  have : 0 < l.toList.countP (fun b => !b) := List.countP_pos_iff.2 ⟨false, by rw [← hb]; exact List.getElem_mem _, rfl⟩
  rw [if_pos (show (!false) = true from rfl), if_neg (show ¬ (!true) = true by simp)]
  omega
theorem openN_zero {l : Array Bool} (h : openN l = 0) (j : Nat) : l.getD j true = true := by
  unfold openN at h
  rw [List.countP_eq_zero] at h
  rcases Nat.lt_or_ge j l.size with h1 | h1
  · have := h (l.toList[j]'(by simpa using h1)) (List.getElem_mem _)
    simpa [Array.getD, h1] using this
  · simp [Array.getD, Nat.not_lt.2 h1]

theorem wpAny_inv {I : Array Bool → Act → World → Prop}
    (hstep : ∀ listed a w i, listed.size = ops.size → I listed a w → i ∈ Region.ready md ops listed → wpOp P ops Q i (I (listed.setIfInBounds i true)) a w)
    (hend : ∀ listed a w, listed.size = ops.size → Region.ready md ops listed = [] → I listed a w → Q .normal a w) :
    ∀ (fuel : Nat) (listed : Array Bool) (a : Act) (w : World), listed.size = ops.size → openN listed ≤ fuel → I listed a w → wpAny P md ops Q fuel listed a w := by
  intro fuel
  induction fuel with
  | zero =>
    intro listed a w hs hc hi
    have hr : Region.ready md ops listed = [] := by
      cases h : Region.ready md ops listed with
      | nil => rfl
      | cons j js =>
        have hj := (mem_ready.1 (show j ∈ Region.ready md ops listed by rw [h]; exact List.mem_cons_self ..)).1
        rw [openN_zero (by omega) j] at hj
        cases hj
    exact ⟨hr, hend listed a w hs hr hi⟩
  | succ fuel ih =>
    intro listed a w hs hc hi
    refine ⟨fun hr => hend listed a w hs hr hi, fun i hir => ?_⟩
    refine wpOp_mono (fun a' w' h' => ih _ a' w' (by simpa using hs) ?_ h') (hstep listed a w i hs hi hir)
    have := openN_set (mem_ready.1 hir).1
    omega
/-- Where all edges that bind lead back, nothing more may come up only when all is done. -/
theorem all_listed {listed : Array Bool} (hs : listed.size = ops.size) (hb : ∀ (i : Nat) (o : Oper), ops[i]? = some o → ∀ e ∈ o.after, Region.binds md e = true → e.on < i) (hr : Region.ready md ops listed = []) :
    ∀ i, i < ops.size → listed.getD i false = true := by
  intro i
  induction i using Nat.strongRecOn with
  | _ i ih =>
    intro hi
    have ho : ops[i]? = some ops[i] := Array.getElem?_eq_getElem hi
    cases hl : listed.getD i true with
    | false =>
      have : i ∈ Region.ready md ops listed := mem_ready.2 ⟨hl, ops[i], ho, fun e he hbd => ih e.on (hb i _ ho e he hbd) (by have := hb i _ ho e he hbd; omega)⟩
      rw [hr] at this; cases this
    | true =>
      have h2 : i < listed.size := by omega
      simpa [Array.getD, h2] using hl
theorem wp_other {o : Oper} {a : Act} {w : World} {K : Act → World → Prop} {Q Q' : Exit → Act → World → Prop} (h : ∀ x a w, x ≠ .normal → Q x a w → Q' x a w) (hh : o.wp P a w K Q) : o.wp P a w K Q' := by
  unfold Oper.wp at *
  generalize (execOp a.eval o).run P w = r at *
  cases r with
  | ok n w' =>
    cases n <;> simp only [Oper.upon] at hh ⊢ <;>
      first
        | exact hh
        | (refine Calls.mono hh (fun e w'' he => ?_); cases e with
            | returned v => exact he
            | panicked c => exact h _ _ _ (fun h => by cases h) he
            | outgrown => obtain ⟨a, w, hq⟩ := he; exact ⟨a, w, h _ _ _ (fun h => by cases h) hq⟩)
  | halt x w' => cases x <;> simp only [Oper.upon] at hh ⊢ <;> first | exact h _ _ _ (fun h => by cases h) hh | exact hh
/-- One operation, walked as a list of one. -/
theorem wpOp_of_list {i : Nat} {o : Oper} {K : Act → World → Prop} {a : Act} {w : World} (ho : ops[i]? = some o) (h : wpList P ops (fun x a w => x = .normal ∧ K a w) [o] a w) : wpOp P ops Q i K a w := by
  unfold wpOp
  rw [ho]
  simp only [wpList] at h ⊢
  split
  · rename_i hw
    rw [if_pos hw] at h
    rcases h with h | ⟨_, a0, w0, h1, _⟩
    · exact .inl (wp_other (fun x a w hx hq => absurd hq.1 hx) (Oper.wp_mono (fun a w h => h.2) h))
    · cases h1
  · rename_i hw
    rw [if_neg hw] at h
    exact h.2
end
end Go.Proofs.YtedmpcadinjjdaaDoor
