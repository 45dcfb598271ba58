/- An act at the document's own gate (whensteadref3.Pass): any act. -/
import Derived.Test.YtlkdclifcmohlaaDoorRefP1
import Derived.Test.YtlkdclifcmohlaaDoorRefP2
import Derived.Test.YtlkdclifcmohlaaDoorRefP3
namespace Go.Proofs.YtlkdclifcmohlaaDoor
open Go.RowKit
theorem rpass_ok {G : Nat → Prop} {s : M.Gt} (o : Az) (sk : Bool) (pa : Option Addr) (ca : Nat) (w : World) (hR : RA G s.ac pa ca w) (hG : ∀ j, w.heap.size ≤ j → G j) (hS : M.GG s) :
    Calls Tryd.prog 12 #[rgV sk s pa ca, acV o] w fun e w' => ∃ p' c', e = .returned (.tuple #[rgV sk (gtZ sk s o).1 p' c', .bool (gtZ sk s o).2.1, .int .i64 ((((gtZ sk s o).2.2 : Nat) : Int))]) ∧ RA G (gtZ sk s o).1.ac p' c' w' ∧ Below w.heap.size w w' := by
  cases h0 : aIn o with
  | false =>
    have e : gtZ sk s o = (s, false, 1) := if_neg (by rw [h0]; simp)
    rw [e]
    exact rp_bad o sk pa ca w hR hG h0
  | true =>
    obtain ⟨ho, ht, hi, hx⟩ := aIn_parts h0
    have eg : gtZ sk s o = M.gtDo sk s o.n := if_pos h0
    rw [eg]
    obtain ⟨⟨t, i, x⟩, hn⟩ : ∃ a, o.n = a := ⟨_, rfl⟩
    rw [hn] at ho ht hi hx ⊢
    have ho2 : o = ⟨(t : Nat), (i : Nat), (x : Nat)⟩ := ho
    clear eg hn ho
    subst ho2
    simp only at ht hi hx
    cases e2 : s.dead.testBit t with
    | true => rw [M.gt_dead e2]; exact rp_dead t i x sk pa ca w hR hG hS h0 ht e2
    | false =>
    by_cases e3 : 24 ≤ s.ac.length
    · rw [M.gt_full e2 e3]; exact rp_full t i x sk pa ca w hR hG hS h0 ht e2 e3
    have hL : s.ac.length < 24 := by omega
    have hxx : x = 0 ∨ x = 1 := by omega
    cases c3 : M.lateB sk s ⟨t, i, x⟩ with
    | true =>
      rw [M.gt_late e2 e3 c3]
      refine rp_late t i x sk pa ca w hR hG hS h0 ht e2 hL ?_
      unfold M.lateB at c3
      simp only at c3
      rcases hxx with rfl | rfl
      · refine .inl ⟨rfl, ?_⟩
        cases q : M.grW s t i with
        | true => rfl
        | false => rw [q] at c3; simp at c3
      · cases r : M.grR s t i with
        | true => exact .inr (.inl ⟨rfl, rfl⟩)
        | false =>
          rw [r] at c3
          cases q : M.grW s t i with
          | false => rw [q] at c3; simp at c3
          | true =>
            rw [q] at c3
            cases sk with
            | true => simp at c3
            | false => exact .inr (.inr ⟨rfl, rfl, rfl, rfl⟩)
    | false =>
    cases c4 : M.grW s t i with
    | false =>
      rw [M.gt_did e2 e3 c3 c4]
      refine rp_did t i x sk pa ca w hR hG hS h0 ht e2 hL ?_
      rcases hxx with rfl | rfl
      · exact .inl ⟨rfl, c4⟩
      · refine .inr ⟨rfl, ?_, c4⟩
        unfold M.lateB at c3
        simp only at c3
        cases r : M.grR s t i with
        | false => rfl
        | true => rw [r] at c3; simp at c3
    | true =>
      unfold M.lateB at c3
      simp only at c3
      rcases hxx with rfl | rfl
      · rw [c4] at c3; simp at c3
      · have hr : M.grR s t i = false := by
          cases r : M.grR s t i with
          | false => rfl
          | true => rw [r] at c3; simp at c3
        have hk : sk = true := by
          rw [c4] at c3
          cases sk with
          | true => rfl
          | false => simp at c3
        rw [M.gt_skip e2 e3 (by unfold M.lateB; simp only; exact c3) rfl c4]
        exact rp_skip t i 1 sk pa ca w hR hG hS h0 ht e2 hL ⟨rfl, hr, c4, hk⟩
end Go.Proofs.YtlkdclifcmohlaaDoor
