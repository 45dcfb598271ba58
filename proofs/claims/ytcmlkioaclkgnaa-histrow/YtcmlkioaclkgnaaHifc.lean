/- The closed fact of the laws of histories (late, histFact). -/
import Derived.Test.YtcmlkioaclkgnaaHi11
namespace Go.Proofs.Ytcmlkioaclkgnaa
open Go.RowKit

def lateH : List M.HOp := [⟨0, 0, 1, 1, 0, 1⟩, ⟨1, 1, 1, 1, 0, 1⟩, ⟨0, 1, 0, 0, 2, 3⟩]
theorem late_h0 : hcd (hz lateH) = 0 := by decide +kernel
theorem late_ok0 : HOk lateH := by
  obtain ⟨h, e, hk⟩ := hcd_get late_h0
  have : h = lateH := by
    have e2 := congrArg hn e
    have hh : ∀ h : List M.HOp, hn (hz h) = h := fun h => by
      induction h with
      | nil => rfl
      | cons a r ih => exact congrArg (a :: ·) ih
    rw [hh, hh] at e2
    exact e2.symm
  rwa [this] at hk
theorem late_all : M.best true lateH 3 0 (fun _ => 0) = none := by decide +kernel
theorem late_weak : M.best false lateH 3 0 (fun _ => 0) = some [0, 2, 1] := by decide +kernel
abbrev lateC : Array Value := #[.int .i64 0, .int .i64 0, .int .i64 1, .int .i64 1, .int .i64 0, .int .i64 1, .int .i64 1, .int .i64 1, .int .i64 1, .int .i64 1, .int .i64 0, .int .i64 1, .int .i64 0, .int .i64 1, .int .i64 0, .int .i64 0, .int .i64 2, .int .i64 3]
theorem late_has {w : World} {B : Nat} {t : TypeId} (h : Blk w B lateC t) : HasO (hz lateH) (some ⟨B, 0, none⟩) w := fun j hj => by
  have hl := h.lt
  match j, hj with
  | 0, _ => exact ⟨B, 0, rfl, hl, h.cell 0, h.cell 1, h.cell 2, h.cell 3, h.cell 4, h.cell 5⟩
  | 1, _ => exact ⟨B, 0, rfl, hl, h.cell 6, h.cell 7, h.cell 8, h.cell 9, h.cell 10, h.cell 11⟩
  | 2, _ => exact ⟨B, 0, rfl, hl, h.cell 12, h.cell 13, h.cell 14, h.cell 15, h.cell 16, h.cell 17⟩
set_option maxRecDepth 100000 in
theorem late_go (w : World) : Calls Try.prog 10 #[] w fun e w' => e = .returned (.slice (some ⟨w.heap.size, 0, none⟩) 3 3) ∧ HasO (hz lateH) (some ⟨w.heap.size, 0, none⟩) w' ∧ Below w.heap.size w w' := by
  have h1 := late_has (Blk.new w lateC 32)
  have h2 : Below w.heap.size w (w.alloc (.cells lateC 32)) := bel_al (Below.refl _ _) _
  go_enter Try.func10, Try.ntmps10
  go_wp2_with fail
  go_ret
  exact ⟨rfl, h1, h2⟩
theorem has3 (w : World) (x y z : Nat) : HasI (ints [x, y, z]) (some ⟨w.heap.size, 0, none⟩) (w.alloc (.cells #[.int .i64 (x : Nat), .int .i64 (y : Nat), .int .i64 (z : Nat)] 3)) := fun j hj => by
  refine ⟨w.heap.size, 0, rfl, by simp, ?_⟩
  rw [ints_get]
  have hj' : j < 3 := by simpa [ints] using hj
  match j, hj' with
  | 0, _ => simp [M.row]
  | 1, _ => simp [M.row]
  | 2, _ => simp [M.row]
set_option maxRecDepth 100000 in
set_option maxHeartbeats 1000000 in
theorem histFact_ok (w : World) : Calls Try.prog 6 #[] w fun e w' => e = .returned (.bool true) ∧ Below w.heap.size w w' := by
  go_enter Try.func6, Try.ntmps6
  go_wp2_with fail
  refine (late_go w).mono ?_
  rintro e w1 ⟨rfl, h1, hB1⟩
  go_wp2_with fail
  refine (atomic_ok lateH _ 3 3 w1 rfl late_ok0 late_h0 (Nat.le_refl _) h1).mono ?_
  rintro e w2 ⟨v, rfl, -, hn, hB2⟩
  rw [late_all]
  obtain rfl := hn late_all
  have hC2 := bel_on hB1 hB2
  clear hn h1 hB1 hB2
  go_wp2_with fail
  refine (late_go w2).mono ?_
  rintro e w3 ⟨rfl, h3, hB3⟩
  go_wp2_with fail
  refine (weak_ok lateH _ 3 3 w3 rfl late_ok0 late_h0 (Nat.le_refl _) h3).mono ?_
  rintro e w4 ⟨v, rfl, hs, -, hB4⟩
  rw [late_weak]
  obtain ⟨q, cq, rfl, hI⟩ := hs _ late_weak
  have hC4 := bel_on (bel_on hC2 hB3) hB4
  have hB5 : Below w4.heap.size w4 (w4.alloc (.cells #[.int .i64 0, .int .i64 2, .int .i64 1] 3)) := bel_al (Below.refl _ _) _
  have h5 := has3 w4 0 2 1
  have hI5 := hI.later hB5
  have hC5 := bel_on hC4 hB5
  clear hs h3 hB3 hB4 hI
  go_wp2_with fail
  refine (same_intsI (ints [0, 2, 1]) q (some ⟨w4.heap.size, 0, none⟩) 3 cq 3 _ rfl (by unfold maxLen; omega) hI5 h5).mono ?_
  rintro e w7 ⟨rfl, hB7⟩
  have HB : Hid (Below w.heap.size w w7) := bel_on hC5 hB7
  clear hI5 h5 hC5 hB7 hC4 hB5 hC2
  go_wp2_with fail
  go_ret
  exact ⟨rfl, HB.out⟩
end Go.Proofs.Ytcmlkioaclkgnaa
