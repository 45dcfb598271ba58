/- The closed fact of the laws of histories (late, histFact). -/
import Derived.Test.YtdbejgidgajhlaaHi11
namespace Go.Proofs.Ytdbejgidgajhlaa
open Go.RowKit

def lateH : List M.HOp := [⟨0, 0, 1, 1, 0, 1⟩, ⟨1, 1, 1, 1, 0, 1⟩, ⟨0, 1, 0, 0, 2, 3⟩]
theorem late_h0 : hcd (hz lateH) = 0 := by decide +kernel
theorem late_ok0 : HOk lateH := by
  obtain ⟨h, e, hk⟩ := hcd_get late_h0
  have : h = lateH := by
    have e2 := congrArg hn e
    have hh : ∀ h : List M.HOp, hn (hz h) = h := fun h => by
      induction h with
      | nil => rfl
      | cons a r ih => exact congrArg (a :: ·) ih
    rw [hh, hh] at e2
    exact e2.symm
  rwa [this] at hk
theorem late_all : M.best true lateH 3 0 (fun _ => 0) = none := by decide +kernel
theorem late_weak : M.best false lateH 3 0 (fun _ => 0) = some [0, 2, 1] := by decide +kernel
abbrev lateC : Array Value := #[.int .i64 0, .int .i64 0, .int .i64 1, .int .i64 1, .int .i64 0, .int .i64 1, .int .i64 1, .int .i64 1, .int .i64 1, .int .i64 1, .int .i64 0, .int .i64 1, .int .i64 0, .int .i64 1, .int .i64 0, .int .i64 0, .int .i64 2, .int .i64 3]
theorem late_has {w : World} {B : Nat} {t : TypeId} (h : Blk w B lateC t) : HasO (hz lateH) (some ⟨B, 0, none⟩) w := fun j hj => by
  have hl := h.lt
  match j, hj with
  | 0, _ => exact ⟨B, 0, rfl, hl, h.cell 0, h.cell 1, h.cell 2, h.cell 3, h.cell 4, h.cell 5⟩
  | 1, _ => exact ⟨B, 0, rfl, hl, h.cell 6, h.cell 7, h.cell 8, h.cell 9, h.cell 10, h.cell 11⟩
  | 2, _ => exact ⟨B, 0, rfl, hl, h.cell 12, h.cell 13, h.cell 14, h.cell 15, h.cell 16, h.cell 17⟩
theorem has3 (w : World) (x y z : Nat) : HasI (ints [x, y, z]) (some ⟨w.heap.size, 0, none⟩) (w.alloc (.cells #[.int .i64 (x : Nat), .int .i64 (y : Nat), .int .i64 (z : Nat)] 3)) := fun j hj => by
  refine ⟨w.heap.size, 0, rfl, by simp, ?_⟩
  rw [ints_get]
  have hj' : j < 3 := by simpa [ints] using hj
  match j, hj' with
  | 0, _ => simp [M.row]
  | 1, _ => simp [M.row]
  | 2, _ => simp [M.row]
end Go.Proofs.Ytdbejgidgajhlaa
