/- Rows of whole numbers in a block of its own; no program text is named. -/
import Derived.Test.YtajiichehffaaaaDoorBTr
namespace Go.Proofs.YtajiichehffaaaaDoor
open Go.RowKit

def rowY (m : List Int) (k : Nat) : Int := m[k]?.getD 0
/-- Whole numbers as cells. -/
def arrY (m : List Int) : Array Value := (m.map fun x => Value.int .i64 x).toArray
theorem arrY_size (m : List Int) : (arrY m).size = m.length := by simp [arrY]
theorem arrY_get (m : List Int) (k : Nat) (h : k < m.length) : (arrY m)[k]? = some (.int .i64 (rowY m k)) := by
  simp [arrY, rowY, h]
theorem arrY_set (m : List Int) (i : Nat) (x : Int) : (arrY m).setIfInBounds i (.int .i64 x) = arrY (m.set i x) := by
  simp [arrY, List.map_set]
/-- Block A holds the numbers m, none frozen. -/
def RowY (t : TypeId) (W : World) (A : Nat) (m : List Int) : Prop := W.heap[A]? = some (.cells (arrY m) t (0, 0))
theorem RowY.lt {t : TypeId} {W : World} {A : Nat} {m : List Int} (h : RowY t W A m) : A < W.heap.size := (Array.getElem?_eq_some_iff.1 h).1
theorem RowY.cell {t : TypeId} {W : World} {A : Nat} {m : List Int} (h : RowY t W A m) {k : Nat} (hk : k < m.length) : W.cell? ⟨A, k, none⟩ = some (.int .i64 (rowY m k)) := by
  simp [World.cell?, show W.heap[A]? = _ from h, arrY_get m k hk]
theorem RowY.frozen {t : TypeId} {W : World} {A : Nat} {m : List Int} (h : RowY t W A m) (k : Nat) : W.frozen? ⟨A, k, none⟩ = false := by
  simp [World.frozen?, show W.heap[A]? = _ from h]
theorem RowY.alloc {t : TypeId} {W : World} {A : Nat} {m : List Int} (h : RowY t W A m) (o : Obj) : RowY t (W.alloc o) A m := ((World.grownBy_alloc W o none).block A h.lt (by simp)).trans h
theorem RowY.drew {t : TypeId} {W : World} {A : Nat} {m : List Int} (h : RowY t W A m) : RowY t W.drew A m := h
theorem RowY.below {t : TypeId} {W W' : World} {A B : Nat} {m : List Int} (h : RowY t W A m) (hb : Below B W W') (hA : A < B) : RowY t W' A m := (hb.block A hA).trans h
theorem RowY.set {t : TypeId} {W : World} {A : Nat} {m : List Int} (h : RowY t W A m) (i : Nat) (x : Int) : RowY t (W.setCell ⟨A, i, none⟩ (.int .i64 x)) A (m.set i x) := by
  obtain ⟨hlt, hk⟩ := Array.getElem?_eq_some_iff.1 h
  show (W.heap.modify A _)[A]? = _
  rw [Array.getElem?_eq_getElem (by rw [Array.size_modify]; exact hlt), Array.getElem_modify_self, hk]
  simp [arrY_set]
theorem RowY.other {t : TypeId} {W : World} {A : Nat} {m : List Int} (h : RowY t W A m) {a : Addr} (ha : A ≠ a.block) (v : Value) : RowY t (W.setCell a v) A m :=
  (Below.heap_setCell W a v A ha).trans h
theorem RowY.hasI {w : World} {A : Nat} {m : List Int} {t : TypeId} (h : RowY t w A m) : HasI m (some ⟨A, 0, none⟩) w := fun j hj =>
  ⟨A, 0, rfl, h.lt, by rw [Nat.zero_add]; exact h.cell hj⟩
end Go.Proofs.YtajiichehffaaaaDoor
