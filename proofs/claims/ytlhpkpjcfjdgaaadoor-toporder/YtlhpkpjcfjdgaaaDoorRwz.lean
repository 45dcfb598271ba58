/- Rows of whole numbers in a block of its own; no program text is named. -/
import Derived.Test.YtlhpkpjcfjdgaaaDoorSin
import Derived.Test.YtlhpkpjcfjdgaaaDoorHyk
namespace Go.Proofs.YtlhpkpjcfjdgaaaDoor
open Go.RowKit

/-- Whole numbers as cells. -/
def arrZ (m : List Int) : Array Value := (m.map fun x => Value.int .i64 x).toArray
theorem arrZ_size (m : List Int) : (arrZ m).size = m.length := by simp [arrZ]
theorem arrZ_get (m : List Int) (k : Nat) (h : k < m.length) : (arrZ m)[k]? = some (.int .i64 (M.rowZ m k)) := by
  simp [arrZ, M.rowZ, h]
theorem arrZ_set (m : List Int) (i : Nat) (x : Int) : (arrZ m).setIfInBounds i (.int .i64 x) = arrZ (m.set i x) := by
  simp [arrZ, List.map_set]
/-- Block A holds the numbers m, none frozen. -/
def RowZ (t : TypeId) (W : World) (A : Nat) (m : List Int) : Prop := W.heap[A]? = some (.cells (arrZ m) t (0, 0))
theorem RowZ.lt {t : TypeId} {W : World} {A : Nat} {m : List Int} (h : RowZ t W A m) : A < W.heap.size := (Array.getElem?_eq_some_iff.1 h).1
theorem RowZ.cell {t : TypeId} {W : World} {A : Nat} {m : List Int} (h : RowZ t W A m) {k : Nat} (hk : k < m.length) : W.cell? ⟨A, k, none⟩ = some (.int .i64 (M.rowZ m k)) := by
  simp [World.cell?, show W.heap[A]? = _ from h, arrZ_get m k hk]
theorem RowZ.frozen {t : TypeId} {W : World} {A : Nat} {m : List Int} (h : RowZ t W A m) (k : Nat) : W.frozen? ⟨A, k, none⟩ = false := by
  simp [World.frozen?, show W.heap[A]? = _ from h]
theorem RowZ.alloc {t : TypeId} {W : World} {A : Nat} {m : List Int} (h : RowZ t W A m) (o : Obj) : RowZ t (W.alloc o) A m := ((World.grownBy_alloc W o none).block A h.lt (by simp)).trans h
theorem RowZ.drew {t : TypeId} {W : World} {A : Nat} {m : List Int} (h : RowZ t W A m) : RowZ t W.drew A m := h
theorem RowZ.below {t : TypeId} {W W' : World} {A B : Nat} {m : List Int} (h : RowZ t W A m) (hb : Below B W W') (hA : A < B) : RowZ t W' A m := (hb.block A hA).trans h
theorem RowZ.set {t : TypeId} {W : World} {A : Nat} {m : List Int} (h : RowZ t W A m) (i : Nat) (x : Int) : RowZ t (W.setCell ⟨A, i, none⟩ (.int .i64 x)) A (m.set i x) := by
  obtain ⟨hlt, hk⟩ := Array.getElem?_eq_some_iff.1 h
  show (W.heap.modify A _)[A]? = _
  rw [Array.getElem?_eq_getElem (by rw [Array.size_modify]; exact hlt), Array.getElem_modify_self, hk]
  simp [arrZ_set]
theorem RowZ.other {t : TypeId} {W : World} {A : Nat} {m : List Int} (h : RowZ t W A m) {a : Addr} (ha : A ≠ a.block) (v : Value) : RowZ t (W.setCell a v) A m :=
  (Below.heap_setCell W a v A ha).trans h
theorem RowZ.hasI {w : World} {A : Nat} {m : List Int} {t : TypeId} (h : RowZ t w A m) : HasI m (some ⟨A, 0, none⟩) w := fun j hj =>
  ⟨A, 0, rfl, h.lt, by rw [Nat.zero_add]; exact h.cell hj⟩
theorem HasI.at_ {zs : List Int} {p : Option Addr} {w : World} (h : HasI zs p w) {j : Nat} (hj : j < zs.length) {z : Int} (hz : zs[j]?.getD 0 = z) : ∃ b off, p = some ⟨b, off, none⟩ ∧ b < w.heap.size ∧ w.cell? ⟨b, off + j, none⟩ = some (.int .i64 z) := by
  obtain ⟨b, off, h1, h2, h3⟩ := h j hj
  exact ⟨b, off, h1, h2, by rw [h3, hz]⟩
/-- A stamp as a value. -/
abbrev stV (a c : Int) : Value := .agg #[.int .i64 a, .int .i64 c]
end Go.Proofs.YtlhpkpjcfjdgaaaDoor
