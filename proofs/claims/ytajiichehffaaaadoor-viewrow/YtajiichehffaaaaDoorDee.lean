/- Deeds of transactions in memory. No walk. -/
import Derived.Test.YtajiichehffaaaaDoorBTr
namespace Go.Proofs.YtajiichehffaaaaDoor
open Go.RowKit
/-! ### deeds in memory -/
structure Dz where
  k : Int
  t : Int
  i : Int
  x : Int
def dAt (zs : List Dz) (j : Nat) : Dz := zs[j]?.getD ⟨0, 0, 0, 0⟩
structure DeAt (o : Dz) (b k : Nat) (w : World) : Prop where
  lt : b < w.heap.size
  c0 : w.cell? ⟨b, k, none⟩ = some (.int .i64 o.k)
  c1 : w.cell? ⟨b, k + 1, none⟩ = some (.int .i64 o.t)
  c2 : w.cell? ⟨b, k + 2, none⟩ = some (.int .i64 o.i)
  c3 : w.cell? ⟨b, k + 3, none⟩ = some (.int .i64 o.x)
theorem DeAt.later {o : Dz} {b k N : Nat} {w w' : World} (h : DeAt o b k w) (hb : Below N w w') (hN : b < N) : DeAt o b k w' :=
  ⟨by have := hb.size; have := h.lt; omega, (hb.cell (p := ⟨b, k, none⟩) hN).trans h.c0, (hb.cell (p := ⟨b, k + 1, none⟩) hN).trans h.c1, (hb.cell (p := ⟨b, k + 2, none⟩) hN).trans h.c2, (hb.cell (p := ⟨b, k + 3, none⟩) hN).trans h.c3⟩
/-- The slice's address p leads to the deeds zs. -/
def HasD (zs : List Dz) (p : Option Addr) (w : World) : Prop := ∀ j, j < zs.length → ∃ b off, p = some ⟨b, off, none⟩ ∧ DeAt (dAt zs j) b (off + j * 4) w
theorem HasD.later {zs : List Dz} {p : Option Addr} {w w' : World} (h : HasD zs p w) (hb : Below w.heap.size w w') : HasD zs p w' := fun j hj => by
  obtain ⟨b, off, h1, h2⟩ := h j hj
  exact ⟨b, off, h1, h2.later hb h2.lt⟩
theorem deAt_new (w : World) (o : Dz) : DeAt o w.heap.size 0 (w.alloc (.cells #[.int .i64 o.k, .int .i64 o.t, .int .i64 o.i, .int .i64 o.x] 31)) :=
  ⟨by simp, by rw [cell_of_row _ _ _ _ _ _ (World.alloc_heap_new w _)]; rfl, by rw [cell_of_row _ _ _ _ _ _ (World.alloc_heap_new w _)]; rfl, by rw [cell_of_row _ _ _ _ _ _ (World.alloc_heap_new w _)]; rfl, by rw [cell_of_row _ _ _ _ _ _ (World.alloc_heap_new w _)]; rfl⟩
end Go.Proofs.YtajiichehffaaaaDoor
