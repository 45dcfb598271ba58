/- A slice of moves in memory. -/
import Derived.Test.YtplplgpfglaajaaDoorBk11
namespace Go.Proofs.YtplplgpfglaajaaDoor
open Go.RowKit
structure Mv where
  k : Int
  f : Int
  t : Int
  s : Int
def mvAt (ms : List Mv) (j : Nat) : Mv := ms[j]?.getD ⟨0, 0, 0, 0⟩
/-- The slice's address p leads to the moves ms. -/
def HasM (ms : List Mv) (p : Option Addr) (w : World) : Prop := ∀ j, j < ms.length → ∃ b off, p = some ⟨b, off, none⟩ ∧ b < w.heap.size ∧ w.cell? ⟨b, off + j * 4, none⟩ = some (.int .i64 (mvAt ms j).k) ∧ w.cell? ⟨b, off + j * 4 + 1, none⟩ = some (.int .i64 (mvAt ms j).f) ∧ w.cell? ⟨b, off + j * 4 + 2, none⟩ = some (.int .i64 (mvAt ms j).t) ∧ w.cell? ⟨b, off + j * 4 + 3, none⟩ = some (.int .i64 (mvAt ms j).s)
theorem HasM.later {ms : List Mv} {p : Option Addr} {w w' : World} (h : HasM ms p w) (hb : Below w.heap.size w w') : HasM ms p w' := fun j hj => by
  obtain ⟨b, off, h1, h2, h3, h4, h5, h6⟩ := h j hj
  exact ⟨b, off, h1, by have := hb.size; omega, (hb.cell (p := ⟨b, off + j * 4, none⟩) h2).trans h3, (hb.cell (p := ⟨b, off + j * 4 + 1, none⟩) h2).trans h4, (hb.cell (p := ⟨b, off + j * 4 + 2, none⟩) h2).trans h5, (hb.cell (p := ⟨b, off + j * 4 + 3, none⟩) h2).trans h6⟩
theorem frm_below {N : Nat} {a b : World} (h : Frm (fun k => N ≤ k) a b) (hN : N ≤ a.heap.size) : Below N a b := h.below hN (fun k hk => by omega)
end Go.Proofs.YtplplgpfglaajaaDoor
