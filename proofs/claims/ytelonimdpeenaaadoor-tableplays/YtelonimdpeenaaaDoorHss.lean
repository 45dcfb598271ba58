/- A slice of slices of numbers in memory. -/
import Derived.Test.YtelonimdpeenaaaDoorFrm
namespace Go.Proofs.YtelonimdpeenaaaDoor
open Go.RowKit
def ssAt (ss : List (List Int)) (j : Nat) : List Int := ss[j]?.getD []
/-- The slice's address p leads to the lists ss. -/
def HasSS (ss : List (List Int)) (p : Option Addr) (w : World) : Prop := ∀ j, j < ss.length → ∃ b off a c, p = some ⟨b, off, none⟩ ∧ b < w.heap.size ∧ w.cell? ⟨b, off + j, none⟩ = some (.slice a (ssAt ss j).length c) ∧ HasI (ssAt ss j) a w ∧ (ssAt ss j).length ≤ maxLen
theorem HasSS.later {ss : List (List Int)} {p : Option Addr} {w w' : World} (h : HasSS ss p w) (hb : Below w.heap.size w w') : HasSS ss p w' := fun j hj => by
  obtain ⟨b, off, a, c, h1, h2, h3, h4, h5⟩ := h j hj
  exact ⟨b, off, a, c, h1, by have := hb.size; omega, (hb.cell (p := ⟨b, off + j, none⟩) h2).trans h3, h4.later hb, h5⟩
end Go.Proofs.YtelonimdpeenaaaDoor
