/- Two lists of numbers that are the same are told to be so (package whensteadsame, Ints); what lay in memory lies as it lay. -/
import Derived.Test.YtelonimdpeenaaaDoorTbf
namespace Go.Proofs.YtelonimdpeenaaaDoor
open Go.RowKit

/-- The slice's address p leads to the numbers zs. -/
def HasI (zs : List Int) (p : Option Addr) (w : World) : Prop := ∀ j, j < zs.length → ∃ b off, p = some ⟨b, off, none⟩ ∧ b < w.heap.size ∧ w.cell? ⟨b, off + j, none⟩ = some (.int .i64 (zs[j]?.getD 0))
theorem HasI.later {zs : List Int} {p : Option Addr} {w w' : World} (h : HasI zs p w) (hb : Below w.heap.size w w') : HasI zs p w' := fun j hj => by
  obtain ⟨b, off, h1, h2, h3⟩ := h j hj
  exact ⟨b, off, h1, by have := hb.size; omega, (hb.cell (p := ⟨b, off + j, none⟩) h2).trans h3⟩
theorem RowAt.hasI {w : World} {A : Nat} {m : List Nat} {t : TypeId} (h : RowAt t w A m) : HasI (ints m) (some ⟨A, 0, none⟩) w := fun j hj => by
  rw [ints_length] at hj
  exact ⟨A, 0, rfl, h.lt, by rw [ints_get, Nat.zero_add]; exact h.cell hj⟩
end Go.Proofs.YtelonimdpeenaaaDoor
