/-
  DERIVED. GIVEN WITH THE SEED: THE CARDS: each row of YtjannokbdjjejabDoorRows.lean that lists a variable, with what it lists TIED to the program's text (the seventh form; the later family's looks); each row that meets fmt, with fmt's text TOLD by the authors' own Lean function (tested against real Go, not proved from fmt's source: count such statements apart). THE CARD IS WHAT COUNTS. Prove the row's statement (the work); the ties are given (YtjannokbdjjejabDoorTie.lean); close each card by the builder's one call (the guide's Derived/Test/ToyasCard.lean, 'card_holds'). Laid BY PROGRAM, IN A SANDBOX (cutbox-door.mjs). By AI agents, Wed Nov 11 2026. No macro, syntax, notation, axiom, sorry.
-/
import Derived.Test.YtjannokbdjjejabDoorRows
import GoSem.ClaimSeven
namespace Go.Proofs.YtjannokbdjjejabDoor
namespace Rows

/-- THE TIED CARD OF 'whensteadlaw1.ChainMore'. -/
def chainMoreCard : Claim7 := { stood := { row := chainMoreRow, standIns := [], harness := (true, "2eabb0555054484695f71868e80496524a0d9911eec7c885570bdc08411ee380"), looks := false }, kinds := [], alts := [], laidByText := true, laidKinds := [.data, .data], laidTests := true, laidLooks := .later }
def ChainMoreCardSaid : Prop := Claim7.holds Tryd.pinned (.plain (OpenSpec.ofChange chainMoreSpec)) chainMoreCard

/-- THE SECOND FORM's CARD OF 'whensteadlaw1.ChainMore'. -/
def chainMoreUptoCard : Claim7 := { stood := { row := chainMoreUptoRow, standIns := [], harness := (true, "2eabb0555054484695f71868e80496524a0d9911eec7c885570bdc08411ee380"), looks := false }, kinds := [], alts := [], laidByText := true, laidKinds := [.data, .data], laidTests := true, laidLooks := .later }
def ChainMoreUptoCardSaid : Prop := Claim7.holds Tryd.pinned (.plain (OpenSpec.upto chainMoreSpec)) chainMoreUptoCard
end Rows
end Go.Proofs.YtjannokbdjjejabDoor
