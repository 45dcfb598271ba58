/-
  DERIVED. GIVEN WITH THE SEED: THE CARDS: each row of YtckejldbbkibhaaDoorRows.lean that lists a variable, with what it lists TIED to the program's text (the seventh form; the later family's looks); each row that meets fmt, with fmt's text TOLD by the authors' own Lean function (tested against real Go, not proved from fmt's source: count such statements apart). THE CARD IS WHAT COUNTS. Prove the row's statement (the work); the ties are given (YtckejldbbkibhaaDoorTie.lean); close each card by the builder's one call (the guide's Derived/Test/ToyasCard.lean, 'card_holds'). Laid BY PROGRAM, IN A SANDBOX (cutbox-door.mjs). By AI agents, Wed Nov 11 2026. No macro, syntax, notation, axiom, sorry.
-/
import Derived.Test.YtckejldbbkibhaaDoorRows
import GoSem.ClaimSeven
namespace Go.Proofs.YtckejldbbkibhaaDoor
namespace Rows

/-- THE TIED CARD OF 'whensteadlaw2.HybridSays'. -/
def hybridSaysCard : Claim7 := { stood := { row := hybridSaysRow, standIns := [], harness := (true, "d1a4b5c03c016492a266c74e989520552aeaf02bdd6e804b34546d426c60e471"), looks := true }, kinds := [], alts := [], laidByText := true, laidKinds := [.handle], laidTests := true, laidLooks := .later }
def HybridSaysCardSaid : Prop := Claim7.holds Tryd.pinned (.plain (OpenSpec.ofChange hybridSaysSpec)) hybridSaysCard

/-- THE SECOND FORM's CARD OF 'whensteadlaw2.HybridSays'. -/
def hybridSaysUptoCard : Claim7 := { stood := { row := hybridSaysUptoRow, standIns := [], harness := (true, "d1a4b5c03c016492a266c74e989520552aeaf02bdd6e804b34546d426c60e471"), looks := true }, kinds := [], alts := [], laidByText := true, laidKinds := [.handle], laidTests := true, laidLooks := .later }
def HybridSaysUptoCardSaid : Prop := Claim7.holds Tryd.pinned (.plain (OpenSpec.upto hybridSaysSpec)) hybridSaysUptoCard
end Rows
end Go.Proofs.YtckejldbbkibhaaDoor
