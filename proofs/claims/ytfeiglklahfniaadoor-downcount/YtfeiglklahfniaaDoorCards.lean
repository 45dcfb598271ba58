/-
  DERIVED. GIVEN WITH THE SEED: THE CARDS: each row of YtfeiglklahfniaaDoorRows.lean that lists a variable, with what it lists TIED to the program's text (the seventh form; the later family's looks); each row that meets fmt, with fmt's text TOLD by the authors' own Lean function (tested against real Go, not proved from fmt's source: count such statements apart). THE CARD IS WHAT COUNTS. Prove the row's statement (the work); the ties are given (YtfeiglklahfniaaDoorTie.lean); close each card by the builder's one call (the guide's Derived/Test/ToyasCard.lean, 'card_holds'). Laid BY PROGRAM, IN A SANDBOX (cutbox-door.mjs). By AI agents, Wed Nov 11 2026. No macro, syntax, notation, axiom, sorry.
-/
import Derived.Test.YtfeiglklahfniaaDoorRows
import GoSem.ClaimSeven
namespace Go.Proofs.YtfeiglklahfniaaDoor
namespace Rows

/-- THE TIED CARD OF 'whensteadlaw1.DownSays'. -/
def downSaysCard : Claim7 := { stood := { row := downSaysRow, standIns := [], harness := (true, "89b7a8cdb36cd706915f580402bb863a52ae187a701ca8bef24b67c313aecdfb"), looks := true }, kinds := [], alts := [], laidByText := true, laidKinds := [.data, .data, .handle], laidTests := true, laidLooks := .later }
def DownSaysCardSaid : Prop := Claim7.holds Tryd.pinned (.plain (OpenSpec.ofChange downSaysSpec)) downSaysCard

/-- THE TIED CARD OF 'whensteadlaw1.DownCloses'. -/
def downClosesCard : Claim7 := { stood := { row := downClosesRow, standIns := [], harness := (true, "89b7a8cdb36cd706915f580402bb863a52ae187a701ca8bef24b67c313aecdfb"), looks := true }, kinds := [], alts := [], laidByText := true, laidKinds := [.data, .data], laidTests := true, laidLooks := .later }
def DownClosesCardSaid : Prop := Claim7.holds Tryd.pinned (.plain (OpenSpec.ofChange downClosesSpec)) downClosesCard

/-- THE TIED CARD OF 'whensteadlaw1.DownLattice'. -/
def downLatticeCard : Claim7 := { stood := { row := downLatticeRow, standIns := [], harness := (true, "89b7a8cdb36cd706915f580402bb863a52ae187a701ca8bef24b67c313aecdfb"), looks := true }, kinds := [], alts := [], laidByText := true, laidKinds := [.data, .data], laidTests := true, laidLooks := .later }
def DownLatticeCardSaid : Prop := Claim7.holds Tryd.pinned (.plain (OpenSpec.ofChange downLatticeSpec)) downLatticeCard

/-- THE TIED CARD OF 'whensteadlaw1.DownLast'. -/
def downLastCard : Claim7 := { stood := { row := downLastRow, standIns := [], harness := (true, "89b7a8cdb36cd706915f580402bb863a52ae187a701ca8bef24b67c313aecdfb"), looks := true }, kinds := [], alts := [], laidByText := true, laidKinds := [.data, .data], laidTests := true, laidLooks := .later }
def DownLastCardSaid : Prop := Claim7.holds Tryd.pinned (.plain (OpenSpec.ofChange downLastSpec)) downLastCard

/-- THE TIED CARD OF 'whensteadlaw1.DownCount'. -/
def downCountCard : Claim7 := { stood := { row := downCountRow, standIns := [], harness := (true, "89b7a8cdb36cd706915f580402bb863a52ae187a701ca8bef24b67c313aecdfb"), looks := true }, kinds := [], alts := [], laidByText := true, laidKinds := [.data, .data], laidTests := true, laidLooks := .later }
def DownCountCardSaid : Prop := Claim7.holds Tryd.pinned (.plain (OpenSpec.ofChange downCountSpec)) downCountCard

/-- THE SECOND FORM's CARD OF 'whensteadlaw1.DownSays'. -/
def downSaysUptoCard : Claim7 := { stood := { row := downSaysUptoRow, standIns := [], harness := (true, "89b7a8cdb36cd706915f580402bb863a52ae187a701ca8bef24b67c313aecdfb"), looks := true }, kinds := [], alts := [], laidByText := true, laidKinds := [.data, .data, .handle], laidTests := true, laidLooks := .later }
def DownSaysUptoCardSaid : Prop := Claim7.holds Tryd.pinned (.plain (OpenSpec.upto downSaysSpec)) downSaysUptoCard

/-- THE SECOND FORM's CARD OF 'whensteadlaw1.DownCloses'. -/
def downClosesUptoCard : Claim7 := { stood := { row := downClosesUptoRow, standIns := [], harness := (true, "89b7a8cdb36cd706915f580402bb863a52ae187a701ca8bef24b67c313aecdfb"), looks := true }, kinds := [], alts := [], laidByText := true, laidKinds := [.data, .data], laidTests := true, laidLooks := .later }
def DownClosesUptoCardSaid : Prop := Claim7.holds Tryd.pinned (.plain (OpenSpec.upto downClosesSpec)) downClosesUptoCard

/-- THE SECOND FORM's CARD OF 'whensteadlaw1.DownLattice'. -/
def downLatticeUptoCard : Claim7 := { stood := { row := downLatticeUptoRow, standIns := [], harness := (true, "89b7a8cdb36cd706915f580402bb863a52ae187a701ca8bef24b67c313aecdfb"), looks := true }, kinds := [], alts := [], laidByText := true, laidKinds := [.data, .data], laidTests := true, laidLooks := .later }
def DownLatticeUptoCardSaid : Prop := Claim7.holds Tryd.pinned (.plain (OpenSpec.upto downLatticeSpec)) downLatticeUptoCard

/-- THE SECOND FORM's CARD OF 'whensteadlaw1.DownLast'. -/
def downLastUptoCard : Claim7 := { stood := { row := downLastUptoRow, standIns := [], harness := (true, "89b7a8cdb36cd706915f580402bb863a52ae187a701ca8bef24b67c313aecdfb"), looks := true }, kinds := [], alts := [], laidByText := true, laidKinds := [.data, .data], laidTests := true, laidLooks := .later }
def DownLastUptoCardSaid : Prop := Claim7.holds Tryd.pinned (.plain (OpenSpec.upto downLastSpec)) downLastUptoCard

/-- THE SECOND FORM's CARD OF 'whensteadlaw1.DownCount'. -/
def downCountUptoCard : Claim7 := { stood := { row := downCountUptoRow, standIns := [], harness := (true, "89b7a8cdb36cd706915f580402bb863a52ae187a701ca8bef24b67c313aecdfb"), looks := true }, kinds := [], alts := [], laidByText := true, laidKinds := [.data, .data], laidTests := true, laidLooks := .later }
def DownCountUptoCardSaid : Prop := Claim7.holds Tryd.pinned (.plain (OpenSpec.upto downCountSpec)) downCountUptoCard
end Rows
end Go.Proofs.YtfeiglklahfniaaDoor
