/-
  DERIVED. GIVEN WITH THE SEED: THE CARDS: each row of YtlhpkpjcfjdgaaaDoorRows.lean that lists a variable, with what it lists TIED to the program's text (the seventh form; the later family's looks); each row that meets fmt, with fmt's text TOLD by the authors' own Lean function (tested against real Go, not proved from fmt's source: count such statements apart). THE CARD IS WHAT COUNTS. Prove the row's statement (the work); the ties are given (YtlhpkpjcfjdgaaaDoorTie.lean); close each card by the builder's one call (the guide's Derived/Test/ToyasCard.lean, 'card_holds'). Laid BY PROGRAM, IN A SANDBOX (cutbox-door.mjs). By AI agents, Wed Nov 11 2026. No macro, syntax, notation, axiom, sorry.
-/
import Derived.Test.YtlhpkpjcfjdgaaaDoorRows
import GoSem.ClaimSeven
namespace Go.Proofs.YtlhpkpjcfjdgaaaDoor
namespace Rows

/-- THE TIED CARD OF 'whensteadlaw2.CutSays'. -/
def cutSaysCard : Claim7 := { stood := { row := cutSaysRow, standIns := [], harness := (true, "1ccd05d16a9ff28cc2e3d0a8015dcf4248657c1f38216192d1d18cfa7bc5d9df"), looks := true }, kinds := [], alts := [], laidByText := true, laidKinds := [.data, .data, .handle], laidTests := true, laidLooks := .later }
def CutSaysCardSaid : Prop := Claim7.holds Tryd.pinned (.plain (OpenSpec.ofChange cutSaysSpec)) cutSaysCard

/-- THE TIED CARD OF 'whensteadlaw2.CutWhole'. -/
def cutWholeCard : Claim7 := { stood := { row := cutWholeRow, standIns := [], harness := (true, "1ccd05d16a9ff28cc2e3d0a8015dcf4248657c1f38216192d1d18cfa7bc5d9df"), looks := true }, kinds := [], alts := [], laidByText := true, laidKinds := [.data, .data], laidTests := true, laidLooks := .later }
def CutWholeCardSaid : Prop := Claim7.holds Tryd.pinned (.plain (OpenSpec.ofChange cutWholeSpec)) cutWholeCard

/-- THE TIED CARD OF 'whensteadlaw2.CutLattice'. -/
def cutLatticeCard : Claim7 := { stood := { row := cutLatticeRow, standIns := [], harness := (true, "1ccd05d16a9ff28cc2e3d0a8015dcf4248657c1f38216192d1d18cfa7bc5d9df"), looks := true }, kinds := [], alts := [], laidByText := true, laidKinds := [.data, .data], laidTests := true, laidLooks := .later }
def CutLatticeCardSaid : Prop := Claim7.holds Tryd.pinned (.plain (OpenSpec.ofChange cutLatticeSpec)) cutLatticeCard

/-- THE TIED CARD OF 'whensteadlaw2.CutLine'. -/
def cutLineCard : Claim7 := { stood := { row := cutLineRow, standIns := [], harness := (true, "1ccd05d16a9ff28cc2e3d0a8015dcf4248657c1f38216192d1d18cfa7bc5d9df"), looks := true }, kinds := [], alts := [], laidByText := true, laidKinds := [.data, .data], laidTests := true, laidLooks := .later }
def CutLineCardSaid : Prop := Claim7.holds Tryd.pinned (.plain (OpenSpec.ofChange cutLineSpec)) cutLineCard

/-- THE TIED CARD OF 'whensteadlaw2.CutCount'. -/
def cutCountCard : Claim7 := { stood := { row := cutCountRow, standIns := [], harness := (true, "1ccd05d16a9ff28cc2e3d0a8015dcf4248657c1f38216192d1d18cfa7bc5d9df"), looks := true }, kinds := [], alts := [], laidByText := true, laidKinds := [.data, .data], laidTests := true, laidLooks := .later }
def CutCountCardSaid : Prop := Claim7.holds Tryd.pinned (.plain (OpenSpec.ofChange cutCountSpec)) cutCountCard

/-- THE TIED CARD OF 'whensteadtop.TopOrder'. -/
def topOrderCard : Claim7 := { stood := { row := topOrderRow, standIns := [], harness := (true, "1ccd05d16a9ff28cc2e3d0a8015dcf4248657c1f38216192d1d18cfa7bc5d9df"), looks := true }, kinds := [], alts := [], laidByText := true, laidKinds := [.data, .data], laidTests := true, laidLooks := .later }
def TopOrderCardSaid : Prop := Claim7.holds Tryd.pinned (.plain (OpenSpec.ofChange topOrderSpec)) topOrderCard

/-- THE SECOND FORM's CARD OF 'whensteadlaw2.CutSays'. -/
def cutSaysUptoCard : Claim7 := { stood := { row := cutSaysUptoRow, standIns := [], harness := (true, "1ccd05d16a9ff28cc2e3d0a8015dcf4248657c1f38216192d1d18cfa7bc5d9df"), looks := true }, kinds := [], alts := [], laidByText := true, laidKinds := [.data, .data, .handle], laidTests := true, laidLooks := .later }
def CutSaysUptoCardSaid : Prop := Claim7.holds Tryd.pinned (.plain (OpenSpec.upto cutSaysSpec)) cutSaysUptoCard

/-- THE SECOND FORM's CARD OF 'whensteadlaw2.CutWhole'. -/
def cutWholeUptoCard : Claim7 := { stood := { row := cutWholeUptoRow, standIns := [], harness := (true, "1ccd05d16a9ff28cc2e3d0a8015dcf4248657c1f38216192d1d18cfa7bc5d9df"), looks := true }, kinds := [], alts := [], laidByText := true, laidKinds := [.data, .data], laidTests := true, laidLooks := .later }
def CutWholeUptoCardSaid : Prop := Claim7.holds Tryd.pinned (.plain (OpenSpec.upto cutWholeSpec)) cutWholeUptoCard

/-- THE SECOND FORM's CARD OF 'whensteadlaw2.CutLattice'. -/
def cutLatticeUptoCard : Claim7 := { stood := { row := cutLatticeUptoRow, standIns := [], harness := (true, "1ccd05d16a9ff28cc2e3d0a8015dcf4248657c1f38216192d1d18cfa7bc5d9df"), looks := true }, kinds := [], alts := [], laidByText := true, laidKinds := [.data, .data], laidTests := true, laidLooks := .later }
def CutLatticeUptoCardSaid : Prop := Claim7.holds Tryd.pinned (.plain (OpenSpec.upto cutLatticeSpec)) cutLatticeUptoCard

/-- THE SECOND FORM's CARD OF 'whensteadlaw2.CutLine'. -/
def cutLineUptoCard : Claim7 := { stood := { row := cutLineUptoRow, standIns := [], harness := (true, "1ccd05d16a9ff28cc2e3d0a8015dcf4248657c1f38216192d1d18cfa7bc5d9df"), looks := true }, kinds := [], alts := [], laidByText := true, laidKinds := [.data, .data], laidTests := true, laidLooks := .later }
def CutLineUptoCardSaid : Prop := Claim7.holds Tryd.pinned (.plain (OpenSpec.upto cutLineSpec)) cutLineUptoCard

/-- THE SECOND FORM's CARD OF 'whensteadlaw2.CutCount'. -/
def cutCountUptoCard : Claim7 := { stood := { row := cutCountUptoRow, standIns := [], harness := (true, "1ccd05d16a9ff28cc2e3d0a8015dcf4248657c1f38216192d1d18cfa7bc5d9df"), looks := true }, kinds := [], alts := [], laidByText := true, laidKinds := [.data, .data], laidTests := true, laidLooks := .later }
def CutCountUptoCardSaid : Prop := Claim7.holds Tryd.pinned (.plain (OpenSpec.upto cutCountSpec)) cutCountUptoCard

/-- THE SECOND FORM's CARD OF 'whensteadtop.TopOrder'. -/
def topOrderUptoCard : Claim7 := { stood := { row := topOrderUptoRow, standIns := [], harness := (true, "1ccd05d16a9ff28cc2e3d0a8015dcf4248657c1f38216192d1d18cfa7bc5d9df"), looks := true }, kinds := [], alts := [], laidByText := true, laidKinds := [.data, .data], laidTests := true, laidLooks := .later }
def TopOrderUptoCardSaid : Prop := Claim7.holds Tryd.pinned (.plain (OpenSpec.upto topOrderSpec)) topOrderUptoCard
end Rows
end Go.Proofs.YtlhpkpjcfjdgaaaDoor
