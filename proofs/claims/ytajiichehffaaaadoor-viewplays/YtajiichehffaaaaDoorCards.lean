/-
  DERIVED. GIVEN WITH THE SEED: THE CARDS: each row of YtajiichehffaaaaDoorRows.lean that lists a variable, with what it lists TIED to the program's text (the seventh form; the later family's looks); each row that meets fmt, with fmt's text TOLD by the authors' own Lean function (tested against real Go, not proved from fmt's source: count such statements apart). THE CARD IS WHAT COUNTS. Prove the row's statement (the work); the ties are given (YtajiichehffaaaaDoorTie.lean); close each card by the builder's one call (the guide's Derived/Test/ToyasCard.lean, 'card_holds'). Laid BY PROGRAM, IN A SANDBOX (cutbox-door.mjs). By AI agents, Wed Nov 11 2026. No macro, syntax, notation, axiom, sorry.
-/
import Derived.Test.YtajiichehffaaaaDoorRows
import GoSem.ClaimSeven
namespace Go.Proofs.YtajiichehffaaaaDoor
namespace Rows

/-- THE TIED CARD OF 'whensteadlaw3.ViewDanger'. -/
def viewDangerCard : Claim7 := { stood := { row := viewDangerRow, standIns := [], harness := (true, "958768c6bc2282c670a901be987f4cd18e9fb544071008ce3ad66323184b72c9"), looks := true }, kinds := [], alts := [], laidByText := true, laidKinds := [.data, .data], laidTests := true, laidLooks := .later }
def ViewDangerCardSaid : Prop := Claim7.holds Tryd.pinned (.plain (OpenSpec.ofChange viewDangerSpec)) viewDangerCard

/-- THE TIED CARD OF 'whensteadlaw3.ViewRow'. -/
def viewRowCard : Claim7 := { stood := { row := viewRowRow, standIns := [], harness := (true, "958768c6bc2282c670a901be987f4cd18e9fb544071008ce3ad66323184b72c9"), looks := true }, kinds := [], alts := [], laidByText := true, laidKinds := [.data, .data], laidTests := true, laidLooks := .later }
def ViewRowCardSaid : Prop := Claim7.holds Tryd.pinned (.plain (OpenSpec.ofChange viewRowSpec)) viewRowCard

/-- THE TIED CARD OF 'whensteadlaw3.ViewFirst'. -/
def viewFirstCard : Claim7 := { stood := { row := viewFirstRow, standIns := [], harness := (true, "958768c6bc2282c670a901be987f4cd18e9fb544071008ce3ad66323184b72c9"), looks := true }, kinds := [], alts := [], laidByText := true, laidKinds := [.data, .data], laidTests := true, laidLooks := .later }
def ViewFirstCardSaid : Prop := Claim7.holds Tryd.pinned (.plain (OpenSpec.ofChange viewFirstSpec)) viewFirstCard

/-- THE TIED CARD OF 'whensteadlaw3.ViewPlays'. -/
def viewPlaysCard : Claim7 := { stood := { row := viewPlaysRow, standIns := [], harness := (true, "958768c6bc2282c670a901be987f4cd18e9fb544071008ce3ad66323184b72c9"), looks := true }, kinds := [], alts := [], laidByText := true, laidKinds := [.data, .data, .handle], laidTests := true, laidLooks := .later }
def ViewPlaysCardSaid : Prop := Claim7.holds Tryd.pinned (.plain (OpenSpec.ofChange viewPlaysSpec)) viewPlaysCard

/-- THE SECOND FORM's CARD OF 'whensteadlaw3.ViewDanger'. -/
def viewDangerUptoCard : Claim7 := { stood := { row := viewDangerUptoRow, standIns := [], harness := (true, "958768c6bc2282c670a901be987f4cd18e9fb544071008ce3ad66323184b72c9"), looks := true }, kinds := [], alts := [], laidByText := true, laidKinds := [.data, .data], laidTests := true, laidLooks := .later }
def ViewDangerUptoCardSaid : Prop := Claim7.holds Tryd.pinned (.plain (OpenSpec.upto viewDangerSpec)) viewDangerUptoCard

/-- THE SECOND FORM's CARD OF 'whensteadlaw3.ViewRow'. -/
def viewRowUptoCard : Claim7 := { stood := { row := viewRowUptoRow, standIns := [], harness := (true, "958768c6bc2282c670a901be987f4cd18e9fb544071008ce3ad66323184b72c9"), looks := true }, kinds := [], alts := [], laidByText := true, laidKinds := [.data, .data], laidTests := true, laidLooks := .later }
def ViewRowUptoCardSaid : Prop := Claim7.holds Tryd.pinned (.plain (OpenSpec.upto viewRowSpec)) viewRowUptoCard

/-- THE SECOND FORM's CARD OF 'whensteadlaw3.ViewFirst'. -/
def viewFirstUptoCard : Claim7 := { stood := { row := viewFirstUptoRow, standIns := [], harness := (true, "958768c6bc2282c670a901be987f4cd18e9fb544071008ce3ad66323184b72c9"), looks := true }, kinds := [], alts := [], laidByText := true, laidKinds := [.data, .data], laidTests := true, laidLooks := .later }
def ViewFirstUptoCardSaid : Prop := Claim7.holds Tryd.pinned (.plain (OpenSpec.upto viewFirstSpec)) viewFirstUptoCard

/-- THE SECOND FORM's CARD OF 'whensteadlaw3.ViewPlays'. -/
def viewPlaysUptoCard : Claim7 := { stood := { row := viewPlaysUptoRow, standIns := [], harness := (true, "958768c6bc2282c670a901be987f4cd18e9fb544071008ce3ad66323184b72c9"), looks := true }, kinds := [], alts := [], laidByText := true, laidKinds := [.data, .data, .handle], laidTests := true, laidLooks := .later }
def ViewPlaysUptoCardSaid : Prop := Claim7.holds Tryd.pinned (.plain (OpenSpec.upto viewPlaysSpec)) viewPlaysUptoCard
end Rows
end Go.Proofs.YtajiichehffaaaaDoor
