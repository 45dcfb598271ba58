/-
  DERIVED. GIVEN WITH THE SEED: THE CARDS: each row of YtlkdclifcmohlaaDoorRows.lean that lists a variable, with what it lists TIED to the program's text (the seventh form; the later family's looks); each row that meets fmt, with fmt's text TOLD by the authors' own Lean function (tested against real Go, not proved from fmt's source: count such statements apart). THE CARD IS WHAT COUNTS. Prove the row's statement (the work); the ties are given (YtlkdclifcmohlaaDoorTie.lean); close each card by the builder's one call (the guide's Derived/Test/ToyasCard.lean, 'card_holds'). Laid BY PROGRAM, IN A SANDBOX (cutbox-door.mjs). By AI agents, Wed Nov 11 2026. No macro, syntax, notation, axiom, sorry.
-/
import Derived.Test.YtlkdclifcmohlaaDoorRows
import GoSem.ClaimSeven
namespace Go.Proofs.YtlkdclifcmohlaaDoor
namespace Rows

/-- THE TIED CARD OF 'whensteadlaw3.PriorOrder'. -/
def priorOrderCard : Claim7 := { stood := { row := priorOrderRow, standIns := [], harness := (true, "10be1255090d789d3c8e6b44352cc7e2aac966288f0cab1e12dc5b68861527d3"), looks := true }, kinds := [], alts := [], laidByText := true, laidKinds := [.data, .data, .handle], laidTests := true, laidLooks := .later }
def PriorOrderCardSaid : Prop := Claim7.holds Tryd.pinned (.plain (OpenSpec.ofChange priorOrderSpec)) priorOrderCard

/-- THE TIED CARD OF 'whensteadlaw3.PriorSkips'. -/
def priorSkipsCard : Claim7 := { stood := { row := priorSkipsRow, standIns := [], harness := (true, "10be1255090d789d3c8e6b44352cc7e2aac966288f0cab1e12dc5b68861527d3"), looks := true }, kinds := [], alts := [], laidByText := true, laidKinds := [.handle], laidTests := true, laidLooks := .later }
def PriorSkipsCardSaid : Prop := Claim7.holds Tryd.pinned (.plain (OpenSpec.ofChange priorSkipsSpec)) priorSkipsCard

/-- THE TIED CARD OF 'whensteadlaw3.PriorPlays'. -/
def priorPlaysCard : Claim7 := { stood := { row := priorPlaysRow, standIns := [], harness := (true, "10be1255090d789d3c8e6b44352cc7e2aac966288f0cab1e12dc5b68861527d3"), looks := true }, kinds := [], alts := [], laidByText := true, laidKinds := [.handle], laidTests := true, laidLooks := .later }
def PriorPlaysCardSaid : Prop := Claim7.holds Tryd.pinned (.plain (OpenSpec.ofChange priorPlaysSpec)) priorPlaysCard

/-- THE TIED CARD OF 'whensteadtop.TopSerial'. -/
def topSerialCard : Claim7 := { stood := { row := topSerialRow, standIns := [], harness := (true, "10be1255090d789d3c8e6b44352cc7e2aac966288f0cab1e12dc5b68861527d3"), looks := true }, kinds := [], alts := [], laidByText := true, laidKinds := [.data, .data], laidTests := true, laidLooks := .later }
def TopSerialCardSaid : Prop := Claim7.holds Tryd.pinned (.plain (OpenSpec.ofChange topSerialSpec)) topSerialCard

/-- THE SECOND FORM's CARD OF 'whensteadlaw3.PriorOrder'. -/
def priorOrderUptoCard : Claim7 := { stood := { row := priorOrderUptoRow, standIns := [], harness := (true, "10be1255090d789d3c8e6b44352cc7e2aac966288f0cab1e12dc5b68861527d3"), looks := true }, kinds := [], alts := [], laidByText := true, laidKinds := [.data, .data, .handle], laidTests := true, laidLooks := .later }
def PriorOrderUptoCardSaid : Prop := Claim7.holds Tryd.pinned (.plain (OpenSpec.upto priorOrderSpec)) priorOrderUptoCard

/-- THE SECOND FORM's CARD OF 'whensteadlaw3.PriorSkips'. -/
def priorSkipsUptoCard : Claim7 := { stood := { row := priorSkipsUptoRow, standIns := [], harness := (true, "10be1255090d789d3c8e6b44352cc7e2aac966288f0cab1e12dc5b68861527d3"), looks := true }, kinds := [], alts := [], laidByText := true, laidKinds := [.handle], laidTests := true, laidLooks := .later }
def PriorSkipsUptoCardSaid : Prop := Claim7.holds Tryd.pinned (.plain (OpenSpec.upto priorSkipsSpec)) priorSkipsUptoCard

/-- THE SECOND FORM's CARD OF 'whensteadlaw3.PriorPlays'. -/
def priorPlaysUptoCard : Claim7 := { stood := { row := priorPlaysUptoRow, standIns := [], harness := (true, "10be1255090d789d3c8e6b44352cc7e2aac966288f0cab1e12dc5b68861527d3"), looks := true }, kinds := [], alts := [], laidByText := true, laidKinds := [.handle], laidTests := true, laidLooks := .later }
def PriorPlaysUptoCardSaid : Prop := Claim7.holds Tryd.pinned (.plain (OpenSpec.upto priorPlaysSpec)) priorPlaysUptoCard

/-- THE SECOND FORM's CARD OF 'whensteadtop.TopSerial'. -/
def topSerialUptoCard : Claim7 := { stood := { row := topSerialUptoRow, standIns := [], harness := (true, "10be1255090d789d3c8e6b44352cc7e2aac966288f0cab1e12dc5b68861527d3"), looks := true }, kinds := [], alts := [], laidByText := true, laidKinds := [.data, .data], laidTests := true, laidLooks := .later }
def TopSerialUptoCardSaid : Prop := Claim7.holds Tryd.pinned (.plain (OpenSpec.upto topSerialSpec)) topSerialUptoCard
end Rows
end Go.Proofs.YtlkdclifcmohlaaDoor
