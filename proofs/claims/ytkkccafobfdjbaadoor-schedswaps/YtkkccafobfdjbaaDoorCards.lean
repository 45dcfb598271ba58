/-
  DERIVED. GIVEN WITH THE SEED: THE CARDS: each row of YtkkccafobfdjbaaDoorRows.lean that lists a variable, with what it lists TIED to the program's text (the seventh form; the later family's looks); each row that meets fmt, with fmt's text TOLD by the authors' own Lean function (tested against real Go, not proved from fmt's source: count such statements apart). THE CARD IS WHAT COUNTS. Prove the row's statement (the work); the ties are given (YtkkccafobfdjbaaDoorTie.lean); close each card by the builder's one call (the guide's Derived/Test/ToyasCard.lean, 'card_holds'). Laid BY PROGRAM, IN A SANDBOX (cutbox-door.mjs). By AI agents, Wed Nov 11 2026. No macro, syntax, notation, axiom, sorry.
-/
import Derived.Test.YtkkccafobfdjbaaDoorRows
import GoSem.ClaimSeven
namespace Go.Proofs.YtkkccafobfdjbaaDoor
namespace Rows

/-- THE TIED CARD OF 'whensteadlaw3.SchedSays'. -/
def schedSaysCard : Claim7 := { stood := { row := schedSaysRow, standIns := [], harness := (true, "bbe9acd8217b49c3fb8e2f001ba65748eca3aa18d22fe0b64c74d76da1978120"), looks := true }, kinds := [], alts := [], laidByText := true, laidKinds := [.data, .data, .handle], laidTests := true, laidLooks := .later }
def SchedSaysCardSaid : Prop := Claim7.holds Tryd.pinned (.plain (OpenSpec.ofChange schedSaysSpec)) schedSaysCard

/-- THE TIED CARD OF 'whensteadlaw3.SchedSame'. -/
def schedSameCard : Claim7 := { stood := { row := schedSameRow, standIns := [], harness := (true, "bbe9acd8217b49c3fb8e2f001ba65748eca3aa18d22fe0b64c74d76da1978120"), looks := true }, kinds := [], alts := [], laidByText := true, laidKinds := [.data, .data], laidTests := true, laidLooks := .later }
def SchedSameCardSaid : Prop := Claim7.holds Tryd.pinned (.plain (OpenSpec.ofChange schedSameSpec)) schedSameCard

/-- THE TIED CARD OF 'whensteadlaw3.SchedRing'. -/
def schedRingCard : Claim7 := { stood := { row := schedRingRow, standIns := [], harness := (true, "bbe9acd8217b49c3fb8e2f001ba65748eca3aa18d22fe0b64c74d76da1978120"), looks := true }, kinds := [], alts := [], laidByText := true, laidKinds := [.data, .data], laidTests := true, laidLooks := .later }
def SchedRingCardSaid : Prop := Claim7.holds Tryd.pinned (.plain (OpenSpec.ofChange schedRingSpec)) schedRingCard

/-- THE TIED CARD OF 'whensteadlaw3.SchedSwaps'. -/
def schedSwapsCard : Claim7 := { stood := { row := schedSwapsRow, standIns := [], harness := (true, "bbe9acd8217b49c3fb8e2f001ba65748eca3aa18d22fe0b64c74d76da1978120"), looks := true }, kinds := [], alts := [], laidByText := true, laidKinds := [.data, .data], laidTests := true, laidLooks := .later }
def SchedSwapsCardSaid : Prop := Claim7.holds Tryd.pinned (.plain (OpenSpec.ofChange schedSwapsSpec)) schedSwapsCard

/-- THE SECOND FORM's CARD OF 'whensteadlaw3.SchedSays'. -/
def schedSaysUptoCard : Claim7 := { stood := { row := schedSaysUptoRow, standIns := [], harness := (true, "bbe9acd8217b49c3fb8e2f001ba65748eca3aa18d22fe0b64c74d76da1978120"), looks := true }, kinds := [], alts := [], laidByText := true, laidKinds := [.data, .data, .handle], laidTests := true, laidLooks := .later }
def SchedSaysUptoCardSaid : Prop := Claim7.holds Tryd.pinned (.plain (OpenSpec.upto schedSaysSpec)) schedSaysUptoCard

/-- THE SECOND FORM's CARD OF 'whensteadlaw3.SchedSame'. -/
def schedSameUptoCard : Claim7 := { stood := { row := schedSameUptoRow, standIns := [], harness := (true, "bbe9acd8217b49c3fb8e2f001ba65748eca3aa18d22fe0b64c74d76da1978120"), looks := true }, kinds := [], alts := [], laidByText := true, laidKinds := [.data, .data], laidTests := true, laidLooks := .later }
def SchedSameUptoCardSaid : Prop := Claim7.holds Tryd.pinned (.plain (OpenSpec.upto schedSameSpec)) schedSameUptoCard

/-- THE SECOND FORM's CARD OF 'whensteadlaw3.SchedRing'. -/
def schedRingUptoCard : Claim7 := { stood := { row := schedRingUptoRow, standIns := [], harness := (true, "bbe9acd8217b49c3fb8e2f001ba65748eca3aa18d22fe0b64c74d76da1978120"), looks := true }, kinds := [], alts := [], laidByText := true, laidKinds := [.data, .data], laidTests := true, laidLooks := .later }
def SchedRingUptoCardSaid : Prop := Claim7.holds Tryd.pinned (.plain (OpenSpec.upto schedRingSpec)) schedRingUptoCard

/-- THE SECOND FORM's CARD OF 'whensteadlaw3.SchedSwaps'. -/
def schedSwapsUptoCard : Claim7 := { stood := { row := schedSwapsUptoRow, standIns := [], harness := (true, "bbe9acd8217b49c3fb8e2f001ba65748eca3aa18d22fe0b64c74d76da1978120"), looks := true }, kinds := [], alts := [], laidByText := true, laidKinds := [.data, .data], laidTests := true, laidLooks := .later }
def SchedSwapsUptoCardSaid : Prop := Claim7.holds Tryd.pinned (.plain (OpenSpec.upto schedSwapsSpec)) schedSwapsUptoCard
end Rows
end Go.Proofs.YtkkccafobfdjbaaDoor
