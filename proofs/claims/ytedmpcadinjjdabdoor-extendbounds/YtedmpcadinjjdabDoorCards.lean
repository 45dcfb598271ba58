/-
  DERIVED. GIVEN WITH THE SEED: THE CARDS: each row of YtedmpcadinjjdabDoorRows.lean that lists a variable, with what it lists TIED to the program's text (the seventh form; the later family's looks); each row that meets fmt, with fmt's text TOLD by the authors' own Lean function (tested against real Go, not proved from fmt's source: count such statements apart). THE CARD IS WHAT COUNTS. Prove the row's statement (the work); the ties are given (YtedmpcadinjjdabDoorTie.lean); close each card by the builder's one call (the guide's Derived/Test/ToyasCard.lean, 'card_holds'). Laid BY PROGRAM, IN A SANDBOX (cutbox-door.mjs). By AI agents, Wed Nov 11 2026. No macro, syntax, notation, axiom, sorry.
-/
import Derived.Test.YtedmpcadinjjdabDoorRows
import GoSem.ClaimSeven
namespace Go.Proofs.YtedmpcadinjjdabDoor
namespace Rows

/-- THE TIED CARD OF 'whensteadlaw1.ChainMore'. -/
def chainMoreCard : Claim7 := { stood := { row := chainMoreRow, standIns := [], harness := (true, "b06c3bf40752eff7a17510483229a663cd66e615db50df979d91e664e2a95c52"), looks := true }, kinds := [], alts := [], laidByText := true, laidKinds := [.data, .data], laidTests := true, laidLooks := .later }
def ChainMoreCardSaid : Prop := Claim7.holds Tryd.pinned (.plain (OpenSpec.ofChange chainMoreSpec)) chainMoreCard

/-- THE TIED CARD OF 'whensteadlaw1.ExtendSays'. -/
def extendSaysCard : Claim7 := { stood := { row := extendSaysRow, standIns := [], harness := (true, "b06c3bf40752eff7a17510483229a663cd66e615db50df979d91e664e2a95c52"), looks := true }, kinds := [], alts := [], laidByText := true, laidKinds := [.data, .data, .handle], laidTests := true, laidLooks := .later }
def ExtendSaysCardSaid : Prop := Claim7.holds Tryd.pinned (.plain (OpenSpec.ofChange extendSaysSpec)) extendSaysCard

/-- THE TIED CARD OF 'whensteadlaw1.ExtendKeeps'. -/
def extendKeepsCard : Claim7 := { stood := { row := extendKeepsRow, standIns := [], harness := (true, "b06c3bf40752eff7a17510483229a663cd66e615db50df979d91e664e2a95c52"), looks := true }, kinds := [], alts := [], laidByText := true, laidKinds := [.data, .data], laidTests := true, laidLooks := .later }
def ExtendKeepsCardSaid : Prop := Claim7.holds Tryd.pinned (.plain (OpenSpec.ofChange extendKeepsSpec)) extendKeepsCard

/-- THE TIED CARD OF 'whensteadlaw1.ExtendParts'. -/
def extendPartsCard : Claim7 := { stood := { row := extendPartsRow, standIns := [], harness := (true, "b06c3bf40752eff7a17510483229a663cd66e615db50df979d91e664e2a95c52"), looks := true }, kinds := [], alts := [], laidByText := true, laidKinds := [.data, .data], laidTests := true, laidLooks := .later }
def ExtendPartsCardSaid : Prop := Claim7.holds Tryd.pinned (.plain (OpenSpec.ofChange extendPartsSpec)) extendPartsCard

/-- THE TIED CARD OF 'whensteadlaw1.ExtendBounds'. -/
def extendBoundsCard : Claim7 := { stood := { row := extendBoundsRow, standIns := [], harness := (true, "b06c3bf40752eff7a17510483229a663cd66e615db50df979d91e664e2a95c52"), looks := true }, kinds := [], alts := [], laidByText := true, laidKinds := [.data, .data], laidTests := true, laidLooks := .later }
def ExtendBoundsCardSaid : Prop := Claim7.holds Tryd.pinned (.plain (OpenSpec.ofChange extendBoundsSpec)) extendBoundsCard

/-- THE SECOND FORM's CARD OF 'whensteadlaw1.ChainMore'. -/
def chainMoreUptoCard : Claim7 := { stood := { row := chainMoreUptoRow, standIns := [], harness := (true, "b06c3bf40752eff7a17510483229a663cd66e615db50df979d91e664e2a95c52"), looks := true }, kinds := [], alts := [], laidByText := true, laidKinds := [.data, .data], laidTests := true, laidLooks := .later }
def ChainMoreUptoCardSaid : Prop := Claim7.holds Tryd.pinned (.plain (OpenSpec.upto chainMoreSpec)) chainMoreUptoCard

/-- THE SECOND FORM's CARD OF 'whensteadlaw1.ExtendSays'. -/
def extendSaysUptoCard : Claim7 := { stood := { row := extendSaysUptoRow, standIns := [], harness := (true, "b06c3bf40752eff7a17510483229a663cd66e615db50df979d91e664e2a95c52"), looks := true }, kinds := [], alts := [], laidByText := true, laidKinds := [.data, .data, .handle], laidTests := true, laidLooks := .later }
def ExtendSaysUptoCardSaid : Prop := Claim7.holds Tryd.pinned (.plain (OpenSpec.upto extendSaysSpec)) extendSaysUptoCard

/-- THE SECOND FORM's CARD OF 'whensteadlaw1.ExtendKeeps'. -/
def extendKeepsUptoCard : Claim7 := { stood := { row := extendKeepsUptoRow, standIns := [], harness := (true, "b06c3bf40752eff7a17510483229a663cd66e615db50df979d91e664e2a95c52"), looks := true }, kinds := [], alts := [], laidByText := true, laidKinds := [.data, .data], laidTests := true, laidLooks := .later }
def ExtendKeepsUptoCardSaid : Prop := Claim7.holds Tryd.pinned (.plain (OpenSpec.upto extendKeepsSpec)) extendKeepsUptoCard

/-- THE SECOND FORM's CARD OF 'whensteadlaw1.ExtendParts'. -/
def extendPartsUptoCard : Claim7 := { stood := { row := extendPartsUptoRow, standIns := [], harness := (true, "b06c3bf40752eff7a17510483229a663cd66e615db50df979d91e664e2a95c52"), looks := true }, kinds := [], alts := [], laidByText := true, laidKinds := [.data, .data], laidTests := true, laidLooks := .later }
def ExtendPartsUptoCardSaid : Prop := Claim7.holds Tryd.pinned (.plain (OpenSpec.upto extendPartsSpec)) extendPartsUptoCard

/-- THE SECOND FORM's CARD OF 'whensteadlaw1.ExtendBounds'. -/
def extendBoundsUptoCard : Claim7 := { stood := { row := extendBoundsUptoRow, standIns := [], harness := (true, "b06c3bf40752eff7a17510483229a663cd66e615db50df979d91e664e2a95c52"), looks := true }, kinds := [], alts := [], laidByText := true, laidKinds := [.data, .data], laidTests := true, laidLooks := .later }
def ExtendBoundsUptoCardSaid : Prop := Claim7.holds Tryd.pinned (.plain (OpenSpec.upto extendBoundsSpec)) extendBoundsUptoCard
end Rows
end Go.Proofs.YtedmpcadinjjdabDoor
