/-
  DERIVED. GIVEN WITH THE SEED: THE CARDS: each row of YtfjmealeglbklaaDoorRows.lean that lists a variable, with what it lists TIED to the program's text (the seventh form; the later family's looks); each row that meets fmt, with fmt's text TOLD by the authors' own Lean function (tested against real Go, not proved from fmt's source: count such statements apart). THE CARD IS WHAT COUNTS. Prove the row's statement (the work); the ties are given (YtfjmealeglbklaaDoorTie.lean); close each card by the builder's one call (the guide's Derived/Test/ToyasCard.lean, 'card_holds'). Laid BY PROGRAM, IN A SANDBOX (cutbox-door.mjs). By AI agents, Wed Nov 11 2026. No macro, syntax, notation, axiom, sorry.
-/
import Derived.Test.YtfjmealeglbklaaDoorRows
import GoSem.ClaimSeven
namespace Go.Proofs.YtfjmealeglbklaaDoor
namespace Rows

/-- THE TIED CARD OF 'whensteadlaw4.QuorumSays'. -/
def quorumSaysCard : Claim7 := { stood := { row := quorumSaysRow, standIns := [], harness := (true, "27f862139eee977556259d319c162ddf83702dd3a9bf113ef406a7c6c948b3bb"), looks := true }, kinds := [], alts := [], laidByText := true, laidKinds := [.data, .data, .handle], laidTests := true, laidLooks := .later }
def QuorumSaysCardSaid : Prop := Claim7.holds Tryd.pinned (.plain (OpenSpec.ofChange quorumSaysSpec)) quorumSaysCard

/-- THE TIED CARD OF 'whensteadlaw4.QuorumVotes'. -/
def quorumVotesCard : Claim7 := { stood := { row := quorumVotesRow, standIns := [], harness := (true, "27f862139eee977556259d319c162ddf83702dd3a9bf113ef406a7c6c948b3bb"), looks := true }, kinds := [], alts := [], laidByText := true, laidKinds := [.data, .data], laidTests := true, laidLooks := .later }
def QuorumVotesCardSaid : Prop := Claim7.holds Tryd.pinned (.plain (OpenSpec.ofChange quorumVotesSpec)) quorumVotesCard

/-- THE TIED CARD OF 'whensteadlaw4.QuorumFull'. -/
def quorumFullCard : Claim7 := { stood := { row := quorumFullRow, standIns := [], harness := (true, "27f862139eee977556259d319c162ddf83702dd3a9bf113ef406a7c6c948b3bb"), looks := true }, kinds := [], alts := [], laidByText := true, laidKinds := [.data, .data], laidTests := true, laidLooks := .later }
def QuorumFullCardSaid : Prop := Claim7.holds Tryd.pinned (.plain (OpenSpec.ofChange quorumFullSpec)) quorumFullCard

/-- THE TIED CARD OF 'whensteadlaw4.QuorumLeast'. -/
def quorumLeastCard : Claim7 := { stood := { row := quorumLeastRow, standIns := [], harness := (true, "27f862139eee977556259d319c162ddf83702dd3a9bf113ef406a7c6c948b3bb"), looks := true }, kinds := [], alts := [], laidByText := true, laidKinds := [.data, .data], laidTests := true, laidLooks := .later }
def QuorumLeastCardSaid : Prop := Claim7.holds Tryd.pinned (.plain (OpenSpec.ofChange quorumLeastSpec)) quorumLeastCard

/-- THE TIED CARD OF 'whensteadlaw4.QuorumMasks'. -/
def quorumMasksCard : Claim7 := { stood := { row := quorumMasksRow, standIns := [], harness := (true, "27f862139eee977556259d319c162ddf83702dd3a9bf113ef406a7c6c948b3bb"), looks := true }, kinds := [], alts := [], laidByText := true, laidKinds := [.data, .data], laidTests := true, laidLooks := .later }
def QuorumMasksCardSaid : Prop := Claim7.holds Tryd.pinned (.plain (OpenSpec.ofChange quorumMasksSpec)) quorumMasksCard

/-- THE SECOND FORM's CARD OF 'whensteadlaw4.QuorumSays'. -/
def quorumSaysUptoCard : Claim7 := { stood := { row := quorumSaysUptoRow, standIns := [], harness := (true, "27f862139eee977556259d319c162ddf83702dd3a9bf113ef406a7c6c948b3bb"), looks := true }, kinds := [], alts := [], laidByText := true, laidKinds := [.data, .data, .handle], laidTests := true, laidLooks := .later }
def QuorumSaysUptoCardSaid : Prop := Claim7.holds Tryd.pinned (.plain (OpenSpec.upto quorumSaysSpec)) quorumSaysUptoCard

/-- THE SECOND FORM's CARD OF 'whensteadlaw4.QuorumVotes'. -/
def quorumVotesUptoCard : Claim7 := { stood := { row := quorumVotesUptoRow, standIns := [], harness := (true, "27f862139eee977556259d319c162ddf83702dd3a9bf113ef406a7c6c948b3bb"), looks := true }, kinds := [], alts := [], laidByText := true, laidKinds := [.data, .data], laidTests := true, laidLooks := .later }
def QuorumVotesUptoCardSaid : Prop := Claim7.holds Tryd.pinned (.plain (OpenSpec.upto quorumVotesSpec)) quorumVotesUptoCard

/-- THE SECOND FORM's CARD OF 'whensteadlaw4.QuorumFull'. -/
def quorumFullUptoCard : Claim7 := { stood := { row := quorumFullUptoRow, standIns := [], harness := (true, "27f862139eee977556259d319c162ddf83702dd3a9bf113ef406a7c6c948b3bb"), looks := true }, kinds := [], alts := [], laidByText := true, laidKinds := [.data, .data], laidTests := true, laidLooks := .later }
def QuorumFullUptoCardSaid : Prop := Claim7.holds Tryd.pinned (.plain (OpenSpec.upto quorumFullSpec)) quorumFullUptoCard

/-- THE SECOND FORM's CARD OF 'whensteadlaw4.QuorumLeast'. -/
def quorumLeastUptoCard : Claim7 := { stood := { row := quorumLeastUptoRow, standIns := [], harness := (true, "27f862139eee977556259d319c162ddf83702dd3a9bf113ef406a7c6c948b3bb"), looks := true }, kinds := [], alts := [], laidByText := true, laidKinds := [.data, .data], laidTests := true, laidLooks := .later }
def QuorumLeastUptoCardSaid : Prop := Claim7.holds Tryd.pinned (.plain (OpenSpec.upto quorumLeastSpec)) quorumLeastUptoCard

/-- THE SECOND FORM's CARD OF 'whensteadlaw4.QuorumMasks'. -/
def quorumMasksUptoCard : Claim7 := { stood := { row := quorumMasksUptoRow, standIns := [], harness := (true, "27f862139eee977556259d319c162ddf83702dd3a9bf113ef406a7c6c948b3bb"), looks := true }, kinds := [], alts := [], laidByText := true, laidKinds := [.data, .data], laidTests := true, laidLooks := .later }
def QuorumMasksUptoCardSaid : Prop := Claim7.holds Tryd.pinned (.plain (OpenSpec.upto quorumMasksSpec)) quorumMasksUptoCard
end Rows
end Go.Proofs.YtfjmealeglbklaaDoor
