/-
  DERIVED. GIVEN WITH THE SEED: THE CARDS: each row of YtcjodlgkmbmcgaaDoorRows.lean that lists a variable, with what it lists TIED to the program's text (the seventh form; the later family's looks); each row that meets fmt, with fmt's text TOLD by the authors' own Lean function (tested against real Go, not proved from fmt's source: count such statements apart). THE CARD IS WHAT COUNTS. Prove the row's statement (the work); the ties are given (YtcjodlgkmbmcgaaDoorTie.lean); close each card by the builder's one call (the guide's Derived/Test/ToyasCard.lean, 'card_holds'). Laid BY PROGRAM, IN A SANDBOX (cutbox-door.mjs). By AI agents, Wed Nov 11 2026. No macro, syntax, notation, axiom, sorry.
-/
import Derived.Test.YtcjodlgkmbmcgaaDoorRows
import GoSem.ClaimSeven
namespace Go.Proofs.YtcjodlgkmbmcgaaDoor
namespace Rows

/-- THE TIED CARD OF 'whensteadlaw3.LockTwo'. -/
def lockTwoCard : Claim7 := { stood := { row := lockTwoRow, standIns := [], harness := (true, "e6cd43a2064698846f06de9b19c0c5b5c8fe20b17803307ef53043308494e095"), looks := true }, kinds := [], alts := [], laidByText := true, laidKinds := [.data, .data, .handle], laidTests := true, laidLooks := .later }
def LockTwoCardSaid : Prop := Claim7.holds Tryd.pinned (.plain (OpenSpec.ofChange lockTwoSpec)) lockTwoCard

/-- THE TIED CARD OF 'whensteadlaw3.LockApart'. -/
def lockApartCard : Claim7 := { stood := { row := lockApartRow, standIns := [], harness := (true, "e6cd43a2064698846f06de9b19c0c5b5c8fe20b17803307ef53043308494e095"), looks := true }, kinds := [], alts := [], laidByText := true, laidKinds := [.handle], laidTests := true, laidLooks := .later }
def LockApartCardSaid : Prop := Claim7.holds Tryd.pinned (.plain (OpenSpec.ofChange lockApartSpec)) lockApartCard

/-- THE TIED CARD OF 'whensteadlaw3.LockStuck'. -/
def lockStuckCard : Claim7 := { stood := { row := lockStuckRow, standIns := [], harness := (true, "e6cd43a2064698846f06de9b19c0c5b5c8fe20b17803307ef53043308494e095"), looks := true }, kinds := [], alts := [], laidByText := true, laidKinds := [.data, .data, .handle], laidTests := true, laidLooks := .later }
def LockStuckCardSaid : Prop := Claim7.holds Tryd.pinned (.plain (OpenSpec.ofChange lockStuckSpec)) lockStuckCard

/-- THE TIED CARD OF 'whensteadlaw3.LockPlays'. -/
def lockPlaysCard : Claim7 := { stood := { row := lockPlaysRow, standIns := [], harness := (true, "e6cd43a2064698846f06de9b19c0c5b5c8fe20b17803307ef53043308494e095"), looks := true }, kinds := [], alts := [], laidByText := true, laidKinds := [.data, .data, .handle], laidTests := true, laidLooks := .later }
def LockPlaysCardSaid : Prop := Claim7.holds Tryd.pinned (.plain (OpenSpec.ofChange lockPlaysSpec)) lockPlaysCard

/-- THE SECOND FORM's CARD OF 'whensteadlaw3.LockTwo'. -/
def lockTwoUptoCard : Claim7 := { stood := { row := lockTwoUptoRow, standIns := [], harness := (true, "e6cd43a2064698846f06de9b19c0c5b5c8fe20b17803307ef53043308494e095"), looks := true }, kinds := [], alts := [], laidByText := true, laidKinds := [.data, .data, .handle], laidTests := true, laidLooks := .later }
def LockTwoUptoCardSaid : Prop := Claim7.holds Tryd.pinned (.plain (OpenSpec.upto lockTwoSpec)) lockTwoUptoCard

/-- THE SECOND FORM's CARD OF 'whensteadlaw3.LockApart'. -/
def lockApartUptoCard : Claim7 := { stood := { row := lockApartUptoRow, standIns := [], harness := (true, "e6cd43a2064698846f06de9b19c0c5b5c8fe20b17803307ef53043308494e095"), looks := true }, kinds := [], alts := [], laidByText := true, laidKinds := [.handle], laidTests := true, laidLooks := .later }
def LockApartUptoCardSaid : Prop := Claim7.holds Tryd.pinned (.plain (OpenSpec.upto lockApartSpec)) lockApartUptoCard

/-- THE SECOND FORM's CARD OF 'whensteadlaw3.LockStuck'. -/
def lockStuckUptoCard : Claim7 := { stood := { row := lockStuckUptoRow, standIns := [], harness := (true, "e6cd43a2064698846f06de9b19c0c5b5c8fe20b17803307ef53043308494e095"), looks := true }, kinds := [], alts := [], laidByText := true, laidKinds := [.data, .data, .handle], laidTests := true, laidLooks := .later }
def LockStuckUptoCardSaid : Prop := Claim7.holds Tryd.pinned (.plain (OpenSpec.upto lockStuckSpec)) lockStuckUptoCard

/-- THE SECOND FORM's CARD OF 'whensteadlaw3.LockPlays'. -/
def lockPlaysUptoCard : Claim7 := { stood := { row := lockPlaysUptoRow, standIns := [], harness := (true, "e6cd43a2064698846f06de9b19c0c5b5c8fe20b17803307ef53043308494e095"), looks := true }, kinds := [], alts := [], laidByText := true, laidKinds := [.data, .data, .handle], laidTests := true, laidLooks := .later }
def LockPlaysUptoCardSaid : Prop := Claim7.holds Tryd.pinned (.plain (OpenSpec.upto lockPlaysSpec)) lockPlaysUptoCard
end Rows
end Go.Proofs.YtcjodlgkmbmcgaaDoor
