/-
  DERIVED. GIVEN WITH THE SEED: THE CARDS: each row of YtnofgmbpkgnciaaDoorRows.lean that lists a variable, with what it lists TIED to the program's text (the seventh form; the later family's looks); each row that meets fmt, with fmt's text TOLD by the authors' own Lean function (tested against real Go, not proved from fmt's source: count such statements apart). THE CARD IS WHAT COUNTS. Prove the row's statement (the work); the ties are given (YtnofgmbpkgnciaaDoorTie.lean); close each card by the builder's one call (the guide's Derived/Test/ToyasCard.lean, 'card_holds'). Laid BY PROGRAM, IN A SANDBOX (cutbox-door.mjs). By AI agents, Wed Nov 11 2026. No macro, syntax, notation, axiom, sorry.
-/
import Derived.Test.YtnofgmbpkgnciaaDoorRows
import GoSem.ClaimSeven
namespace Go.Proofs.YtnofgmbpkgnciaaDoor
namespace Rows

/-- THE TIED CARD OF 'whensteadlaw2.TraceSays'. -/
def traceSaysCard : Claim7 := { stood := { row := traceSaysRow, standIns := [], harness := (true, "e7dd5fe6e700c1ea56fd30f10378e54ee50507c97698986c4f9061507533e674"), looks := true }, kinds := [], alts := [], laidByText := true, laidKinds := [.handle], laidTests := true, laidLooks := .later }
def TraceSaysCardSaid : Prop := Claim7.holds Tryd.pinned (.plain (OpenSpec.ofChange traceSaysSpec)) traceSaysCard

/-- THE TIED CARD OF 'whensteadlaw2.StampSays'. -/
def stampSaysCard : Claim7 := { stood := { row := stampSaysRow, standIns := [], harness := (true, "e7dd5fe6e700c1ea56fd30f10378e54ee50507c97698986c4f9061507533e674"), looks := true }, kinds := [], alts := [], laidByText := true, laidKinds := [.handle], laidTests := true, laidLooks := .later }
def StampSaysCardSaid : Prop := Claim7.holds Tryd.pinned (.plain (OpenSpec.ofChange stampSaysSpec)) stampSaysCard

/-- THE SECOND FORM's CARD OF 'whensteadlaw2.TraceSays'. -/
def traceSaysUptoCard : Claim7 := { stood := { row := traceSaysUptoRow, standIns := [], harness := (true, "e7dd5fe6e700c1ea56fd30f10378e54ee50507c97698986c4f9061507533e674"), looks := true }, kinds := [], alts := [], laidByText := true, laidKinds := [.handle], laidTests := true, laidLooks := .later }
def TraceSaysUptoCardSaid : Prop := Claim7.holds Tryd.pinned (.plain (OpenSpec.upto traceSaysSpec)) traceSaysUptoCard

/-- THE SECOND FORM's CARD OF 'whensteadlaw2.StampSays'. -/
def stampSaysUptoCard : Claim7 := { stood := { row := stampSaysUptoRow, standIns := [], harness := (true, "e7dd5fe6e700c1ea56fd30f10378e54ee50507c97698986c4f9061507533e674"), looks := true }, kinds := [], alts := [], laidByText := true, laidKinds := [.handle], laidTests := true, laidLooks := .later }
def StampSaysUptoCardSaid : Prop := Claim7.holds Tryd.pinned (.plain (OpenSpec.upto stampSaysSpec)) stampSaysUptoCard
end Rows
end Go.Proofs.YtnofgmbpkgnciaaDoor
