/-
  DERIVED. GIVEN WITH THE SEED: THE CARDS: each row of YtejnjokjkinpkaaDoorRows.lean that lists a variable, with what it lists TIED to the program's text (the seventh form; the later family's looks); each row that meets fmt, with fmt's text TOLD by the authors' own Lean function (tested against real Go, not proved from fmt's source: count such statements apart). THE CARD IS WHAT COUNTS. Prove the row's statement (the work); the ties are given (YtejnjokjkinpkaaDoorTie.lean); close each card by the builder's one call (the guide's Derived/Test/ToyasCard.lean, 'card_holds'). Laid BY PROGRAM, IN A SANDBOX (cutbox-door.mjs). By AI agents, Wed Nov 11 2026. No macro, syntax, notation, axiom, sorry.
-/
import Derived.Test.YtejnjokjkinpkaaDoorRows
import GoSem.ClaimSeven
namespace Go.Proofs.YtejnjokjkinpkaaDoor
namespace Rows

/-- THE TIED CARD OF 'whensteadlaw1.DownSays'. -/
def downSaysCard : Claim7 := { stood := { row := downSaysRow, standIns := [], harness := (true, "b036f17ec3c5002432a5b0d8bd48ef02c2d5e4da8d5a6d19f62551e7e7983bad"), looks := true }, kinds := [], alts := [], laidByText := true, laidKinds := [.data, .data, .handle], laidTests := true, laidLooks := .later }
def DownSaysCardSaid : Prop := Claim7.holds Tryd.pinned (.plain (OpenSpec.ofChange downSaysSpec)) downSaysCard

/-- THE TIED CARD OF 'whensteadlaw1.DownCloses'. -/
def downClosesCard : Claim7 := { stood := { row := downClosesRow, standIns := [], harness := (true, "b036f17ec3c5002432a5b0d8bd48ef02c2d5e4da8d5a6d19f62551e7e7983bad"), looks := true }, kinds := [], alts := [], laidByText := true, laidKinds := [.data, .data], laidTests := true, laidLooks := .later }
def DownClosesCardSaid : Prop := Claim7.holds Tryd.pinned (.plain (OpenSpec.ofChange downClosesSpec)) downClosesCard

/-- THE TIED CARD OF 'whensteadlaw1.DownLattice'. -/
def downLatticeCard : Claim7 := { stood := { row := downLatticeRow, standIns := [], harness := (true, "b036f17ec3c5002432a5b0d8bd48ef02c2d5e4da8d5a6d19f62551e7e7983bad"), looks := true }, kinds := [], alts := [], laidByText := true, laidKinds := [.data, .data], laidTests := true, laidLooks := .later }
def DownLatticeCardSaid : Prop := Claim7.holds Tryd.pinned (.plain (OpenSpec.ofChange downLatticeSpec)) downLatticeCard

/-- THE TIED CARD OF 'whensteadlaw1.DownLast'. -/
def downLastCard : Claim7 := { stood := { row := downLastRow, standIns := [], harness := (true, "b036f17ec3c5002432a5b0d8bd48ef02c2d5e4da8d5a6d19f62551e7e7983bad"), looks := true }, kinds := [], alts := [], laidByText := true, laidKinds := [.data, .data], laidTests := true, laidLooks := .later }
def DownLastCardSaid : Prop := Claim7.holds Tryd.pinned (.plain (OpenSpec.ofChange downLastSpec)) downLastCard

/-- THE TIED CARD OF 'whensteadlaw1.DownCount'. -/
def downCountCard : Claim7 := { stood := { row := downCountRow, standIns := [], harness := (true, "b036f17ec3c5002432a5b0d8bd48ef02c2d5e4da8d5a6d19f62551e7e7983bad"), looks := true }, kinds := [], alts := [], laidByText := true, laidKinds := [.data, .data], laidTests := true, laidLooks := .later }
def DownCountCardSaid : Prop := Claim7.holds Tryd.pinned (.plain (OpenSpec.ofChange downCountSpec)) downCountCard

/-- THE TIED CARD OF 'whensteadtop.TopFold'. -/
def topFoldCard : Claim7 := { stood := { row := topFoldRow, standIns := [], harness := (true, "b036f17ec3c5002432a5b0d8bd48ef02c2d5e4da8d5a6d19f62551e7e7983bad"), looks := true }, kinds := [], alts := [], laidByText := true, laidKinds := [.data, .data], laidTests := true, laidLooks := .later }
def TopFoldCardSaid : Prop := Claim7.holds Tryd.pinned (.plain (OpenSpec.ofChange topFoldSpec)) topFoldCard

/-- THE SECOND FORM's CARD OF 'whensteadlaw1.DownSays'. -/
def downSaysUptoCard : Claim7 := { stood := { row := downSaysUptoRow, standIns := [], harness := (true, "b036f17ec3c5002432a5b0d8bd48ef02c2d5e4da8d5a6d19f62551e7e7983bad"), looks := true }, kinds := [], alts := [], laidByText := true, laidKinds := [.data, .data, .handle], laidTests := true, laidLooks := .later }
def DownSaysUptoCardSaid : Prop := Claim7.holds Tryd.pinned (.plain (OpenSpec.upto downSaysSpec)) downSaysUptoCard

/-- THE SECOND FORM's CARD OF 'whensteadlaw1.DownCloses'. -/
def downClosesUptoCard : Claim7 := { stood := { row := downClosesUptoRow, standIns := [], harness := (true, "b036f17ec3c5002432a5b0d8bd48ef02c2d5e4da8d5a6d19f62551e7e7983bad"), looks := true }, kinds := [], alts := [], laidByText := true, laidKinds := [.data, .data], laidTests := true, laidLooks := .later }
def DownClosesUptoCardSaid : Prop := Claim7.holds Tryd.pinned (.plain (OpenSpec.upto downClosesSpec)) downClosesUptoCard

/-- THE SECOND FORM's CARD OF 'whensteadlaw1.DownLattice'. -/
def downLatticeUptoCard : Claim7 := { stood := { row := downLatticeUptoRow, standIns := [], harness := (true, "b036f17ec3c5002432a5b0d8bd48ef02c2d5e4da8d5a6d19f62551e7e7983bad"), looks := true }, kinds := [], alts := [], laidByText := true, laidKinds := [.data, .data], laidTests := true, laidLooks := .later }
def DownLatticeUptoCardSaid : Prop := Claim7.holds Tryd.pinned (.plain (OpenSpec.upto downLatticeSpec)) downLatticeUptoCard

/-- THE SECOND FORM's CARD OF 'whensteadlaw1.DownLast'. -/
def downLastUptoCard : Claim7 := { stood := { row := downLastUptoRow, standIns := [], harness := (true, "b036f17ec3c5002432a5b0d8bd48ef02c2d5e4da8d5a6d19f62551e7e7983bad"), looks := true }, kinds := [], alts := [], laidByText := true, laidKinds := [.data, .data], laidTests := true, laidLooks := .later }
def DownLastUptoCardSaid : Prop := Claim7.holds Tryd.pinned (.plain (OpenSpec.upto downLastSpec)) downLastUptoCard

/-- THE SECOND FORM's CARD OF 'whensteadlaw1.DownCount'. -/
def downCountUptoCard : Claim7 := { stood := { row := downCountUptoRow, standIns := [], harness := (true, "b036f17ec3c5002432a5b0d8bd48ef02c2d5e4da8d5a6d19f62551e7e7983bad"), looks := true }, kinds := [], alts := [], laidByText := true, laidKinds := [.data, .data], laidTests := true, laidLooks := .later }
def DownCountUptoCardSaid : Prop := Claim7.holds Tryd.pinned (.plain (OpenSpec.upto downCountSpec)) downCountUptoCard

/-- THE SECOND FORM's CARD OF 'whensteadtop.TopFold'. -/
def topFoldUptoCard : Claim7 := { stood := { row := topFoldUptoRow, standIns := [], harness := (true, "b036f17ec3c5002432a5b0d8bd48ef02c2d5e4da8d5a6d19f62551e7e7983bad"), looks := true }, kinds := [], alts := [], laidByText := true, laidKinds := [.data, .data], laidTests := true, laidLooks := .later }
def TopFoldUptoCardSaid : Prop := Claim7.holds Tryd.pinned (.plain (OpenSpec.upto topFoldSpec)) topFoldUptoCard
end Rows
end Go.Proofs.YtejnjokjkinpkaaDoor
