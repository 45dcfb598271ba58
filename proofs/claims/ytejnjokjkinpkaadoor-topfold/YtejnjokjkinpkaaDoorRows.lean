/-
  NARROWER THAN 'FOR EVERY INPUT', by the rows' own cells (each row's printed sentence says how): DownSays: laid · DownCloses: laid · DownLattice: laid · DownLast: laid · DownCount: laid · TopFold: laid.
  DERIVED. THE GIVEN ROWS OF THIS SEAT. 6 by the template 'for every input the law returns true; each argument reads behind the call as it read before'; 0 by the template 'total and deterministic' (their statements: YtejnjokjkinpkaaDoorTotals.lean).
  GIVEN WITH THE SEED: the statements are not yours to turn. If you find one false, say at which input.
  Laid BY PROGRAM, IN A SANDBOX (cutbox-rows.mjs): the forced cells as the released guide's own fill.sh prints them over the translation fd7fdcabeec1d118… (all of the seat's roots in one cut). By AI agents, Wed Nov 11 2026. No macro, syntax, notation, axiom, sorry.
-/
import Derived.Test.YtejnjokjkinpkaaDoorChecked
import GoSem.Claim
import GoSem.ClaimJoined
import GoSem.ClaimMapViews
import Derived.JoinedTies
import Derived.KernelRfl
namespace Go.Proofs.YtejnjokjkinpkaaDoor
/- THE CELL 'sum', in the pinned program and in every row, IS THE sha256 OF THE DUMP (.gsa) THAT YtejnjokjkinpkaaDoorProg.lean LOADS. Nothing in Lean hashes anything: it is a label: what it is worth is what the hold of that sum in a sandbox is worth. -/
noncomputable def Tryd.pinned : Pinned := { name := "ytejnjokjkinpkaadoor", sum := "fd7fdcabeec1d11899c6bccdef38d8b466be95a31ae39cf31f319f8e5ba75e9a", checked := Tryd.checked }
namespace Rows
def none {H : Type} : Left H := { results := [], args := [] }

/- WHAT THE LISTED PACKAGE-LEVEL VARIABLES READ AS WHEN THE CALL BEGINS. Each datum BY PROGRAM (the guide's laid-datum.mjs) off the statement by which the dump's own 'gosem.cut.vars' lays the variable. In a bare row this is a premise. The card (YtejnjokjkinpkaaDoorCards.lean) ties it to the program's text. -/
def laid_math_bits_deBruijn32tab {H : Type} : DataW H := .agg [.lit (.int .u8 0), .lit (.int .u8 1), .lit (.int .u8 28), .lit (.int .u8 2), .lit (.int .u8 29), .lit (.int .u8 14), .lit (.int .u8 24), .lit (.int .u8 3), .lit (.int .u8 30), .lit (.int .u8 22), .lit (.int .u8 20), .lit (.int .u8 15), .lit (.int .u8 25), .lit (.int .u8 17), .lit (.int .u8 4), .lit (.int .u8 8), .lit (.int .u8 31), .lit (.int .u8 27), .lit (.int .u8 13), .lit (.int .u8 23), .lit (.int .u8 21), .lit (.int .u8 19), .lit (.int .u8 16), .lit (.int .u8 7), .lit (.int .u8 26), .lit (.int .u8 12), .lit (.int .u8 18), .lit (.int .u8 6), .lit (.int .u8 11), .lit (.int .u8 5), .lit (.int .u8 10), .lit (.int .u8 9)]
def laid_math_bits_deBruijn64tab {H : Type} : DataW H := .agg [.lit (.int .u8 0), .lit (.int .u8 1), .lit (.int .u8 56), .lit (.int .u8 2), .lit (.int .u8 57), .lit (.int .u8 49), .lit (.int .u8 28), .lit (.int .u8 3), .lit (.int .u8 61), .lit (.int .u8 58), .lit (.int .u8 42), .lit (.int .u8 50), .lit (.int .u8 38), .lit (.int .u8 29), .lit (.int .u8 17), .lit (.int .u8 4), .lit (.int .u8 62), .lit (.int .u8 47), .lit (.int .u8 59), .lit (.int .u8 36), .lit (.int .u8 45), .lit (.int .u8 43), .lit (.int .u8 51), .lit (.int .u8 22), .lit (.int .u8 53), .lit (.int .u8 39), .lit (.int .u8 33), .lit (.int .u8 30), .lit (.int .u8 24), .lit (.int .u8 18), .lit (.int .u8 12), .lit (.int .u8 5), .lit (.int .u8 63), .lit (.int .u8 55), .lit (.int .u8 48), .lit (.int .u8 27), .lit (.int .u8 60), .lit (.int .u8 41), .lit (.int .u8 37), .lit (.int .u8 16), .lit (.int .u8 46), .lit (.int .u8 35), .lit (.int .u8 44), .lit (.int .u8 21), .lit (.int .u8 52), .lit (.int .u8 32), .lit (.int .u8 23), .lit (.int .u8 11), .lit (.int .u8 54), .lit (.int .u8 26), .lit (.int .u8 40), .lit (.int .u8 15), .lit (.int .u8 34), .lit (.int .u8 20), .lit (.int .u8 31), .lit (.int .u8 10), .lit (.int .u8 25), .lit (.int .u8 14), .lit (.int .u8 19), .lit (.int .u8 9), .lit (.int .u8 13), .lit (.int .u8 8), .lit (.int .u8 7), .lit (.int .u8 6)]
def laid_errors_errorType {H : Type} : DataW H := .iface "internal/reflectlite.rtype" (.agg [.ptr (.lit (.string [101, 114, 114, 111, 114]))])

/-- 'whensteadlaw1.DownSays': WHATEVER THE INPUT: true; the input reads as it did. -/
def downSaysSpec : ChangeSpec := { name := "downSays", fn := fun _ => fun
  | [d1, d2] => { results := [.lit (.bool true)], args := [d1, d2] }
  | _ => none }
def downSaysRow : OpenClaim := { program := "ytejnjokjkinpkaadoor", sum := "fd7fdcabeec1d11899c6bccdef38d8b466be95a31ae39cf31f319f8e5ba75e9a", func := "whenstead/whensteadlaw1.DownSays", spec := "downSays", inPlace := ["internal/reflectlite.ValueOf", "(internal/reflectlite.Value).Type", "(internal/reflectlite.Value).IsNil", "internal/reflectlite.TypeOf", "(internal/reflectlite.Value).Elem", "(internal/reflectlite.Value).Set"], unfollowed := true, recurses := true, named := ["math/bits.deBruijn32tab", "math/bits.deBruijn64tab", "errors.errorType"], apart := false, laid := [("math/bits.deBruijn32tab", laid_math_bits_deBruijn32tab), ("math/bits.deBruijn64tab", laid_math_bits_deBruijn64tab), ("errors.errorType", laid_errors_errorType)] }
def DownSaysSaid : Prop := downSaysRow.holds Tryd.pinned (OpenSpec.ofChange downSaysSpec)

/-- ITS FALSE NEIGHBOUR: 'it returns false'. Refute it at one input. -/
def downSaysWrong : ChangeSpec := { name := "downSays", fn := fun _ => fun
  | [d1, d2] => { results := [.lit (.bool false)], args := [d1, d2] }
  | _ => none }
def DownSaysWrongFalsely : Prop := downSaysRow.holds Tryd.pinned (OpenSpec.ofChange downSaysWrong)

/-- 'whensteadlaw1.DownCloses': WHATEVER THE INPUT: true; the input reads as it did. -/
def downClosesSpec : ChangeSpec := { name := "downCloses", fn := fun _ => fun
  | [d1, d2, d3] => { results := [.lit (.bool true)], args := [d1, d2, d3] }
  | _ => none }
def downClosesRow : OpenClaim := { program := "ytejnjokjkinpkaadoor", sum := "fd7fdcabeec1d11899c6bccdef38d8b466be95a31ae39cf31f319f8e5ba75e9a", func := "whenstead/whensteadlaw1.DownCloses", spec := "downCloses", unfollowed := true, recurses := true, named := ["math/bits.deBruijn32tab", "math/bits.deBruijn64tab"], apart := false, laid := [("math/bits.deBruijn32tab", laid_math_bits_deBruijn32tab), ("math/bits.deBruijn64tab", laid_math_bits_deBruijn64tab)] }
def DownClosesSaid : Prop := downClosesRow.holds Tryd.pinned (OpenSpec.ofChange downClosesSpec)

/-- ITS FALSE NEIGHBOUR: 'it returns false'. Refute it at one input. -/
def downClosesWrong : ChangeSpec := { name := "downCloses", fn := fun _ => fun
  | [d1, d2, d3] => { results := [.lit (.bool false)], args := [d1, d2, d3] }
  | _ => none }
def DownClosesWrongFalsely : Prop := downClosesRow.holds Tryd.pinned (OpenSpec.ofChange downClosesWrong)

/-- 'whensteadlaw1.DownLattice': WHATEVER THE INPUT: true; the input reads as it did. -/
def downLatticeSpec : ChangeSpec := { name := "downLattice", fn := fun _ => fun
  | [d1, d2, d3] => { results := [.lit (.bool true)], args := [d1, d2, d3] }
  | _ => none }
def downLatticeRow : OpenClaim := { program := "ytejnjokjkinpkaadoor", sum := "fd7fdcabeec1d11899c6bccdef38d8b466be95a31ae39cf31f319f8e5ba75e9a", func := "whenstead/whensteadlaw1.DownLattice", spec := "downLattice", unfollowed := true, recurses := true, named := ["math/bits.deBruijn32tab", "math/bits.deBruijn64tab"], apart := false, laid := [("math/bits.deBruijn32tab", laid_math_bits_deBruijn32tab), ("math/bits.deBruijn64tab", laid_math_bits_deBruijn64tab)] }
def DownLatticeSaid : Prop := downLatticeRow.holds Tryd.pinned (OpenSpec.ofChange downLatticeSpec)

/-- ITS FALSE NEIGHBOUR: 'it returns false'. Refute it at one input. -/
def downLatticeWrong : ChangeSpec := { name := "downLattice", fn := fun _ => fun
  | [d1, d2, d3] => { results := [.lit (.bool false)], args := [d1, d2, d3] }
  | _ => none }
def DownLatticeWrongFalsely : Prop := downLatticeRow.holds Tryd.pinned (OpenSpec.ofChange downLatticeWrong)

/-- 'whensteadlaw1.DownLast': WHATEVER THE INPUT: true; the input reads as it did. -/
def downLastSpec : ChangeSpec := { name := "downLast", fn := fun _ => fun
  | [d1, d2] => { results := [.lit (.bool true)], args := [d1, d2] }
  | _ => none }
def downLastRow : OpenClaim := { program := "ytejnjokjkinpkaadoor", sum := "fd7fdcabeec1d11899c6bccdef38d8b466be95a31ae39cf31f319f8e5ba75e9a", func := "whenstead/whensteadlaw1.DownLast", spec := "downLast", unfollowed := true, recurses := true, named := ["math/bits.deBruijn32tab", "math/bits.deBruijn64tab"], apart := false, laid := [("math/bits.deBruijn32tab", laid_math_bits_deBruijn32tab), ("math/bits.deBruijn64tab", laid_math_bits_deBruijn64tab)] }
def DownLastSaid : Prop := downLastRow.holds Tryd.pinned (OpenSpec.ofChange downLastSpec)

/-- ITS FALSE NEIGHBOUR: 'it returns false'. Refute it at one input. -/
def downLastWrong : ChangeSpec := { name := "downLast", fn := fun _ => fun
  | [d1, d2] => { results := [.lit (.bool false)], args := [d1, d2] }
  | _ => none }
def DownLastWrongFalsely : Prop := downLastRow.holds Tryd.pinned (OpenSpec.ofChange downLastWrong)

/-- 'whensteadlaw1.DownCount': WHATEVER THE INPUT: true; the input reads as it did. -/
def downCountSpec : ChangeSpec := { name := "downCount", fn := fun _ => fun
  | [d1, d2, d3] => { results := [.lit (.bool true)], args := [d1, d2, d3] }
  | _ => none }
def downCountRow : OpenClaim := { program := "ytejnjokjkinpkaadoor", sum := "fd7fdcabeec1d11899c6bccdef38d8b466be95a31ae39cf31f319f8e5ba75e9a", func := "whenstead/whensteadlaw1.DownCount", spec := "downCount", unfollowed := true, recurses := true, named := ["math/bits.deBruijn32tab", "math/bits.deBruijn64tab"], apart := false, laid := [("math/bits.deBruijn32tab", laid_math_bits_deBruijn32tab), ("math/bits.deBruijn64tab", laid_math_bits_deBruijn64tab)] }
def DownCountSaid : Prop := downCountRow.holds Tryd.pinned (OpenSpec.ofChange downCountSpec)

/-- ITS FALSE NEIGHBOUR: 'it returns false'. Refute it at one input. -/
def downCountWrong : ChangeSpec := { name := "downCount", fn := fun _ => fun
  | [d1, d2, d3] => { results := [.lit (.bool false)], args := [d1, d2, d3] }
  | _ => none }
def DownCountWrongFalsely : Prop := downCountRow.holds Tryd.pinned (OpenSpec.ofChange downCountWrong)

/-- 'whensteadtop.TopFold': WHATEVER THE INPUT: true; the input reads as it did. -/
def topFoldSpec : ChangeSpec := { name := "topFold", fn := fun _ => fun
  | [d1, d2] => { results := [.lit (.bool true)], args := [d1, d2] }
  | _ => none }
def topFoldRow : OpenClaim := { program := "ytejnjokjkinpkaadoor", sum := "fd7fdcabeec1d11899c6bccdef38d8b466be95a31ae39cf31f319f8e5ba75e9a", func := "whenstead/whensteadtop.TopFold", spec := "topFold", unfollowed := true, recurses := true, named := ["math/bits.deBruijn32tab", "math/bits.deBruijn64tab"], apart := false, laid := [("math/bits.deBruijn32tab", laid_math_bits_deBruijn32tab), ("math/bits.deBruijn64tab", laid_math_bits_deBruijn64tab)] }
def TopFoldSaid : Prop := topFoldRow.holds Tryd.pinned (OpenSpec.ofChange topFoldSpec)

/-- ITS FALSE NEIGHBOUR: 'it returns false'. Refute it at one input. -/
def topFoldWrong : ChangeSpec := { name := "topFold", fn := fun _ => fun
  | [d1, d2] => { results := [.lit (.bool false)], args := [d1, d2] }
  | _ => none }
def TopFoldWrongFalsely : Prop := topFoldRow.holds Tryd.pinned (OpenSpec.ofChange topFoldWrong)

/- THE SECOND FORM. 'bulk': how many values and letters a reading holds, each counted each time it is reached (what is shared counts as often as it is met; a slice's spare places count too). A statement '..UptoSaid' is the law's where the arguments, and the package variables that the reading takes, are together of bulk at most 1048576: NARROWER than '..Said'. Prove '..Said' where nothing that the law and all that it calls make is longer than what came in: it says more and counts as full. Else prove '..UptoSaid'. A law counts once. -/
mutual
def uptoBulk {H : Type} : DataW H → Nat
  | .lit (.string bytes) => bytes.length + 1
  | .lit _ => 1
  | .nil => 1
  | .ptr d => uptoBulk d + 1
  | .slice elems spare => uptoBulkAll elems + uptoBulkAll spare + 1
  | .agg parts => uptoBulkAll parts + 1
  | .iface _ d => uptoBulk d + 1
  | .map entries => uptoBulkEntries entries + 1
  | .held _ => 1
def uptoBulkAll {H : Type} : List (DataW H) → Nat
  | [] => 0
  | d :: r => uptoBulk d + uptoBulkAll r
def uptoBulkEntries {H : Type} : List (Lit × DataW H) → Nat
  | [] => 0
  | x :: r => uptoBulkEntry x + uptoBulkEntries r
def uptoBulkEntry {H : Type} : Lit × DataW H → Nat
  | (.string bytes, d) => bytes.length + uptoBulk d + 1
  | (_, d) => uptoBulk d + 1
 end
def uptoSmall : (H : Type) → List (DataW H) → Bool := fun _ ds => decide (uptoBulkAll ds ≤ 1048576)
def OpenSpec.upto (s : _root_.Go.ChangeSpec) : _root_.Go.OpenSpec := { _root_.Go.OpenSpec.ofChange s with cond := some uptoSmall }

/-- 'whensteadlaw1.DownSays', WHERE WHAT IT READS IS OF BULK AT MOST 1048576: true; the input reads as it did. -/
def downSaysUptoRow : OpenClaim := { program := "ytejnjokjkinpkaadoor", sum := "fd7fdcabeec1d11899c6bccdef38d8b466be95a31ae39cf31f319f8e5ba75e9a", func := "whenstead/whensteadlaw1.DownSays", spec := "downSays", inPlace := ["internal/reflectlite.ValueOf", "(internal/reflectlite.Value).Type", "(internal/reflectlite.Value).IsNil", "internal/reflectlite.TypeOf", "(internal/reflectlite.Value).Elem", "(internal/reflectlite.Value).Set"], unfollowed := true, recurses := true, named := ["math/bits.deBruijn32tab", "math/bits.deBruijn64tab", "errors.errorType"], apart := false, laid := [("math/bits.deBruijn32tab", laid_math_bits_deBruijn32tab), ("math/bits.deBruijn64tab", laid_math_bits_deBruijn64tab), ("errors.errorType", laid_errors_errorType)], narrowed := true }
def DownSaysUptoSaid : Prop := downSaysUptoRow.holds Tryd.pinned (OpenSpec.upto downSaysSpec)

/-- 'whensteadlaw1.DownCloses', WHERE WHAT IT READS IS OF BULK AT MOST 1048576: true; the input reads as it did. -/
def downClosesUptoRow : OpenClaim := { program := "ytejnjokjkinpkaadoor", sum := "fd7fdcabeec1d11899c6bccdef38d8b466be95a31ae39cf31f319f8e5ba75e9a", func := "whenstead/whensteadlaw1.DownCloses", spec := "downCloses", unfollowed := true, recurses := true, named := ["math/bits.deBruijn32tab", "math/bits.deBruijn64tab"], apart := false, laid := [("math/bits.deBruijn32tab", laid_math_bits_deBruijn32tab), ("math/bits.deBruijn64tab", laid_math_bits_deBruijn64tab)], narrowed := true }
def DownClosesUptoSaid : Prop := downClosesUptoRow.holds Tryd.pinned (OpenSpec.upto downClosesSpec)

/-- 'whensteadlaw1.DownLattice', WHERE WHAT IT READS IS OF BULK AT MOST 1048576: true; the input reads as it did. -/
def downLatticeUptoRow : OpenClaim := { program := "ytejnjokjkinpkaadoor", sum := "fd7fdcabeec1d11899c6bccdef38d8b466be95a31ae39cf31f319f8e5ba75e9a", func := "whenstead/whensteadlaw1.DownLattice", spec := "downLattice", unfollowed := true, recurses := true, named := ["math/bits.deBruijn32tab", "math/bits.deBruijn64tab"], apart := false, laid := [("math/bits.deBruijn32tab", laid_math_bits_deBruijn32tab), ("math/bits.deBruijn64tab", laid_math_bits_deBruijn64tab)], narrowed := true }
def DownLatticeUptoSaid : Prop := downLatticeUptoRow.holds Tryd.pinned (OpenSpec.upto downLatticeSpec)

/-- 'whensteadlaw1.DownLast', WHERE WHAT IT READS IS OF BULK AT MOST 1048576: true; the input reads as it did. -/
def downLastUptoRow : OpenClaim := { program := "ytejnjokjkinpkaadoor", sum := "fd7fdcabeec1d11899c6bccdef38d8b466be95a31ae39cf31f319f8e5ba75e9a", func := "whenstead/whensteadlaw1.DownLast", spec := "downLast", unfollowed := true, recurses := true, named := ["math/bits.deBruijn32tab", "math/bits.deBruijn64tab"], apart := false, laid := [("math/bits.deBruijn32tab", laid_math_bits_deBruijn32tab), ("math/bits.deBruijn64tab", laid_math_bits_deBruijn64tab)], narrowed := true }
def DownLastUptoSaid : Prop := downLastUptoRow.holds Tryd.pinned (OpenSpec.upto downLastSpec)

/-- 'whensteadlaw1.DownCount', WHERE WHAT IT READS IS OF BULK AT MOST 1048576: true; the input reads as it did. -/
def downCountUptoRow : OpenClaim := { program := "ytejnjokjkinpkaadoor", sum := "fd7fdcabeec1d11899c6bccdef38d8b466be95a31ae39cf31f319f8e5ba75e9a", func := "whenstead/whensteadlaw1.DownCount", spec := "downCount", unfollowed := true, recurses := true, named := ["math/bits.deBruijn32tab", "math/bits.deBruijn64tab"], apart := false, laid := [("math/bits.deBruijn32tab", laid_math_bits_deBruijn32tab), ("math/bits.deBruijn64tab", laid_math_bits_deBruijn64tab)], narrowed := true }
def DownCountUptoSaid : Prop := downCountUptoRow.holds Tryd.pinned (OpenSpec.upto downCountSpec)

/-- 'whensteadtop.TopFold', WHERE WHAT IT READS IS OF BULK AT MOST 1048576: true; the input reads as it did. -/
def topFoldUptoRow : OpenClaim := { program := "ytejnjokjkinpkaadoor", sum := "fd7fdcabeec1d11899c6bccdef38d8b466be95a31ae39cf31f319f8e5ba75e9a", func := "whenstead/whensteadtop.TopFold", spec := "topFold", unfollowed := true, recurses := true, named := ["math/bits.deBruijn32tab", "math/bits.deBruijn64tab"], apart := false, laid := [("math/bits.deBruijn32tab", laid_math_bits_deBruijn32tab), ("math/bits.deBruijn64tab", laid_math_bits_deBruijn64tab)], narrowed := true }
def TopFoldUptoSaid : Prop := topFoldUptoRow.holds Tryd.pinned (OpenSpec.upto topFoldSpec)

end Rows
end Go.Proofs.YtejnjokjkinpkaaDoor
