/-
  No cell of these rows narrows 'for every input' (looked for: loops, veiled, ifaces, maps, wideKeys, modest, calm, conditions, laid).
  DERIVED. THE GIVEN ROWS OF THIS SEAT. 3 by the template 'for every input the law returns true; each argument reads behind the call as it read before'; 0 by the template 'total and deterministic' (their statements: YtckejldbbkibhaaTotals.lean).
  GIVEN WITH THE SEED: the statements are not yours to turn. If you find one false, say at which input.
  Laid BY PROGRAM, IN A SANDBOX (cutbox-rows.mjs): the forced cells as the released guide's own fill.sh prints them over the translation ed8ae7686e28836f… (all of the seat's roots in one cut). By AI agents, Wed Nov 11 2026. No macro, syntax, notation, axiom, sorry.
-/
import Derived.Test.YtckejldbbkibhaaChecked
import GoSem.Claim
import GoSem.ClaimJoined
import GoSem.ClaimMapViews
import Derived.JoinedTies
import Derived.KernelRfl
namespace Go.Proofs.Ytckejldbbkibhaa
/- THE CELL 'sum', in the pinned program and in every row, IS THE sha256 OF THE DUMP (.gsa) THAT YtckejldbbkibhaaProg.lean LOADS. Nothing in Lean hashes anything: it is a label: what it is worth is what the hold of that sum in a sandbox is worth. -/
noncomputable def Try.pinned : Pinned := { name := "ytckejldbbkibhaa", sum := "ed8ae7686e28836f48496d673137fe7a3d14626f941a2f3d4a19483189ccc2f4", checked := Try.checked }
namespace Rows
def none {H : Type} : Left H := { results := [], args := [] }

/-- 'whensteadlaw2.HybridBefore': WHATEVER THE INPUT: true; the input reads as it did. -/
def hybridBeforeSpec : ChangeSpec := { name := "hybridBefore", fn := fun _ => fun
  | [d1, d2, d3, d4] => { results := [.lit (.bool true)], args := [d1, d2, d3, d4] }
  | _ => none }
def hybridBeforeRow : OpenClaim := { program := "ytckejldbbkibhaa", sum := "ed8ae7686e28836f48496d673137fe7a3d14626f941a2f3d4a19483189ccc2f4", func := "whenstead/whensteadlaw2.HybridBefore", spec := "hybridBefore", apart := false }
def HybridBeforeSaid : Prop := hybridBeforeRow.holds Try.pinned (OpenSpec.ofChange hybridBeforeSpec)

/-- ITS FALSE NEIGHBOUR: 'it returns false'. Refute it at one input. -/
def hybridBeforeWrong : ChangeSpec := { name := "hybridBefore", fn := fun _ => fun
  | [d1, d2, d3, d4] => { results := [.lit (.bool false)], args := [d1, d2, d3, d4] }
  | _ => none }
def HybridBeforeWrongFalsely : Prop := hybridBeforeRow.holds Try.pinned (OpenSpec.ofChange hybridBeforeWrong)

/-- 'whensteadlaw2.HybridTrue': WHATEVER THE INPUT: true; the input reads as it did. -/
def hybridTrueSpec : ChangeSpec := { name := "hybridTrue", fn := fun _ => fun
  | [d1, d2] => { results := [.lit (.bool true)], args := [d1, d2] }
  | _ => none }
def hybridTrueRow : OpenClaim := { program := "ytckejldbbkibhaa", sum := "ed8ae7686e28836f48496d673137fe7a3d14626f941a2f3d4a19483189ccc2f4", func := "whenstead/whensteadlaw2.HybridTrue", spec := "hybridTrue", apart := false }
def HybridTrueSaid : Prop := hybridTrueRow.holds Try.pinned (OpenSpec.ofChange hybridTrueSpec)

/-- ITS FALSE NEIGHBOUR: 'it returns false'. Refute it at one input. -/
def hybridTrueWrong : ChangeSpec := { name := "hybridTrue", fn := fun _ => fun
  | [d1, d2] => { results := [.lit (.bool false)], args := [d1, d2] }
  | _ => none }
def HybridTrueWrongFalsely : Prop := hybridTrueRow.holds Try.pinned (OpenSpec.ofChange hybridTrueWrong)

/-- 'whensteadlaw2.HybridLate': WHATEVER THE INPUT: true; the input reads as it did. -/
def hybridLateSpec : ChangeSpec := { name := "hybridLate", fn := fun _ => fun
  | [d1, d2, d3] => { results := [.lit (.bool true)], args := [d1, d2, d3] }
  | _ => none }
def hybridLateRow : OpenClaim := { program := "ytckejldbbkibhaa", sum := "ed8ae7686e28836f48496d673137fe7a3d14626f941a2f3d4a19483189ccc2f4", func := "whenstead/whensteadlaw2.HybridLate", spec := "hybridLate", apart := false }
def HybridLateSaid : Prop := hybridLateRow.holds Try.pinned (OpenSpec.ofChange hybridLateSpec)

/-- ITS FALSE NEIGHBOUR: 'it returns false'. Refute it at one input. -/
def hybridLateWrong : ChangeSpec := { name := "hybridLate", fn := fun _ => fun
  | [d1, d2, d3] => { results := [.lit (.bool false)], args := [d1, d2, d3] }
  | _ => none }
def HybridLateWrongFalsely : Prop := hybridLateRow.holds Try.pinned (OpenSpec.ofChange hybridLateWrong)

/- THE SECOND FORM. 'bulk': how many values and letters a reading holds, each counted each time it is reached (what is shared counts as often as it is met; a slice's spare places count too). A statement '..UptoSaid' is the law's where the arguments, and the package variables that the reading takes, are together of bulk at most 1048576: NARROWER than '..Said'. Prove '..Said' where nothing that the law and all that it calls make is longer than what came in: it says more and counts as full. Else prove '..UptoSaid'. A law counts once. -/
mutual
def uptoBulk {H : Type} : DataW H → Nat
  | .lit (.string bytes) => bytes.length + 1
  | .lit _ => 1
  | .nil => 1
  | .ptr d => uptoBulk d + 1
  | .slice elems spare => uptoBulkAll elems + uptoBulkAll spare + 1
  | .agg parts => uptoBulkAll parts + 1
  | .iface _ d => uptoBulk d + 1
  | .map entries => uptoBulkEntries entries + 1
  | .held _ => 1
def uptoBulkAll {H : Type} : List (DataW H) → Nat
  | [] => 0
  | d :: r => uptoBulk d + uptoBulkAll r
def uptoBulkEntries {H : Type} : List (Lit × DataW H) → Nat
  | [] => 0
  | x :: r => uptoBulkEntry x + uptoBulkEntries r
def uptoBulkEntry {H : Type} : Lit × DataW H → Nat
  | (.string bytes, d) => bytes.length + uptoBulk d + 1
  | (_, d) => uptoBulk d + 1
 end
def uptoSmall : (H : Type) → List (DataW H) → Bool := fun _ ds => decide (uptoBulkAll ds ≤ 1048576)
def OpenSpec.upto (s : _root_.Go.ChangeSpec) : _root_.Go.OpenSpec := { _root_.Go.OpenSpec.ofChange s with cond := some uptoSmall }

/-- 'whensteadlaw2.HybridBefore', WHERE WHAT IT READS IS OF BULK AT MOST 1048576: true; the input reads as it did. -/
def hybridBeforeUptoRow : OpenClaim := { program := "ytckejldbbkibhaa", sum := "ed8ae7686e28836f48496d673137fe7a3d14626f941a2f3d4a19483189ccc2f4", func := "whenstead/whensteadlaw2.HybridBefore", spec := "hybridBefore", apart := false, narrowed := true }
def HybridBeforeUptoSaid : Prop := hybridBeforeUptoRow.holds Try.pinned (OpenSpec.upto hybridBeforeSpec)

/-- 'whensteadlaw2.HybridTrue', WHERE WHAT IT READS IS OF BULK AT MOST 1048576: true; the input reads as it did. -/
def hybridTrueUptoRow : OpenClaim := { program := "ytckejldbbkibhaa", sum := "ed8ae7686e28836f48496d673137fe7a3d14626f941a2f3d4a19483189ccc2f4", func := "whenstead/whensteadlaw2.HybridTrue", spec := "hybridTrue", apart := false, narrowed := true }
def HybridTrueUptoSaid : Prop := hybridTrueUptoRow.holds Try.pinned (OpenSpec.upto hybridTrueSpec)

/-- 'whensteadlaw2.HybridLate', WHERE WHAT IT READS IS OF BULK AT MOST 1048576: true; the input reads as it did. -/
def hybridLateUptoRow : OpenClaim := { program := "ytckejldbbkibhaa", sum := "ed8ae7686e28836f48496d673137fe7a3d14626f941a2f3d4a19483189ccc2f4", func := "whenstead/whensteadlaw2.HybridLate", spec := "hybridLate", apart := false, narrowed := true }
def HybridLateUptoSaid : Prop := hybridLateUptoRow.holds Try.pinned (OpenSpec.upto hybridLateSpec)

end Rows
end Go.Proofs.Ytckejldbbkibhaa
