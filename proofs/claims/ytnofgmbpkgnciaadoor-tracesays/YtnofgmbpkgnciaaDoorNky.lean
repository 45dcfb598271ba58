/- The names of events as a map's keys: each has one, and two that are told apart have two. No walk. -/
import Derived.Test.YtnofgmbpkgnciaaDoorNms
import Derived.Maps.OwnSet
import Derived.DeepKeys4
namespace Go.Proofs.YtnofgmbpkgnciaaDoor
open Go.RowKit Go.Maps

theorem laidOutK : laidOutB Tryd.prog = true := by kernel_rfl
theorem nm_under : Tryd.prog.underlying 71 = some (.array 2 3) := by kernel_rfl
theorem nm_cells : Tryd.prog.cellsOf 71 = 2 := by kernel_rfl
theorem nm_wide : (match Tryd.prog.underlying 71 with | some (.array _ _) | some (.struct _) => true | _ => false) = true := by rw [nm_under]
set_option maxRecDepth 100000 in
theorem nm_law : Keyed Tryd.prog 71 := Keyed.of_law (deep_law_laid laidOutK (m := 2) (by omega) (of_decide_eq_true (by kernel_rfl)) (by kernel_rfl) nm_wide)
theorem nm_formed {c0 c1 : Value} : (Value.agg #[c0, c1]).formed Tryd.prog 71 = true := by simp [Value.formed, nm_cells]
theorem nm_keyT : Tryd.prog.keyType 71 = true := by kernel_rfl
theorem i64_wf {x : Int} (h1 : -9223372036854775808 ≤ x) (h2 : x < 9223372036854775808) : (Lit.int .i64 x).wf = true := WalkArith.wf_i64 (by omega)
theorem nm_key (x y : Int) (hx : (Lit.int .i64 x).wf = true) (hy : (Lit.int .i64 y).wf = true) : ∃ kl, keyOf Tryd.prog 71 (.agg #[.int .i64 x, .int .i64 y]) = some kl := by
  unfold keyOf
  rw [nm_under, nm_keyT, nm_formed]
  simp only [Bool.and_self, if_true]
  have e : Tryd.prog.types.size + 1 = 154 + 1 := by kernel_rfl
  rw [e]
  have h1 : ∀ z : Int, (Lit.int .i64 z).wf = true → Tryd.prog.keyLits 154 3 [.int .i64 z] = some [.int .i64 z] := fun z hz => by
    simp only [Program.keyLits, Tryd.underlying3]
    rw [if_pos ⟨trivial, hz⟩]
  have c1 : Tryd.prog.cellsOf 3 = 1 := by kernel_rfl
  rw [show (Value.agg #[Value.int IntKind.i64 x, Value.int IntKind.i64 y]).cells.toList = [Value.int IntKind.i64 x, Value.int IntKind.i64 y] from rfl]
  unfold Program.keyLits
  rw [nm_under]
  simp only [nm_cells, c1]
  rw [if_pos (show [Value.int IntKind.i64 x, Value.int IntKind.i64 y].length = 2 from rfl)]
  simp [List.range_succ, h1 x hx, h1 y hy]
end Go.Proofs.YtnofgmbpkgnciaaDoor
