/- The names of events as a map's keys: each has one, and two that are told apart have two. No walk. -/
import Derived.Test.YtnofgmbpkgnciaaNms
import Derived.Maps.OwnSet
import Derived.DeepKeys4
namespace Go.Proofs.Ytnofgmbpkgnciaa
open Go.RowKit Go.Maps

theorem laidOutK : laidOutB Try.prog = true := by kernel_rfl
theorem nm_under : Try.prog.underlying 61 = some (.array 2 3) := by kernel_rfl
theorem nm_cells : Try.prog.cellsOf 61 = 2 := by kernel_rfl
theorem nm_wide : (match Try.prog.underlying 61 with | some (.array _ _) | some (.struct _) => true | _ => false) = true := by rw [nm_under]
theorem nm_law : Keyed Try.prog 61 := Keyed.of_law (deep_law_laid laidOutK (m := 2) (by omega) (of_decide_eq_true (by kernel_rfl)) (by kernel_rfl) nm_wide)
theorem nm_formed {c0 c1 : Value} : (Value.agg #[c0, c1]).formed Try.prog 61 = true := by simp [Value.formed, nm_cells]
theorem nm_keyT : Try.prog.keyType 61 = true := by kernel_rfl
theorem i64_wf {x : Int} (h1 : -9223372036854775808 ≤ x) (h2 : x < 9223372036854775808) : (Lit.int .i64 x).wf = true := WalkArith.wf_i64 (by omega)
theorem nm_key (x y : Int) (hx : (Lit.int .i64 x).wf = true) (hy : (Lit.int .i64 y).wf = true) : ∃ kl, keyOf Try.prog 61 (.agg #[.int .i64 x, .int .i64 y]) = some kl := by
  unfold keyOf
  rw [nm_under, nm_keyT, nm_formed]
  simp only [Bool.and_self, if_true]
  have e : Try.prog.types.size + 1 = 81 + 1 := by kernel_rfl
  rw [e]
  have h1 : ∀ z : Int, (Lit.int .i64 z).wf = true → Try.prog.keyLits 81 3 [.int .i64 z] = some [.int .i64 z] := fun z hz => by
    simp only [Program.keyLits, Try.underlying3]
    rw [if_pos ⟨trivial, hz⟩]
  have c1 : Try.prog.cellsOf 3 = 1 := by kernel_rfl
  rw [show (Value.agg #[Value.int IntKind.i64 x, Value.int IntKind.i64 y]).cells.toList = [Value.int IntKind.i64 x, Value.int IntKind.i64 y] from rfl]
  unfold Program.keyLits
  rw [nm_under]
  simp only [nm_cells, c1]
  rw [if_pos (show [Value.int IntKind.i64 x, Value.int IntKind.i64 y].length = 2 from rfl)]
  simp [List.range_succ, h1 x hx, h1 y hy]
end Go.Proofs.Ytnofgmbpkgnciaa
