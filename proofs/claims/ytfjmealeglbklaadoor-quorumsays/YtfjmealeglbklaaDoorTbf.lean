/- What happened before each event of a trace (package trace, Before), at whatever numbers; what lay in memory lies as it lay. -/
import Derived.Test.YtfjmealeglbklaaDoorTck
import Derived.Test.YtfjmealeglbklaaDoorKno
namespace Go.Proofs.YtfjmealeglbklaaDoor
open Go.RowKit

theorem infoInt : (Tryd.prog.info? 3).map (fun i => (i.zero, i.size, i.bytes)) = some (some (.int .i64 0), 1, 8) := by kernel_rfl
theorem made_noughts (n : Nat) : madeCells #[.int .i64 0] n = arr (List.replicate n 0) := by
  apply Array.ext_getElem?
  intro k
  by_cases h : k < n
  · rw [arr_get _ _ (by simp [h])]
    simp [madeCells, h, M.row, Nat.mod_one]
  · rw [Array.getElem?_eq_none (by simp [madeCells]; omega), Array.getElem?_eq_none (by rw [arr_size]; simp; omega)]
theorem row_set_same {m : List Nat} {i v : Nat} (h : i < m.length) : M.row (m.set i v) i = v := by rw [M.row_set, if_pos ⟨rfl, h⟩]
theorem row_set_other {m : List Nat} {i j v : Nat} (h : i ≠ j) : M.row (m.set i v) j = M.row m j := by rw [M.row_set, if_neg (fun e => h e.1)]
end Go.Proofs.YtfjmealeglbklaaDoor
