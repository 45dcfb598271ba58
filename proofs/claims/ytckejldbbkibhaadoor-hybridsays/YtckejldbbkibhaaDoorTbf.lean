/- What happened before each event of a trace (package trace, Before), at whatever numbers; what lay in memory lies as it lay. -/
import Derived.Test.YtckejldbbkibhaaDoorTck
import Derived.Test.YtckejldbbkibhaaDoorKno
namespace Go.Proofs.YtckejldbbkibhaaDoor
open Go.RowKit

theorem infoInt : (Tryd.prog.info? 3).map (fun i => (i.zero, i.size, i.bytes)) = some (some (.int .i64 0), 1, 8) := by kernel_rfl
theorem made_noughts (n : Nat) : madeCells #[.int .i64 0] n = arr (List.replicate n 0) := by
  apply Array.ext_getElem?
  intro k
  by_cases h : k < n
  · rw [arr_get _ _ (by simp [h])]
    simp [madeCells, h, M.row, Nat.mod_one]
  · rw [Array.getElem?_eq_none (by simp [madeCells]; omega), Array.getElem?_eq_none (by rw [arr_size]; simp; omega)]
theorem heard_bel (a f : Int) (t : Bool) (w : World) (h : (f != -1) = t) :
    Calls Tryd.prog 19 #[.agg #[.int .i64 a, .int .i64 f]] w fun e w' => e = .returned (.bool t) ∧ Below w.heap.size w w' := by
  refine (heard_any a f w).mono ?_
  rintro e w' ⟨rfl, rfl⟩
  exact ⟨bool_ret h, (Below.refl _ _).alloc (Nat.le_refl _) _⟩
theorem ev_cell0 {w : World} {N : Nat} (h : w.heap.size = N) (a f : Int) : (w.alloc (.cells #[.int .i64 a, .int .i64 f] 48)).cell? ⟨N, 0, none⟩ = some (.int .i64 a) := by subst h; simp
theorem ev_cell1 {w : World} {N : Nat} (h : w.heap.size = N) (a f : Int) : (w.alloc (.cells #[.int .i64 a, .int .i64 f] 48)).cell? ⟨N, 1, none⟩ = some (.int .i64 f) := by subst h; simp
theorem row_set_same {m : List Nat} {i v : Nat} (h : i < m.length) : M.row (m.set i v) i = v := by rw [M.row_set, if_pos ⟨rfl, h⟩]
theorem row_set_other {m : List Nat} {i j v : Nat} (h : i ≠ j) : M.row (m.set i v) j = M.row m j := by rw [M.row_set, if_neg (fun e => h e.1)]
end Go.Proofs.YtckejldbbkibhaaDoor
