/- Two names are told apart just if they part in the process or in which of it. -/
import Derived.Test.YtnofgmbpkgnciaaDoorNky
import Derived.Laws.StructEq
namespace Go.Proofs.YtnofgmbpkgnciaaDoor

theorem eq_names_d (d : Nat) (x1 y1 x2 y2 : Int) (w : World) : (Op.equalIn (d + 1 + 1) 71 (.agg #[.int .i64 x1, .int .i64 y1]) (.agg #[.int .i64 x2, .int .i64 y2])).run Tryd.prog w = .ok (x1 == x2 && y1 == y2) w := by
  have h1 : ∀ (a b : Int) (w : World), (Op.equalIn (d + 1) 3 (.int .i64 a) (.int .i64 b)).run Tryd.prog w = .ok (a == b) w := fun a b w => run_equalIn_int w d 3 .i64 .i64 a b Tryd.underlying3
  have hs : ∀ w : World, (sizeOf 3).run Tryd.prog w = .ok 1 w := fun w => by kernel_rfl
  have p0 : ∀ (a b : Int) (w : World), (part 3 #[.int .i64 a, .int .i64 b] 0).run Tryd.prog w = .ok (.int .i64 a) w := fun a b w => by kernel_rfl
  have p1 : ∀ (a b : Int) (w : World), (part 3 #[.int .i64 a, .int .i64 b] 1).run Tryd.prog w = .ok (.int .i64 b) w := fun a b w => by kernel_rfl
  rw [Op.equalIn]
  simp only [Sem.run_bind, run_underlying nm_under, Result.andThen_ok, hs]
  cases hx : x1 == x2 <;> cases hy : y1 == y2 <;> simp [Std.Legacy.Range.forIn_eq_forIn_range', List.range', p0, p1, h1, hx, hy]
theorem eq_names (x1 y1 x2 y2 : Int) (w : World) : (Op.equalIn 10000 71 (.agg #[.int .i64 x1, .int .i64 y1]) (.agg #[.int .i64 x2, .int .i64 y2])).run Tryd.prog w = .ok (x1 == x2 && y1 == y2) w := eq_names_d 9998 x1 y1 x2 y2 w
theorem neq_names (x1 y1 x2 y2 : Int) (w : World) : (binOp .neq 71 (.agg #[.int .i64 x1, .int .i64 y1]) (.agg #[.int .i64 x2, .int .i64 y2])).run Tryd.prog w = .ok (.bool (!(x1 == x2 && y1 == y2))) w := by
  rw [run_neq_struct, eq_names]
  rfl
end Go.Proofs.YtnofgmbpkgnciaaDoor
