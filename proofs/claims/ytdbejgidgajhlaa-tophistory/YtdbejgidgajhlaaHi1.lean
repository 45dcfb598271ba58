/- Whether a number is a time, an op in range, two ops share a time, one is over when another begins (package hist); what lay in memory lies as it lay. -/
import Derived.Test.YtdbejgidgajhlaaHi0
namespace Go.Proofs.Ytdbejgidgajhlaa
open Go.RowKit

set_option maxHeartbeats 400000 in
theorem isTime_ok (x : Int) (w : World) :
    Calls Try.prog 20 #[.int .i64 x] w fun e w' => e = .returned (.bool (thingZ x 1000001)) ∧ w = w' := by
  go_enter Try.func20, Try.ntmps20
  go_wp2_with fail
  refine (isThing_z x 1000001 w).mono ?_
  rintro e w' ⟨rfl, rfl⟩
  go_wp2_with fail
  go_ret
  exact ⟨rfl, rfl⟩
theorem opAt_new (w : World) (o : Oz) : OpAt o w.heap.size 0 (w.alloc (.cells #[.int .i64 o.pr, .int .i64 o.ob, .int .i64 o.wr, .int .i64 o.va, .int .i64 o.fr, .int .i64 o.to] 33)) :=
  ⟨by simp, by simp, by simp, by simp, by simp, by simp, by simp⟩
set_option maxRecDepth 100000 in
set_option maxHeartbeats 1000000 in
theorem inRange_ok (o : Oz) (w : World) :
    Calls Try.prog 16 #[opV o] w fun e w' => e = .returned (.bool (oIn o)) ∧ Below w.heap.size w w' := by
  have hB : Below w.heap.size w (w.alloc (.cells #[.int .i64 o.pr, .int .i64 o.ob, .int .i64 o.wr, .int .i64 o.va, .int .i64 o.fr, .int .i64 o.to] 33)) := bel_al (Below.refl _ _) _
  unfold oIn
  cases h1 : thingZ o.pr 5 with
  | false =>
    go_enter Try.func16, Try.ntmps16
    go_wp2_with (go_at_call 13; refine (isThing_z _ _ _).mono ?_; rintro e w' ⟨rfl, rfl⟩)
    go_ret
    exact ⟨rfl, hB⟩
  | true =>
  cases h2 : thingZ o.ob 3 with
  | false =>
    go_enter Try.func16, Try.ntmps16
    go_wp2_with (go_at_call 13; refine (isThing_z _ _ _).mono ?_; rintro e w' ⟨rfl, rfl⟩)
    go_ret
    exact ⟨rfl, hB⟩
  | true =>
  cases h3 : thingZ o.wr 2 with
  | false =>
    go_enter Try.func16, Try.ntmps16
    go_wp2_with (go_at_call 13; refine (isThing_z _ _ _).mono ?_; rintro e w' ⟨rfl, rfl⟩)
    go_ret
    exact ⟨rfl, hB⟩
  | true =>
  cases h4 : thingZ o.va 1000001 with
  | false =>
    go_enter Try.func16, Try.ntmps16
    go_wp2_with (first | (go_at_call 13; refine (isThing_z _ _ _).mono ?_; rintro e w' ⟨rfl, rfl⟩) | (go_at_call 20; refine (isTime_ok _ _).mono ?_; rintro e w' ⟨rfl, rfl⟩))
    go_ret
    exact ⟨rfl, hB⟩
  | true =>
  cases h5 : thingZ o.fr 1000001 with
  | false =>
    go_enter Try.func16, Try.ntmps16
    go_wp2_with (first | (go_at_call 13; refine (isThing_z _ _ _).mono ?_; rintro e w' ⟨rfl, rfl⟩) | (go_at_call 20; refine (isTime_ok _ _).mono ?_; rintro e w' ⟨rfl, rfl⟩))
    go_ret
    exact ⟨rfl, hB⟩
  | true =>
    go_enter Try.func16, Try.ntmps16
    go_wp2_with (first | (go_at_call 13; refine (isThing_z _ _ _).mono ?_; rintro e w' ⟨rfl, rfl⟩) | (go_at_call 20; refine (isTime_ok _ _).mono ?_; rintro e w' ⟨rfl, rfl⟩))
    go_ret
    exact ⟨rfl, hB⟩
set_option maxRecDepth 100000 in
set_option maxHeartbeats 1000000 in
theorem shareTime_ok (a b : Oz) (w : World) :
    Calls Try.prog 17 #[opV a, opV b] w fun e w' => e = .returned (.bool (shB a b)) ∧ Below w.heap.size w w' := by
  have hB : Below w.heap.size w ((w.alloc (.cells #[.int .i64 a.pr, .int .i64 a.ob, .int .i64 a.wr, .int .i64 a.va, .int .i64 a.fr, .int .i64 a.to] 33)).alloc (.cells #[.int .i64 b.pr, .int .i64 b.ob, .int .i64 b.wr, .int .i64 b.va, .int .i64 b.fr, .int .i64 b.to] 33)) := bel_al (bel_al (Below.refl _ _) _) _
  unfold shB
  by_cases h : a.fr < b.to
  · go_enter Try.func17, Try.ntmps17
    go_wp2
    go_ret
    exact ⟨bool_ret (by rw [decide_eq_true h, Bool.true_and]), hB⟩
  · go_enter Try.func17, Try.ntmps17
    go_wp2
    go_ret
    exact ⟨bool_ret (by rw [decide_eq_false (by omega), Bool.false_and]), hB⟩
def ovB (a b : Oz) : Bool := decide (a.to ≤ b.fr)
set_option maxHeartbeats 1000000 in
theorem isOver_ok (a b : Oz) (w : World) :
    Calls Try.prog 11 #[opV a, opV b] w fun e w' => e = .returned (.bool (ovB a b)) ∧ Below w.heap.size w w' := by
  have hB : Below w.heap.size w ((w.alloc (.cells #[.int .i64 a.pr, .int .i64 a.ob, .int .i64 a.wr, .int .i64 a.va, .int .i64 a.fr, .int .i64 a.to] 33)).alloc (.cells #[.int .i64 b.pr, .int .i64 b.ob, .int .i64 b.wr, .int .i64 b.va, .int .i64 b.fr, .int .i64 b.to] 33)) := bel_al (bel_al (Below.refl _ _) _) _
  go_enter Try.func11, Try.ntmps11
  go_wp2
  go_ret
  exact ⟨rfl, hB⟩
set_option maxRecDepth 100000 in
set_option maxHeartbeats 1000000 in
theorem isOverThere_ok (a b : Oz) (w : World) :
    Calls Try.prog 12 #[opV a, opV b] w fun e w' => e = .returned (.bool (a.pr == b.pr && ovB a b)) ∧ Below w.heap.size w w' := by
  have hB : Below w.heap.size w ((w.alloc (.cells #[.int .i64 a.pr, .int .i64 a.ob, .int .i64 a.wr, .int .i64 a.va, .int .i64 a.fr, .int .i64 a.to] 33)).alloc (.cells #[.int .i64 b.pr, .int .i64 b.ob, .int .i64 b.wr, .int .i64 b.va, .int .i64 b.fr, .int .i64 b.to] 33)) := bel_al (bel_al (Below.refl _ _) _) _
  cases h : (a.pr == b.pr) with
  | true =>
    go_enter Try.func12, Try.ntmps12
    go_wp2_with fail
    refine (isOver_ok a b _).mono ?_
    rintro e w' ⟨rfl, hB2⟩
    have hB3 := bel_on hB hB2
    go_wp2_with fail
    go_ret
    exact ⟨rfl, hB3⟩
  | false =>
    go_enter Try.func12, Try.ntmps12
    go_wp2_with fail
    go_ret
    exact ⟨rfl, hB⟩
end Go.Proofs.Ytdbejgidgajhlaa
