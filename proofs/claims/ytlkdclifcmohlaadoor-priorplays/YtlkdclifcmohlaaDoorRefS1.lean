/- The document's answer: what is wrong with a schedule (whensteadref3.Acts, Act, in). -/
import Derived.Test.YtlkdclifcmohlaaDoorSc1
namespace Go.Proofs.YtlkdclifcmohlaaDoor
open Go.RowKit

/-- does a number lie between two others? -/
def inY (n lo hi : Int) : Bool := decide (lo ≤ n ∧ n ≤ hi)
set_option maxHeartbeats 400000 in
theorem in3y_ok (n lo hi : Int) (w : World) :
    Calls Tryd.prog 42 #[.int .i64 n, .int .i64 lo, .int .i64 hi] w fun e w' => e = .returned (.bool (inY n lo hi)) ∧ w = w' := by
  by_cases hz : lo ≤ n
  · go_enter Tryd.func42, Tryd.ntmps42
    go_wp2
    go_ret
    exact ⟨bool_ret (by unfold inY; rw [Bool.eq_iff_iff]; simp [hz]), rfl⟩
  · go_enter Tryd.func42, Tryd.ntmps42
    go_wp2
    go_ret
    exact ⟨bool_ret (by unfold inY; rw [eq_comm, decide_eq_false_iff_not]; omega), rfl⟩
theorem iny_thing (n k : Int) : inY n 0 k = thingZ n (k + 1) := by
  unfold inY thingZ
  rw [Bool.eq_iff_iff, decide_eq_true_eq, decide_eq_true_eq]
  omega
theorem aIn_in (o : Az) : aIn o = (inY o.tx 0 4 && inY o.it 0 3 && inY o.wt 0 1) := by
  unfold aIn
  simp only [iny_thing]
  rfl
/-- what is wrong with one -/
def aCd (o : Az) : Nat := if aIn o then 0 else 1
theorem aCd_t {o : Az} (h : aIn o = true) : aCd o = 0 := if_pos h
theorem aCd_f {o : Az} (h : aIn o = false) : aCd o = 1 := if_neg (by rw [h]; simp)
set_option maxRecDepth 100000 in
set_option maxHeartbeats 1000000 in
theorem refAct_ok (o : Az) (w : World) :
    Calls Tryd.prog 26 #[acV o] w fun e w' => e = .returned (.int .i64 ((aCd o : Nat) : Int)) ∧ Below w.heap.size w w' := by
  have hB : Below w.heap.size w (w.alloc (.cells #[.int .i64 o.tx, .int .i64 o.it, .int .i64 o.wt] 31)) := bel_al (Below.refl _ _) _
  have hq := aIn_in o
  cases h1 : inY o.tx 0 4 with
  | false =>
    have HQ : Hid (aCd o = 1) := by refine aCd_f ?_; rw [hq, h1]; rfl
    clear hq
    go_enter Tryd.func26, Tryd.ntmps26
    go_wp2_with (go_at_call 42; refine (in3y_ok _ _ _ _).mono ?_; rintro e w' ⟨rfl, rfl⟩)
    go_ret
    exact ⟨by rw [HQ.out]; rfl, hB⟩
  | true =>
  cases h2 : inY o.it 0 3 with
  | false =>
    have HQ : Hid (aCd o = 1) := by refine aCd_f ?_; rw [hq, h1, h2]; rfl
    clear hq
    go_enter Tryd.func26, Tryd.ntmps26
    go_wp2_with (go_at_call 42; refine (in3y_ok _ _ _ _).mono ?_; rintro e w' ⟨rfl, rfl⟩)
    go_ret
    exact ⟨by rw [HQ.out]; rfl, hB⟩
  | true =>
  cases h3 : inY o.wt 0 1 with
  | false =>
    have HQ : Hid (aCd o = 1) := by refine aCd_f ?_; rw [hq, h1, h2, h3]; rfl
    clear hq
    go_enter Tryd.func26, Tryd.ntmps26
    go_wp2_with (go_at_call 42; refine (in3y_ok _ _ _ _).mono ?_; rintro e w' ⟨rfl, rfl⟩)
    go_ret
    exact ⟨by rw [HQ.out]; rfl, hB⟩
  | true =>
    have HQ : Hid (aCd o = 0) := by refine aCd_t ?_; rw [hq, h1, h2, h3]; rfl
    clear hq
    go_enter Tryd.func26, Tryd.ntmps26
    go_wp2_with (go_at_call 42; refine (in3y_ok _ _ _ _).mono ?_; rintro e w' ⟨rfl, rfl⟩)
    go_ret
    exact ⟨by rw [HQ.out]; rfl, hB⟩
end Go.Proofs.YtlkdclifcmohlaaDoor
