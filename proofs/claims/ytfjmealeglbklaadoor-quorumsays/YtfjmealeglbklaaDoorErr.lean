/- An error against the number that is asked (package whensteadsame, Error): nil is 0, an error of the project's own kind is its number; what lay in memory lies as it lay; the library's variable for the type error lies as the program's text lays it. -/
import Derived.Test.YtfjmealeglbklaaDoorTold
namespace Go.Proofs.YtfjmealeglbklaaDoor
open Go.RowKit

theorem Ety.later {w w' : World} (h : Ety w) (hb : Below w.heap.size w w') : Ety w' := (hb.cell (p := ⟨0, 0, none⟩) (World.block_lt_of_cell? _ _ h)).trans h
theorem asW_below (t : Addr) (c : Int) (w : World) : Below w.heap.size w (asW t c w) := by
  unfold asW
  exact ((((Below.refl _ _).alloc (Nat.le_refl _) _).alloc (by simp) _).alloc (by simp; omega) _).alloc (by simp; omega) _
theorem asW_cell (t : Addr) (c : Int) (w : World) (u : Value) (h : w.cell? t = some u) : (asW t c w).cell? t = some u :=
  ((asW_below t c w).cell (World.block_lt_of_cell? _ _ h)).trans h
set_option maxHeartbeats 1000000 in
theorem told_err (c : Int) (w : World) (hg : Ety w) : Calls Tryd.prog 30 #[.iface 53 (.int .i64 c)] w fun e w' => e = .returned (.int .i64 c) ∧ Below w.heap.size w w' := by
  have hb1 : Below w.heap.size w (w.alloc (.cells #[.int .i64 0] 53)) := (Below.refl _ _).alloc (Nat.le_refl _) _
  have ht : (w.alloc (.cells #[.int .i64 0] 53)).cell? ⟨w.heap.size, 0, none⟩ = some (.int .i64 0) := by simp
  have hf : (w.alloc (.cells #[.int .i64 0] 53)).frozen? ⟨w.heap.size, 0, none⟩ = false := by simp
  have hb2 : Below w.heap.size w ((asW ⟨w.heap.size, 0, none⟩ c (w.alloc (.cells #[.int .i64 0] 53))).setCell ⟨w.heap.size, 0, none⟩ (.int .i64 c)) :=
    (hb1.trans ((asW_below _ _ _).mono (by simp))).setCell (p := ⟨w.heap.size, 0, none⟩) (Nat.le_refl _) _
  have hc2 : ((asW ⟨w.heap.size, 0, none⟩ c (w.alloc (.cells #[.int .i64 0] 53))).setCell ⟨w.heap.size, 0, none⟩ (.int .i64 c)).cell? ⟨w.heap.size, 0, none⟩ = some (.int .i64 c) :=
    World.cell?_setCell_same' _ _ _ (by rw [asW_cell _ _ _ _ ht]; rfl)
  obtain ⟨W2, hW2⟩ : ∃ W2, W2 = ((asW ⟨w.heap.size, 0, none⟩ c (w.alloc (.cells #[.int .i64 0] 53))).setCell ⟨w.heap.size, 0, none⟩ (.int .i64 c)) := ⟨_, rfl⟩
  rw [← hW2] at hb2 hc2
  have h := as_hit c ⟨w.heap.size, 0, none⟩ (.int .i64 0) (w.alloc (.cells #[.int .i64 0] 53)) (hg.later hb1) ht hf
  rw [← hW2] at h
  clear hW2
  go_enter Tryd.func30, Tryd.ntmps30
  go_wp2_with fail
  refine h.mono ?_
  rintro e w' ⟨rfl, rfl⟩
  go_wp2
  go_ret
  exact ⟨rfl, hb2⟩
set_option maxHeartbeats 400000 in
theorem told_nil (w : World) : Calls Tryd.prog 30 #[.nilIface] w fun e w' => e = .returned (.int .i64 0) ∧ w = w' := by
  go_enter Tryd.func30, Tryd.ntmps30
  go_wp2
  go_ret
  exact ⟨rfl, rfl⟩
set_option maxHeartbeats 400000 in
theorem error_nil (w : World) : Calls Tryd.prog 9 #[.nilIface, .int .i64 0] w fun e w' => e = .returned (.bool true) ∧ w = w' := by
  go_enter Tryd.func9, Tryd.ntmps9
  go_wp2_with (go_at_call 30; refine (told_nil _).mono ?_; rintro e w' ⟨rfl, rfl⟩)
  go_ret
  exact ⟨rfl, rfl⟩
set_option maxHeartbeats 400000 in
theorem error_same (c : Int) (w : World) (hg : Ety w) : Calls Tryd.prog 9 #[.iface 53 (.int .i64 c), .int .i64 c] w fun e w' => e = .returned (.bool true) ∧ Below w.heap.size w w' := by
  go_enter Tryd.func9, Tryd.ntmps9
  go_wp2_with (go_at_call 30; refine (told_err _ _ hg).mono ?_; rintro e w' ⟨rfl, hB⟩)
  go_ret
  exact ⟨by simp, hB⟩
end Go.Proofs.YtfjmealeglbklaaDoor
