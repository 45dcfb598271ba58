/- A deed at the document's own locks (whensteadref3.Lock), whole; new ones (NewLocks). -/
import Derived.Test.YtcjodlgkmbmcgaaDoorRefK4
namespace Go.Proofs.YtcjodlgkmbmcgaaDoor
open Go.RowKit
theorem rlock_ok {G : Nat → Prop} {s : M.Lk} (v : LV) (k t o x : Int) (w : World) (hR : RL G s v w) (hG : ∀ j, w.heap.size ≤ j → G j) (hS : M.LG s) :
    Calls Tryd.prog 19 #[rlV s v, dV k t o x] w fun e w' => ∃ v', e = .returned (.tuple #[rlV (lkZ s k t o x).1 v', .int .i64 (((lkZ s k t o x).2 : Nat) : Int)]) ∧ RL G (lkZ s k t o x).1 v' w' ∧ Below w.heap.size w w' := by
  by_cases h0 : 0 ≤ k ∧ k ≤ 3
  case neg =>
    have e : lkZ s k t o x = (s, 1) := by unfold lkZ dIn; rw [decide_eq_false h0]; rfl
    rw [e]; exact rl_bad0 v k t o x w hR hG h0
  by_cases h1 : 0 ≤ t ∧ t ≤ 4
  case neg =>
    have e : lkZ s k t o x = (s, 1) := by
      have : thingZ t 5 = false := thingZ_false (fun h => h1 (by omega))
      unfold lkZ dIn; rw [this]; simp
    rw [e]; exact rl_bad1 v k t o x w hR hG h0 h1
  by_cases h2 : 0 ≤ o ∧ o ≤ 3
  case neg =>
    have e : lkZ s k t o x = (s, 1) := by
      have : thingZ o 4 = false := thingZ_false (fun h => h2 (by omega))
      unfold lkZ dIn; rw [this]; simp
    rw [e]; exact rl_bad2 v k t o x w hR hG h0 h1 h2
  obtain ⟨t, rfl⟩ : ∃ n : Nat, t = n := ⟨t.toNat, by omega⟩
  obtain ⟨o, rfl⟩ : ∃ n : Nat, o = n := ⟨o.toNat, by omega⟩
  have ht : t < 5 := by omega
  have ho : o < 4 := by omega
  have t1 : thingZ (t : Int) 5 = true := by unfold thingZ; exact decide_eq_true (by omega)
  have t2 : thingZ (o : Int) 4 = true := by unfold thingZ; exact decide_eq_true (by omega)
  by_cases h3 : k = 3
  · subst h3
    by_cases h4 : 0 ≤ x ∧ x ≤ 1
    case neg =>
      have e : lkZ s 3 t o x = (s, 1) := by
        have : thingZ x 2 = false := thingZ_false (fun h => h4 (by omega))
        unfold lkZ dIn; rw [this]; simp
      rw [e]; exact rl_bad3 v 3 t o x w hR hG h0 (by omega) (by omega) rfl h4
    obtain ⟨x, rfl⟩ : ∃ n : Nat, x = n := ⟨x.toNat, by omega⟩
    have hx : x < 2 := by omega
    have e : lkZ s 3 t o x = M.lkDo s 3 t o x := by
      have t3 : thingZ (x : Int) 2 = true := by unfold thingZ; exact decide_eq_true (by omega)
      unfold lkZ dIn
      rw [t1, t2, t3]
      simp
    rw [e]
    by_cases g0 : s.hd t o = 0
    · rw [M.lk_none (.inl g0)]; exact rl_none v t o x w hR hG hS ht ho g0 hx
    by_cases g1 : s.hd t o = 1
    · have hx' : x = 0 ∨ x = 1 := by omega
      rcases hx' with rfl | rfl
      · have g : ¬ (s.hd t o = 0 ∨ (s.hd t o = 1 ∧ 0 = 1)) := by omega
        by_cases hL : 24 ≤ s.ac.length
        · rw [M.lk_full g hL]; exact rl_full1 v t o w hR hG hS ht ho g1 hL
        · rw [M.lk_act g hL]; exact rl_act1 v t o w hR hG hS ht ho g1 (by omega)
      · rw [M.lk_none (.inr ⟨g1, rfl⟩)]; exact rl_none1 v t o w hR hG hS ht ho g1
    · have g : ¬ (s.hd t o = 0 ∨ (s.hd t o = 1 ∧ x = 1)) := by omega
      by_cases hL : 24 ≤ s.ac.length
      · rw [M.lk_full g hL]; exact rl_full2 v t o x w hR hG hS ht ho (by omega) hx hL
      · rw [M.lk_act g hL]; exact rl_act2 v t o x w hR hG hS ht ho (by omega) hx (by omega)
  · have e : lkZ s k t o x = M.lkDo s k.toNat t o x.toNat := by
      unfold lkZ dIn
      rw [t1, t2, decide_eq_true h0]
      simp [h3]
    rw [e]
    have hk : k = 0 ∨ k = 1 ∨ k = 2 := by omega
    rcases hk with rfl | rfl | rfl
    · show Calls _ _ _ _ fun e w' => ∃ v', e = .returned (.tuple #[rlV (M.lkDo s 0 t o x.toNat).1 v', .int .i64 (((M.lkDo s 0 t o x.toNat).2 : Nat) : Int)]) ∧ RL G (M.lkDo s 0 t o x.toNat).1 v' w' ∧ _
      by_cases f : t ∈ s.fo
      · rw [M.lk_state (by omega) f]; exact rl_state0 v t o x w hR hG hS ht ho f
      by_cases a : M.agS s t o 0 = 0
      · rw [M.lk_got (by omega) f a]; exact rl_got0 v t o x w hR hG hS ht ho f a
      · rw [M.lk_wait (by omega) f a]; exact rl_wait0 v t o x w hR hG hS ht ho f a
    · show Calls _ _ _ _ fun e w' => ∃ v', e = .returned (.tuple #[rlV (M.lkDo s 1 t o x.toNat).1 v', .int .i64 (((M.lkDo s 1 t o x.toNat).2 : Nat) : Int)]) ∧ RL G (M.lkDo s 1 t o x.toNat).1 v' w' ∧ _
      by_cases f : t ∈ s.fo
      · rw [M.lk_state (by omega) f]; exact rl_state1 v t o x w hR hG hS ht ho f
      by_cases a : M.agS s t o 1 = 0
      · rw [M.lk_got (by omega) f a]; exact rl_got1 v t o x w hR hG hS ht ho f a
      · rw [M.lk_wait (by omega) f a]; exact rl_wait1 v t o x w hR hG hS ht ho f a
    · show Calls _ _ _ _ fun e w' => ∃ v', e = .returned (.tuple #[rlV (M.lkDo s 2 t o x.toNat).1 v', .int .i64 (((M.lkDo s 2 t o x.toNat).2 : Nat) : Int)]) ∧ RL G (M.lkDo s 2 t o x.toNat).1 v' w' ∧ _
      by_cases g : s.hd t o = 0
      · rw [M.lk_nofree g]; exact rl_nofree v t o x w hR hG hS ht ho g
      · rw [M.lk_free g]; exact rl_free v t o x w hR hG hS ht ho g
theorem newL_fin (w : World) (o : Obj) : RL (fun j => w.heap.size ≤ j) M.lk0 ⟨some ⟨w.heap.size + 1, 0, none⟩, 20, some ⟨w.heap.size + 1 + 1, 0, none⟩, 5, none, 0⟩
    (((w.alloc o).alloc (.cells (madeCells #[.int .i64 0] 20) 3)).alloc (.cells #[.int .i64 (-1), .int .i64 (-1), .int .i64 (-1), .int .i64 (-1), .int .i64 (-1)] 3)) := by
  obtain ⟨w1, hw1⟩ : ∃ w1, w.alloc o = w1 := ⟨_, rfl⟩
  have s1 : w1.heap.size = w.heap.size + 1 := by rw [← hw1]; simp
  rw [hw1]
  have h1 : (w1.alloc (.cells (madeCells #[.int .i64 0] 20) 3)).rowIs w1.heap.size 3 20 (fun _ => .int .i64 0) := World.rowIs_made w1 _ 20 _
  obtain ⟨w2, hw2⟩ : ∃ w2, w1.alloc (.cells (madeCells #[.int .i64 0] 20) 3) = w2 := ⟨_, rfl⟩
  have s2 : w2.heap.size = w.heap.size + 1 + 1 := by rw [← hw2]; simp [s1]
  rw [hw2] at h1 ⊢
  have h2 : (w2.alloc (.cells #[.int .i64 (-1), .int .i64 (-1), .int .i64 (-1), .int .i64 (-1), .int .i64 (-1)] 3)).rowIs w2.heap.size 3 5 (fun _ => .int .i64 (-1)) := by
    refine World.rowIs_alloc w2 #[.int .i64 (-1), .int .i64 (-1), .int .i64 (-1), .int .i64 (-1), .int .i64 (-1)] _ _ (fun i hi => ?_)
    have hi' : i < 5 := hi
    rcases i with _ | _ | _ | _ | _ | i
    · rfl
    · rfl
    · rfl
    · rfl
    · rfl
    · omega
  have h3 := World.rowIs.alloc h1 (.cells #[.int .i64 (-1), .int .i64 (-1), .int .i64 (-1), .int .i64 (-1), .int .i64 (-1)] 3)
  rw [s1] at h3
  rw [s2] at h2
  exact ⟨fun j hj => ⟨_, 0, rfl, h3.lt, Nat.le_succ _, by rw [Nat.zero_add]; exact h3.cell hj⟩, fun j hj => ⟨_, 0, rfl, h2.lt, by show w.heap.size ≤ w.heap.size + 1 + 1; omega, by rw [Nat.zero_add]; exact h2.cell hj⟩, ⟨fun _ => ⟨rfl, rfl⟩, ⟨Nat.le_refl _, Nat.zero_le _⟩, fun j hj => absurd hj (Nat.not_lt_zero _)⟩⟩
set_option maxRecDepth 100000 in
set_option maxHeartbeats 2000000 in
theorem rnewL_ok (w : World) :
    Calls Tryd.prog 18 #[] w fun e w' => ∃ v, e = .returned (rlV M.lk0 v) ∧ RL (fun j => w.heap.size ≤ j) M.lk0 v w' ∧ Below w.heap.size w w' := by
  have hmk1 := run_make_row' (P := Tryd.prog) 31 3 (.int .i64 0) 8 Tryd.underlying31 infoZT rfl .i64 .i64 20 (by omega) (by omega)
  rw [show ((20 : Nat) : Int) = 20 from rfl] at hmk1
  go_enter Tryd.func18, Tryd.ntmps18
  go_wp2_with fail
  exact bodyPost_ret (v := rlV M.lk0 ⟨some ⟨w.heap.size + 1, 0, none⟩, 20, some ⟨w.heap.size + 1 + 1, 0, none⟩, 5, none, 0⟩) (results_lk1 rfl _ _ w.heap.size M.lk0 ⟨some ⟨w.heap.size + 1, 0, none⟩, 20, some ⟨w.heap.size + 1 + 1, 0, none⟩, 5, none, 0⟩ rfl (World.rowIs.alloc (World.rowIs.alloc (lb_alloc w 20 5 0 0 ⟨some ⟨w.heap.size + 1, 0, none⟩, 20, some ⟨w.heap.size + 1 + 1, 0, none⟩, 5, none, 0⟩) _) _)) rfl ⟨_, rfl, newL_fin w _, bel_al (bel_al (bel_al (Below.refl _ _) _) _) _⟩
end Go.Proofs.YtcjodlgkmbmcgaaDoor
