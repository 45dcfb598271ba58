/- A deed at the document's own locks (whensteadref3.Lock), branch by branch; written by mk_refk3.py. -/
import Derived.Test.YtcjodlgkmbmcgaaDoorBRk
import Derived.Test.YtcjodlgkmbmcgaaDoorBRf
import Derived.StillTailTactics
import Derived.BigRegion
import Derived.Deep.CutRange
namespace Go.Proofs.YtcjodlgkmbmcgaaDoor
open Go.RowKit
theorem inK_true {z lo hi : Int} (h0 : lo ≤ z) (h1 : z ≤ hi) : inK z lo hi = true := decide_eq_true ⟨h0, h1⟩
theorem inK_false {z lo hi : Int} (h : ¬ (lo ≤ z ∧ z ≤ hi)) : inK z lo hi = false := decide_eq_false h
theorem ink_is (z lo hi : Int) (b : Bool) (w : World) (h : inK z lo hi = b) : Calls Tryd.prog 33 #[.int .i64 z, .int .i64 lo, .int .i64 hi] w fun e w' => e = .returned (.bool b) ∧ w = w' := h ▸ ink_ok z lo hi w

set_option maxRecDepth 100000 in
set_option maxHeartbeats 8000000 in
theorem rl_bad0 {G : Nat → Prop} {s : M.Lk} (v : LV) (k t o x : Int) (w : World) (hR : RL G s v w) (hG : ∀ j, w.heap.size ≤ j → G j) (h0 : ¬ (0 ≤ k ∧ k ≤ 3)) :
    Calls Tryd.prog 19 #[rlV s v, dV k t o x] w fun e w' => ∃ v', e = .returned (.tuple #[rlV s v', .int .i64 ((1 : Nat) : Int)]) ∧ RL G s v' w' ∧ Below w.heap.size w w' := by
  have hKS := ks_begin (d := ⟨k, t, o, x⟩) hR hG
  obtain ⟨N, hN⟩ : ∃ N, w.heap.size = N := ⟨_, rfl⟩
  obtain ⟨G', hG'⟩ : ∃ G' : Nat → Prop, (fun j => G j ∧ j ≠ w.heap.size ∧ j ≠ w.heap.size + 1 ∧ j ≠ w.heap.size + 2) = G' := ⟨_, rfl⟩
  have HGG : Hid (∀ j, G' j → G j) := by rw [← hG']; exact fun j hj => hj.1
  rw [hG', hN] at hKS
  rw [hN]
  obtain ⟨ph, ch, pw, cw, pa, ca⟩ := v
  simp only at hKS
  obtain ⟨w2, hw2⟩ : ∃ w2, ((w.alloc (.cells #[.slice ph 20 ch, .slice pw 5 cw, .int .i64 (M.frS s : Nat), .slice pa s.ac.length ca] 46)).alloc (.cells #[.int .i64 k, .int .i64 t, .int .i64 o, .int .i64 x] 30)).alloc (.cells #[.slice none 0 0, .slice none 0 0, .int .i64 0, .slice none 0 0] 46) = w2 := ⟨_, rfl⟩
  rw [hw2] at hKS
  have HS : Hid (KS N G' ⟨k, t, o, x⟩ s ⟨ph, ch, pw, cw, pa, ca⟩ w w2) := hKS
  have l0 := hKS.lb.c0
  have l1 := hKS.lb.c1
  have l2 := hKS.lb.c2
  have l3 := hKS.lb.c3
  have f0 := hKS.lb.fz 0
  have f1 := hKS.lb.fz 1
  have f2 := hKS.lb.fz 2
  have f3 := hKS.lb.fz 3
  simp only at l0 l1 l3
  have d0 := hKS.db.c0
  have d1 := hKS.db.c1
  have d2 := hKS.db.c2
  have d3 := hKS.db.c3
  simp only [Nat.zero_add] at d0 d1 d2 d3
  have z0 := hKS.zb.c0
  have z1 := hKS.zb.c1
  have z2 := hKS.zb.c2
  have z3 := hKS.zb.c3
  have j0 := hKS.zb.fz 0
  have j1 := hKS.zb.fz 1
  have j2 := hKS.zb.fz 2
  have j3 := hKS.zb.fz 3
  have sz := hKS.sz
  clear hKS hR hG hG'
  have a0 := fun w' => ink_is k 0 3 false w' (inK_false h0)
  clear h0
  go_enter Tryd.func19, Tryd.ntmps19
  go_wp2_with fail
  refine (a0 _).mono ?_
  rintro e w' ⟨rfl, rfl⟩
  obtain ⟨F1, F2, F3⟩ := HS.out.ret HGG.out
  have HF : Hid _ := F1
  have HF2 : Hid _ := F2
  have HF3 : Hid _ := F3
  clear F1 F2 F3
  go_wp2_with fail
  refine bodyPost_ret (v := .tuple #[rlV s ⟨ph, ch, pw, cw, pa, ca⟩, .int .i64 ((1 : Nat) : Int)]) (results_lk rfl _ _ (N + 2) s ⟨ph, ch, pw, cw, pa, ca⟩ ((1 : Nat) : Int) rfl rfl HF.out) rfl ⟨_, rfl, HF2.out, HF3.out⟩

set_option maxRecDepth 100000 in
set_option maxHeartbeats 8000000 in
theorem rl_bad1 {G : Nat → Prop} {s : M.Lk} (v : LV) (k t o x : Int) (w : World) (hR : RL G s v w) (hG : ∀ j, w.heap.size ≤ j → G j) (h0 : 0 ≤ k ∧ k ≤ 3) (h1 : ¬ (0 ≤ t ∧ t ≤ 4)) :
    Calls Tryd.prog 19 #[rlV s v, dV k t o x] w fun e w' => ∃ v', e = .returned (.tuple #[rlV s v', .int .i64 ((1 : Nat) : Int)]) ∧ RL G s v' w' ∧ Below w.heap.size w w' := by
  have hKS := ks_begin (d := ⟨k, t, o, x⟩) hR hG
  obtain ⟨N, hN⟩ : ∃ N, w.heap.size = N := ⟨_, rfl⟩
  obtain ⟨G', hG'⟩ : ∃ G' : Nat → Prop, (fun j => G j ∧ j ≠ w.heap.size ∧ j ≠ w.heap.size + 1 ∧ j ≠ w.heap.size + 2) = G' := ⟨_, rfl⟩
  have HGG : Hid (∀ j, G' j → G j) := by rw [← hG']; exact fun j hj => hj.1
  rw [hG', hN] at hKS
  rw [hN]
  obtain ⟨ph, ch, pw, cw, pa, ca⟩ := v
  simp only at hKS
  obtain ⟨w2, hw2⟩ : ∃ w2, ((w.alloc (.cells #[.slice ph 20 ch, .slice pw 5 cw, .int .i64 (M.frS s : Nat), .slice pa s.ac.length ca] 46)).alloc (.cells #[.int .i64 k, .int .i64 t, .int .i64 o, .int .i64 x] 30)).alloc (.cells #[.slice none 0 0, .slice none 0 0, .int .i64 0, .slice none 0 0] 46) = w2 := ⟨_, rfl⟩
  rw [hw2] at hKS
  have HS : Hid (KS N G' ⟨k, t, o, x⟩ s ⟨ph, ch, pw, cw, pa, ca⟩ w w2) := hKS
  have l0 := hKS.lb.c0
  have l1 := hKS.lb.c1
  have l2 := hKS.lb.c2
  have l3 := hKS.lb.c3
  have f0 := hKS.lb.fz 0
  have f1 := hKS.lb.fz 1
  have f2 := hKS.lb.fz 2
  have f3 := hKS.lb.fz 3
  simp only at l0 l1 l3
  have d0 := hKS.db.c0
  have d1 := hKS.db.c1
  have d2 := hKS.db.c2
  have d3 := hKS.db.c3
  simp only [Nat.zero_add] at d0 d1 d2 d3
  have z0 := hKS.zb.c0
  have z1 := hKS.zb.c1
  have z2 := hKS.zb.c2
  have z3 := hKS.zb.c3
  have j0 := hKS.zb.fz 0
  have j1 := hKS.zb.fz 1
  have j2 := hKS.zb.fz 2
  have j3 := hKS.zb.fz 3
  have sz := hKS.sz
  clear hKS hR hG hG'
  have a0 := fun w' => ink_is k 0 3 true w' (inK_true h0.1 h0.2)
  have a1 := fun w' => ink_is t 0 4 false w' (inK_false h1)
  clear h0 h1
  go_enter Tryd.func19, Tryd.ntmps19
  go_wp2_with fail
  refine (a0 _).mono ?_
  rintro e w' ⟨rfl, rfl⟩
  go_wp2_with fail
  refine (a1 _).mono ?_
  rintro e w' ⟨rfl, rfl⟩
  obtain ⟨F1, F2, F3⟩ := HS.out.ret HGG.out
  have HF : Hid _ := F1
  have HF2 : Hid _ := F2
  have HF3 : Hid _ := F3
  clear F1 F2 F3
  go_wp2_with fail
  refine bodyPost_ret (v := .tuple #[rlV s ⟨ph, ch, pw, cw, pa, ca⟩, .int .i64 ((1 : Nat) : Int)]) (results_lk rfl _ _ (N + 2) s ⟨ph, ch, pw, cw, pa, ca⟩ ((1 : Nat) : Int) rfl rfl HF.out) rfl ⟨_, rfl, HF2.out, HF3.out⟩

set_option maxRecDepth 100000 in
set_option maxHeartbeats 8000000 in
theorem rl_bad2 {G : Nat → Prop} {s : M.Lk} (v : LV) (k t o x : Int) (w : World) (hR : RL G s v w) (hG : ∀ j, w.heap.size ≤ j → G j) (h0 : 0 ≤ k ∧ k ≤ 3) (h1 : 0 ≤ t ∧ t ≤ 4) (h2 : ¬ (0 ≤ o ∧ o ≤ 3)) :
    Calls Tryd.prog 19 #[rlV s v, dV k t o x] w fun e w' => ∃ v', e = .returned (.tuple #[rlV s v', .int .i64 ((1 : Nat) : Int)]) ∧ RL G s v' w' ∧ Below w.heap.size w w' := by
  have hKS := ks_begin (d := ⟨k, t, o, x⟩) hR hG
  obtain ⟨N, hN⟩ : ∃ N, w.heap.size = N := ⟨_, rfl⟩
  obtain ⟨G', hG'⟩ : ∃ G' : Nat → Prop, (fun j => G j ∧ j ≠ w.heap.size ∧ j ≠ w.heap.size + 1 ∧ j ≠ w.heap.size + 2) = G' := ⟨_, rfl⟩
  have HGG : Hid (∀ j, G' j → G j) := by rw [← hG']; exact fun j hj => hj.1
  rw [hG', hN] at hKS
  rw [hN]
  obtain ⟨ph, ch, pw, cw, pa, ca⟩ := v
  simp only at hKS
  obtain ⟨w2, hw2⟩ : ∃ w2, ((w.alloc (.cells #[.slice ph 20 ch, .slice pw 5 cw, .int .i64 (M.frS s : Nat), .slice pa s.ac.length ca] 46)).alloc (.cells #[.int .i64 k, .int .i64 t, .int .i64 o, .int .i64 x] 30)).alloc (.cells #[.slice none 0 0, .slice none 0 0, .int .i64 0, .slice none 0 0] 46) = w2 := ⟨_, rfl⟩
  rw [hw2] at hKS
  have HS : Hid (KS N G' ⟨k, t, o, x⟩ s ⟨ph, ch, pw, cw, pa, ca⟩ w w2) := hKS
  have l0 := hKS.lb.c0
  have l1 := hKS.lb.c1
  have l2 := hKS.lb.c2
  have l3 := hKS.lb.c3
  have f0 := hKS.lb.fz 0
  have f1 := hKS.lb.fz 1
  have f2 := hKS.lb.fz 2
  have f3 := hKS.lb.fz 3
  simp only at l0 l1 l3
  have d0 := hKS.db.c0
  have d1 := hKS.db.c1
  have d2 := hKS.db.c2
  have d3 := hKS.db.c3
  simp only [Nat.zero_add] at d0 d1 d2 d3
  have z0 := hKS.zb.c0
  have z1 := hKS.zb.c1
  have z2 := hKS.zb.c2
  have z3 := hKS.zb.c3
  have j0 := hKS.zb.fz 0
  have j1 := hKS.zb.fz 1
  have j2 := hKS.zb.fz 2
  have j3 := hKS.zb.fz 3
  have sz := hKS.sz
  clear hKS hR hG hG'
  have a0 := fun w' => ink_is k 0 3 true w' (inK_true h0.1 h0.2)
  have a1 := fun w' => ink_is t 0 4 true w' (inK_true h1.1 h1.2)
  have a2 := fun w' => ink_is o 0 3 false w' (inK_false h2)
  clear h0 h1 h2
  go_enter Tryd.func19, Tryd.ntmps19
  go_wp2_with fail
  refine (a0 _).mono ?_
  rintro e w' ⟨rfl, rfl⟩
  go_wp2_with fail
  refine (a1 _).mono ?_
  rintro e w' ⟨rfl, rfl⟩
  go_wp2_with fail
  refine (a2 _).mono ?_
  rintro e w' ⟨rfl, rfl⟩
  obtain ⟨F1, F2, F3⟩ := HS.out.ret HGG.out
  have HF : Hid _ := F1
  have HF2 : Hid _ := F2
  have HF3 : Hid _ := F3
  clear F1 F2 F3
  go_wp2_with fail
  refine bodyPost_ret (v := .tuple #[rlV s ⟨ph, ch, pw, cw, pa, ca⟩, .int .i64 ((1 : Nat) : Int)]) (results_lk rfl _ _ (N + 2) s ⟨ph, ch, pw, cw, pa, ca⟩ ((1 : Nat) : Int) rfl rfl HF.out) rfl ⟨_, rfl, HF2.out, HF3.out⟩

set_option maxRecDepth 100000 in
set_option maxHeartbeats 8000000 in
theorem rl_bad3 {G : Nat → Prop} {s : M.Lk} (v : LV) (k t o x : Int) (w : World) (hR : RL G s v w) (hG : ∀ j, w.heap.size ≤ j → G j) (h0 : 0 ≤ k ∧ k ≤ 3) (h1 : 0 ≤ t ∧ t ≤ 4) (h2 : 0 ≤ o ∧ o ≤ 3) (hk : k = 3) (h3 : ¬ (0 ≤ x ∧ x ≤ 1)) :
    Calls Tryd.prog 19 #[rlV s v, dV k t o x] w fun e w' => ∃ v', e = .returned (.tuple #[rlV s v', .int .i64 ((1 : Nat) : Int)]) ∧ RL G s v' w' ∧ Below w.heap.size w w' := by
  have hKS := ks_begin (d := ⟨k, t, o, x⟩) hR hG
  obtain ⟨N, hN⟩ : ∃ N, w.heap.size = N := ⟨_, rfl⟩
  obtain ⟨G', hG'⟩ : ∃ G' : Nat → Prop, (fun j => G j ∧ j ≠ w.heap.size ∧ j ≠ w.heap.size + 1 ∧ j ≠ w.heap.size + 2) = G' := ⟨_, rfl⟩
  have HGG : Hid (∀ j, G' j → G j) := by rw [← hG']; exact fun j hj => hj.1
  rw [hG', hN] at hKS
  rw [hN]
  obtain ⟨ph, ch, pw, cw, pa, ca⟩ := v
  simp only at hKS
  obtain ⟨w2, hw2⟩ : ∃ w2, ((w.alloc (.cells #[.slice ph 20 ch, .slice pw 5 cw, .int .i64 (M.frS s : Nat), .slice pa s.ac.length ca] 46)).alloc (.cells #[.int .i64 k, .int .i64 t, .int .i64 o, .int .i64 x] 30)).alloc (.cells #[.slice none 0 0, .slice none 0 0, .int .i64 0, .slice none 0 0] 46) = w2 := ⟨_, rfl⟩
  rw [hw2] at hKS
  have HS : Hid (KS N G' ⟨k, t, o, x⟩ s ⟨ph, ch, pw, cw, pa, ca⟩ w w2) := hKS
  have l0 := hKS.lb.c0
  have l1 := hKS.lb.c1
  have l2 := hKS.lb.c2
  have l3 := hKS.lb.c3
  have f0 := hKS.lb.fz 0
  have f1 := hKS.lb.fz 1
  have f2 := hKS.lb.fz 2
  have f3 := hKS.lb.fz 3
  simp only at l0 l1 l3
  have d0 := hKS.db.c0
  have d1 := hKS.db.c1
  have d2 := hKS.db.c2
  have d3 := hKS.db.c3
  simp only [Nat.zero_add] at d0 d1 d2 d3
  have z0 := hKS.zb.c0
  have z1 := hKS.zb.c1
  have z2 := hKS.zb.c2
  have z3 := hKS.zb.c3
  have j0 := hKS.zb.fz 0
  have j1 := hKS.zb.fz 1
  have j2 := hKS.zb.fz 2
  have j3 := hKS.zb.fz 3
  have sz := hKS.sz
  clear hKS hR hG hG'
  have a0 := fun w' => ink_is k 0 3 true w' (inK_true h0.1 h0.2)
  have a1 := fun w' => ink_is t 0 4 true w' (inK_true h1.1 h1.2)
  have a2 := fun w' => ink_is o 0 3 true w' (inK_true h2.1 h2.2)
  have a3 := fun w' => ink_is x 0 1 false w' (inK_false h3)
  subst hk
  clear h0 h1 h2 h3
  go_enter Tryd.func19, Tryd.ntmps19
  go_wp2_with fail
  refine (a0 _).mono ?_
  rintro e w' ⟨rfl, rfl⟩
  go_wp2_with fail
  refine (a1 _).mono ?_
  rintro e w' ⟨rfl, rfl⟩
  go_wp2_with fail
  refine (a2 _).mono ?_
  rintro e w' ⟨rfl, rfl⟩
  go_wp2_with fail
  refine (a3 _).mono ?_
  rintro e w' ⟨rfl, rfl⟩
  obtain ⟨F1, F2, F3⟩ := HS.out.ret HGG.out
  have HF : Hid _ := F1
  have HF2 : Hid _ := F2
  have HF3 : Hid _ := F3
  clear F1 F2 F3
  go_wp2_with fail
  refine bodyPost_ret (v := .tuple #[rlV s ⟨ph, ch, pw, cw, pa, ca⟩, .int .i64 ((1 : Nat) : Int)]) (results_lk rfl _ _ (N + 2) s ⟨ph, ch, pw, cw, pa, ca⟩ ((1 : Nat) : Int) rfl rfl HF.out) rfl ⟨_, rfl, HF2.out, HF3.out⟩

set_option maxRecDepth 100000 in
set_option maxHeartbeats 8000000 in
theorem rl_state0 {G : Nat → Prop} {s : M.Lk} (v : LV) (t o : Nat) (x : Int) (w : World) (hR : RL G s v w) (hG : ∀ j, w.heap.size ≤ j → G j) (hS : M.LG s) (ht : t < 5) (ho : o < 4) (hf : t ∈ s.fo) :
    Calls Tryd.prog 19 #[rlV s v, dV 0 (t : Nat) (o : Nat) x] w fun e w' => ∃ v', e = .returned (.tuple #[rlV s v', .int .i64 ((7 : Nat) : Int)]) ∧ RL G s v' w' ∧ Below w.heap.size w w' := by
  have hKS := ks_begin (d := ⟨0, (t : Nat), (o : Nat), x⟩) hR hG
  obtain ⟨N, hN⟩ : ∃ N, w.heap.size = N := ⟨_, rfl⟩
  obtain ⟨G', hG'⟩ : ∃ G' : Nat → Prop, (fun j => G j ∧ j ≠ w.heap.size ∧ j ≠ w.heap.size + 1 ∧ j ≠ w.heap.size + 2) = G' := ⟨_, rfl⟩
  have HGG : Hid (∀ j, G' j → G j) := by rw [← hG']; exact fun j hj => hj.1
  rw [hG', hN] at hKS
  rw [hN]
  obtain ⟨ph, ch, pw, cw, pa, ca⟩ := v
  simp only at hKS
  obtain ⟨w2, hw2⟩ : ∃ w2, ((w.alloc (.cells #[.slice ph 20 ch, .slice pw 5 cw, .int .i64 (M.frS s : Nat), .slice pa s.ac.length ca] 46)).alloc (.cells #[.int .i64 0, .int .i64 (t : Nat), .int .i64 (o : Nat), .int .i64 x] 30)).alloc (.cells #[.slice none 0 0, .slice none 0 0, .int .i64 0, .slice none 0 0] 46) = w2 := ⟨_, rfl⟩
  rw [hw2] at hKS
  have HS : Hid (KS N G' ⟨0, (t : Nat), (o : Nat), x⟩ s ⟨ph, ch, pw, cw, pa, ca⟩ w w2) := hKS
  have l0 := hKS.lb.c0
  have l1 := hKS.lb.c1
  have l2 := hKS.lb.c2
  have l3 := hKS.lb.c3
  have f0 := hKS.lb.fz 0
  have f1 := hKS.lb.fz 1
  have f2 := hKS.lb.fz 2
  have f3 := hKS.lb.fz 3
  simp only at l0 l1 l3
  have d0 := hKS.db.c0
  have d1 := hKS.db.c1
  have d2 := hKS.db.c2
  have d3 := hKS.db.c3
  simp only [Nat.zero_add] at d0 d1 d2 d3
  have z0 := hKS.zb.c0
  have z1 := hKS.zb.c1
  have z2 := hKS.zb.c2
  have z3 := hKS.zb.c3
  have j0 := hKS.zb.fz 0
  have j1 := hKS.zb.fz 1
  have j2 := hKS.zb.fz 2
  have j3 := hKS.zb.fz 3
  have sz := hKS.sz
  clear hKS hR hG hG'
  have a0 := fun w' => ink_is 0 0 3 true w' (inK_true (by omega) (by omega))
  have a1 := fun w' => ink_is (t : Nat) 0 4 true w' (inK_true (by omega) (by omega))
  have a2 := fun w' => ink_is (o : Nat) 0 3 true w' (inK_true (by omega) (by omega))
  obtain ⟨g4, hg4⟩ : ∃ g, t * 4 = g := ⟨_, rfl⟩
  obtain ⟨g, hg⟩ : ∃ g, g4 + o = g := ⟨_, rfl⟩
  have i1 : (t : Int) * 4 = (g4 : Int) := by omega
  have i2 : (g4 : Int) + (o : Int) = (g : Int) := by omega
  have hg20 : g < 20 := by omega
  have hgi : (g : Int) < 20 := by omega
  have hti : (t : Int) < 5 := by omega
  obtain ⟨bh, oh, e1, hbh, _, hch⟩ := HS.out.rl.ho.at_ (by omega)
  simp only at e1
  subst e1
  have hcg := hch g hg20
  rw [show g / 4 = t by omega, show g % 4 = o by omega] at hcg
  have h3 : s.hd t o ≤ 3 := hS.li.le t o
  have HGT : Hid (g / 4 = t ∧ g % 4 = o ∧ t * 4 + o = g) := ⟨by omega, by omega, by omega⟩
  obtain ⟨h, hh⟩ : ∃ h, s.hd t o = h := ⟨_, rfl⟩
  rw [hh] at hcg h3
  have hfr := fun w' => bit_any (M.frS s) t w' (by have := M.frS_lt s; omega) (by omega)
  rw [M.fr_has s ht, decide_eq_true hf] at hfr
  clear hf hS hh
  clear hg hg4 hch
  go_enter Tryd.func19, Tryd.ntmps19
  go_wp2_with fail
  refine (a0 _).mono ?_
  rintro e w' ⟨rfl, rfl⟩
  go_wp2_with fail
  refine (a1 _).mono ?_
  rintro e w' ⟨rfl, rfl⟩
  go_wp2_with fail
  refine (a2 _).mono ?_
  rintro e w' ⟨rfl, rfl⟩
  go_wp2_with fail
  refine (hfr _).mono ?_
  rintro e w' ⟨rfl, rfl⟩
  obtain ⟨F1, F2, F3⟩ := HS.out.ret HGG.out
  have HF : Hid _ := F1
  have HF2 : Hid _ := F2
  have HF3 : Hid _ := F3
  clear F1 F2 F3
  go_wp2_with fail
  refine bodyPost_ret (v := .tuple #[rlV s ⟨some ⟨bh, oh, none⟩, ch, pw, cw, pa, ca⟩, .int .i64 ((7 : Nat) : Int)]) (results_lk rfl _ _ (N + 2) s ⟨some ⟨bh, oh, none⟩, ch, pw, cw, pa, ca⟩ ((7 : Nat) : Int) rfl rfl HF.out) rfl ⟨_, rfl, HF2.out, HF3.out⟩

set_option maxRecDepth 100000 in
set_option maxHeartbeats 8000000 in
theorem rl_wait0 {G : Nat → Prop} {s : M.Lk} (v : LV) (t o : Nat) (x : Int) (w : World) (hR : RL G s v w) (hG : ∀ j, w.heap.size ≤ j → G j) (hS : M.LG s) (ht : t < 5) (ho : o < 4) (hf : t ∉ s.fo) (ha : M.agS s t o 0 ≠ 0) :
    Calls Tryd.prog 19 #[rlV s v, dV 0 (t : Nat) (o : Nat) x] w fun e w' => ∃ v', e = .returned (.tuple #[rlV (M.sWait s t o 0) v', .int .i64 ((6 : Nat) : Int)]) ∧ RL G (M.sWait s t o 0) v' w' ∧ Below w.heap.size w w' := by
  have hKS := ks_begin (d := ⟨0, (t : Nat), (o : Nat), x⟩) hR hG
  obtain ⟨N, hN⟩ : ∃ N, w.heap.size = N := ⟨_, rfl⟩
  obtain ⟨G', hG'⟩ : ∃ G' : Nat → Prop, (fun j => G j ∧ j ≠ w.heap.size ∧ j ≠ w.heap.size + 1 ∧ j ≠ w.heap.size + 2) = G' := ⟨_, rfl⟩
  have HGG : Hid (∀ j, G' j → G j) := by rw [← hG']; exact fun j hj => hj.1
  rw [hG', hN] at hKS
  rw [hN]
  obtain ⟨ph, ch, pw, cw, pa, ca⟩ := v
  simp only at hKS
  obtain ⟨w2, hw2⟩ : ∃ w2, ((w.alloc (.cells #[.slice ph 20 ch, .slice pw 5 cw, .int .i64 (M.frS s : Nat), .slice pa s.ac.length ca] 46)).alloc (.cells #[.int .i64 0, .int .i64 (t : Nat), .int .i64 (o : Nat), .int .i64 x] 30)).alloc (.cells #[.slice none 0 0, .slice none 0 0, .int .i64 0, .slice none 0 0] 46) = w2 := ⟨_, rfl⟩
  rw [hw2] at hKS
  have HS : Hid (KS N G' ⟨0, (t : Nat), (o : Nat), x⟩ s ⟨ph, ch, pw, cw, pa, ca⟩ w w2) := hKS
  have l0 := hKS.lb.c0
  have l1 := hKS.lb.c1
  have l2 := hKS.lb.c2
  have l3 := hKS.lb.c3
  have f0 := hKS.lb.fz 0
  have f1 := hKS.lb.fz 1
  have f2 := hKS.lb.fz 2
  have f3 := hKS.lb.fz 3
  simp only at l0 l1 l3
  have d0 := hKS.db.c0
  have d1 := hKS.db.c1
  have d2 := hKS.db.c2
  have d3 := hKS.db.c3
  simp only [Nat.zero_add] at d0 d1 d2 d3
  have z0 := hKS.zb.c0
  have z1 := hKS.zb.c1
  have z2 := hKS.zb.c2
  have z3 := hKS.zb.c3
  have j0 := hKS.zb.fz 0
  have j1 := hKS.zb.fz 1
  have j2 := hKS.zb.fz 2
  have j3 := hKS.zb.fz 3
  have sz := hKS.sz
  clear hKS hR hG hG'
  have a0 := fun w' => ink_is 0 0 3 true w' (inK_true (by omega) (by omega))
  have a1 := fun w' => ink_is (t : Nat) 0 4 true w' (inK_true (by omega) (by omega))
  have a2 := fun w' => ink_is (o : Nat) 0 3 true w' (inK_true (by omega) (by omega))
  obtain ⟨g4, hg4⟩ : ∃ g, t * 4 = g := ⟨_, rfl⟩
  obtain ⟨g, hg⟩ : ∃ g, g4 + o = g := ⟨_, rfl⟩
  have i1 : (t : Int) * 4 = (g4 : Int) := by omega
  have i2 : (g4 : Int) + (o : Int) = (g : Int) := by omega
  have hg20 : g < 20 := by omega
  have hgi : (g : Int) < 20 := by omega
  have hti : (t : Int) < 5 := by omega
  obtain ⟨bh, oh, e1, hbh, _, hch⟩ := HS.out.rl.ho.at_ (by omega)
  simp only at e1
  subst e1
  have hcg := hch g hg20
  rw [show g / 4 = t by omega, show g % 4 = o by omega] at hcg
  have h3 : s.hd t o ≤ 3 := hS.li.le t o
  have HGT : Hid (g / 4 = t ∧ g % 4 = o ∧ t * 4 + o = g) := ⟨by omega, by omega, by omega⟩
  obtain ⟨h, hh⟩ : ∃ h, s.hd t o = h := ⟨_, rfl⟩
  rw [hh] at hcg h3
  have hfr := fun w' => bit_any (M.frS s) t w' (by have := M.frS_lt s; omega) (by omega)
  rw [M.fr_has s ht, decide_eq_false hf] at hfr
  have hag := fun w' (hb : Below w2.heap.size w2 w') => ragainst_ok (G := G') (s := s) (M.frS s : Nat) t o 0 pa s.ac.length ca ch cw (some ⟨bh, oh, none⟩) pw w' (HS.out.later hb).rl.ho (by omega) ho
  rw [show ((0 : Nat) == 1) = false from rfl] at hag
  obtain ⟨r, hr⟩ : ∃ r, M.agS s t o 0 = r := ⟨_, rfl⟩
  rw [hr] at hag ha
  have hrb : ((r : Int) != 0) = true := by simpa using ha
  have hrq : ((r : Int) == 0) = false := by simpa using ha
  obtain ⟨y2, hy2⟩ : ∃ y, o * 2 = y := ⟨_, rfl⟩
  obtain ⟨y, hy⟩ : ∃ y, y2 + 0 = y := ⟨_, rfl⟩
  have i3 : (o : Int) * 2 = (y2 : Int) := by omega
  have i4 : (y2 : Int) + 0 = (y : Int) := by omega
  have HY : Hid (o * 2 + 0 = y) := (by omega : o * 2 + 0 = y)
  clear hf ha hS hh hr hy hy2
  clear hg hg4 hch
  go_enter Tryd.func19, Tryd.ntmps19
  go_wp2_with fail
  refine (a0 _).mono ?_
  rintro e w' ⟨rfl, rfl⟩
  go_wp2_with fail
  refine (a1 _).mono ?_
  rintro e w' ⟨rfl, rfl⟩
  go_wp2_with fail
  refine (a2 _).mono ?_
  rintro e w' ⟨rfl, rfl⟩
  go_wp2_with fail
  refine (hfr _).mono ?_
  rintro e w' ⟨rfl, rfl⟩
  go_wp2_with fail
  refine (hag _ (Below.refl _ _)).mono ?_
  rintro e w3 ⟨rfl, hB3⟩
  have HS3 : Hid (KS N G' ⟨0, (t : Nat), (o : Nat), x⟩ s ⟨some ⟨bh, oh, none⟩, ch, pw, cw, pa, ca⟩ w w3) := HS.out.later hB3
  have l0 := HS3.out.lb.c0
  have l1 := HS3.out.lb.c1
  have l2 := HS3.out.lb.c2
  have l3 := HS3.out.lb.c3
  have f0 := HS3.out.lb.fz 0
  have f1 := HS3.out.lb.fz 1
  have f2 := HS3.out.lb.fz 2
  have f3 := HS3.out.lb.fz 3
  simp only at l0 l1 l3
  have d0 := HS3.out.db.c0
  have d1 := HS3.out.db.c1
  have d2 := HS3.out.db.c2
  have d3 := HS3.out.db.c3
  simp only [Nat.zero_add] at d0 d1 d2 d3
  have z0 := HS3.out.zb.c0
  have z1 := HS3.out.zb.c1
  have z2 := HS3.out.zb.c2
  have z3 := HS3.out.zb.c3
  have j0 := HS3.out.zb.fz 0
  have j1 := HS3.out.zb.fz 1
  have j2 := HS3.out.zb.fz 2
  have j3 := HS3.out.zb.fz 3
  have sz := HS3.out.sz
  obtain ⟨bw, ow, e1, hbw, _, hcw⟩ := HS3.out.rl.wa.at_ (by omega)
  simp only at e1
  subst e1
  have hput := fun w' (hb : Below w3.heap.size w3 w') => put_ok (G := G') (fun t => (s.wa t : Int) - 1) 5 t (y : Nat) (some ⟨bw, ow, none⟩) cw w' (by omega) ht (HS3.out.later hb).rl.wa
  clear hcw hag hB3
  go_wp2_with fail
  refine (hput _ (Below.refl _ _)).mono ?_
  rintro e w4 ⟨p', c', rfl, _, _, hF, hB4⟩
  have HS4 : Hid (KS N G' ⟨0, (t : Nat), (o : Nat), x⟩ (M.sWait s t o 0) ⟨some ⟨bh, oh, none⟩, ch, p', c', pa, ca⟩ w (w4.setCell ⟨N, 1, none⟩ (.slice p' 5 c'))) :=
    HS3.out.setW (s' := M.sWait s t o 0) hB4 c' rfl rfl rfl ((hF.mono (fun j _ hj => HS3.out.fr j (by have := HS3.out.sz; omega))).congr (fun j _ => by
      show Value.int .i64 (M.upd1 (fun t => (s.wa t : Int) - 1) t (y : Nat) j) = .int .i64 (((M.up1 s.wa t (o * 2 + 0 + 1) j : Nat) : Int) - 1)
      rw [HY.out]
      unfold M.upd1 M.up1
      by_cases e : j = t
      · rw [if_pos e, if_pos e]; simp
      · rw [if_neg e, if_neg e]))
  have q1 := (HS3.out.later hB4).lb.c1
  have q2 := (HS3.out.later hB4).lb.fz 1
  simp only at q1
  obtain ⟨wz, hwz⟩ : ∃ wz, w4.setCell ⟨N, 1, none⟩ (.slice p' 5 c') = wz := ⟨_, rfl⟩
  rw [hwz] at HS4
  clear l0 l1 l2 l3 f0 f1 f2 f3 d0 d1 d2 d3 z0 z1 z2 z3 j0 j1 j2 j3 hput hF hB4 hbw hbh hcg
  have l0 := HS4.out.lb.c0
  have l1 := HS4.out.lb.c1
  have l2 := HS4.out.lb.c2
  have l3 := HS4.out.lb.c3
  have f0 := HS4.out.lb.fz 0
  have f1 := HS4.out.lb.fz 1
  have f2 := HS4.out.lb.fz 2
  have f3 := HS4.out.lb.fz 3
  simp only at l0 l1 l3
  have d0 := HS4.out.db.c0
  have d1 := HS4.out.db.c1
  have d2 := HS4.out.db.c2
  have d3 := HS4.out.db.c3
  simp only [Nat.zero_add] at d0 d1 d2 d3
  have z0 := HS4.out.zb.c0
  have z1 := HS4.out.zb.c1
  have z2 := HS4.out.zb.c2
  have z3 := HS4.out.zb.c3
  have j0 := HS4.out.zb.fz 0
  have j1 := HS4.out.zb.fz 1
  have j2 := HS4.out.zb.fz 2
  have j3 := HS4.out.zb.fz 3
  have sz := HS4.out.sz
  obtain ⟨F1, F2, F3⟩ := HS4.out.ret HGG.out
  have HF : Hid _ := F1
  have HF2 : Hid _ := F2
  have HF3 : Hid _ := F3
  clear F1 F2 F3
  go_wp2_with fail
  refine bodyPost_ret (v := .tuple #[rlV (M.sWait s t o 0) ⟨some ⟨bh, oh, none⟩, ch, p', c', pa, ca⟩, .int .i64 ((6 : Nat) : Int)]) (results_lk rfl _ _ (N + 2) (M.sWait s t o 0) ⟨some ⟨bh, oh, none⟩, ch, p', c', pa, ca⟩ ((6 : Nat) : Int) rfl rfl HF.out) rfl ⟨_, rfl, HF2.out, HF3.out⟩

set_option maxRecDepth 100000 in
set_option maxHeartbeats 8000000 in
theorem rl_got0 {G : Nat → Prop} {s : M.Lk} (v : LV) (t o : Nat) (x : Int) (w : World) (hR : RL G s v w) (hG : ∀ j, w.heap.size ≤ j → G j) (hS : M.LG s) (ht : t < 5) (ho : o < 4) (hf : t ∉ s.fo) (ha : M.agS s t o 0 = 0) :
    Calls Tryd.prog 19 #[rlV s v, dV 0 (t : Nat) (o : Nat) x] w fun e w' => ∃ v', e = .returned (.tuple #[rlV (M.sGot s t o 0) v', .int .i64 ((0 : Nat) : Int)]) ∧ RL G (M.sGot s t o 0) v' w' ∧ Below w.heap.size w w' := by
  have hKS := ks_begin (d := ⟨0, (t : Nat), (o : Nat), x⟩) hR hG
  obtain ⟨N, hN⟩ : ∃ N, w.heap.size = N := ⟨_, rfl⟩
  obtain ⟨G', hG'⟩ : ∃ G' : Nat → Prop, (fun j => G j ∧ j ≠ w.heap.size ∧ j ≠ w.heap.size + 1 ∧ j ≠ w.heap.size + 2) = G' := ⟨_, rfl⟩
  have HGG : Hid (∀ j, G' j → G j) := by rw [← hG']; exact fun j hj => hj.1
  rw [hG', hN] at hKS
  rw [hN]
  obtain ⟨ph, ch, pw, cw, pa, ca⟩ := v
  simp only at hKS
  obtain ⟨w2, hw2⟩ : ∃ w2, ((w.alloc (.cells #[.slice ph 20 ch, .slice pw 5 cw, .int .i64 (M.frS s : Nat), .slice pa s.ac.length ca] 46)).alloc (.cells #[.int .i64 0, .int .i64 (t : Nat), .int .i64 (o : Nat), .int .i64 x] 30)).alloc (.cells #[.slice none 0 0, .slice none 0 0, .int .i64 0, .slice none 0 0] 46) = w2 := ⟨_, rfl⟩
  rw [hw2] at hKS
  have HS : Hid (KS N G' ⟨0, (t : Nat), (o : Nat), x⟩ s ⟨ph, ch, pw, cw, pa, ca⟩ w w2) := hKS
  have l0 := hKS.lb.c0
  have l1 := hKS.lb.c1
  have l2 := hKS.lb.c2
  have l3 := hKS.lb.c3
  have f0 := hKS.lb.fz 0
  have f1 := hKS.lb.fz 1
  have f2 := hKS.lb.fz 2
  have f3 := hKS.lb.fz 3
  simp only at l0 l1 l3
  have d0 := hKS.db.c0
  have d1 := hKS.db.c1
  have d2 := hKS.db.c2
  have d3 := hKS.db.c3
  simp only [Nat.zero_add] at d0 d1 d2 d3
  have z0 := hKS.zb.c0
  have z1 := hKS.zb.c1
  have z2 := hKS.zb.c2
  have z3 := hKS.zb.c3
  have j0 := hKS.zb.fz 0
  have j1 := hKS.zb.fz 1
  have j2 := hKS.zb.fz 2
  have j3 := hKS.zb.fz 3
  have sz := hKS.sz
  clear hKS hR hG hG'
  have a0 := fun w' => ink_is 0 0 3 true w' (inK_true (by omega) (by omega))
  have a1 := fun w' => ink_is (t : Nat) 0 4 true w' (inK_true (by omega) (by omega))
  have a2 := fun w' => ink_is (o : Nat) 0 3 true w' (inK_true (by omega) (by omega))
  obtain ⟨g4, hg4⟩ : ∃ g, t * 4 = g := ⟨_, rfl⟩
  obtain ⟨g, hg⟩ : ∃ g, g4 + o = g := ⟨_, rfl⟩
  have i1 : (t : Int) * 4 = (g4 : Int) := by omega
  have i2 : (g4 : Int) + (o : Int) = (g : Int) := by omega
  have hg20 : g < 20 := by omega
  have hgi : (g : Int) < 20 := by omega
  have hti : (t : Int) < 5 := by omega
  obtain ⟨bh, oh, e1, hbh, _, hch⟩ := HS.out.rl.ho.at_ (by omega)
  simp only at e1
  subst e1
  have hcg := hch g hg20
  rw [show g / 4 = t by omega, show g % 4 = o by omega] at hcg
  have h3 : s.hd t o ≤ 3 := hS.li.le t o
  have HGT : Hid (g / 4 = t ∧ g % 4 = o ∧ t * 4 + o = g) := ⟨by omega, by omega, by omega⟩
  obtain ⟨h, hh⟩ : ∃ h, s.hd t o = h := ⟨_, rfl⟩
  rw [hh] at hcg h3
  have hfr := fun w' => bit_any (M.frS s) t w' (by have := M.frS_lt s; omega) (by omega)
  rw [M.fr_has s ht, decide_eq_false hf] at hfr
  have hag := fun w' (hb : Below w2.heap.size w2 w') => ragainst_ok (G := G') (s := s) (M.frS s : Nat) t o 0 pa s.ac.length ca ch cw (some ⟨bh, oh, none⟩) pw w' (HS.out.later hb).rl.ho (by omega) ho
  rw [show ((0 : Nat) == 1) = false from rfl] at hag
  rw [ha] at hag
  have HH : Hid (s.hd t o = h) := hh
  clear hf ha hS hh
  clear hg hg4 hch
  go_enter Tryd.func19, Tryd.ntmps19
  go_wp2_with fail
  refine (a0 _).mono ?_
  rintro e w' ⟨rfl, rfl⟩
  go_wp2_with fail
  refine (a1 _).mono ?_
  rintro e w' ⟨rfl, rfl⟩
  go_wp2_with fail
  refine (a2 _).mono ?_
  rintro e w' ⟨rfl, rfl⟩
  go_wp2_with fail
  refine (hfr _).mono ?_
  rintro e w' ⟨rfl, rfl⟩
  go_wp2_with fail
  refine (hag _ (Below.refl _ _)).mono ?_
  rintro e w3 ⟨rfl, hB3⟩
  have HS3 : Hid (KS N G' ⟨0, (t : Nat), (o : Nat), x⟩ s ⟨some ⟨bh, oh, none⟩, ch, pw, cw, pa, ca⟩ w w3) := HS.out.later hB3
  have l0 := HS3.out.lb.c0
  have l1 := HS3.out.lb.c1
  have l2 := HS3.out.lb.c2
  have l3 := HS3.out.lb.c3
  have f0 := HS3.out.lb.fz 0
  have f1 := HS3.out.lb.fz 1
  have f2 := HS3.out.lb.fz 2
  have f3 := HS3.out.lb.fz 3
  simp only at l0 l1 l3
  have d0 := HS3.out.db.c0
  have d1 := HS3.out.db.c1
  have d2 := HS3.out.db.c2
  have d3 := HS3.out.db.c3
  simp only [Nat.zero_add] at d0 d1 d2 d3
  have z0 := HS3.out.zb.c0
  have z1 := HS3.out.zb.c1
  have z2 := HS3.out.zb.c2
  have z3 := HS3.out.zb.c3
  have j0 := HS3.out.zb.fz 0
  have j1 := HS3.out.zb.fz 1
  have j2 := HS3.out.zb.fz 2
  have j3 := HS3.out.zb.fz 3
  have sz := HS3.out.sz
  obtain ⟨bw, ow, e1, hbw, _, hcw⟩ := HS3.out.rl.wa.at_ (by omega)
  simp only at e1
  subst e1
  have hput := fun w' (hb : Below w3.heap.size w3 w') => put_ok (G := G') (fun t => (s.wa t : Int) - 1) 5 t (-1) (some ⟨bw, ow, none⟩) cw w' (by omega) ht (HS3.out.later hb).rl.wa
  clear hcw hag hB3
  go_wp2_with fail
  refine (hput _ (Below.refl _ _)).mono ?_
  rintro e w4 ⟨p', c', rfl, _, _, hF, hB4⟩
  have HS4 : Hid (KS N G' ⟨0, (t : Nat), (o : Nat), x⟩ (M.sIdle s t) ⟨some ⟨bh, oh, none⟩, ch, p', c', pa, ca⟩ w (w4.setCell ⟨N, 1, none⟩ (.slice p' 5 c'))) :=
    HS3.out.setW (s' := M.sIdle s t) hB4 c' rfl rfl rfl ((hF.mono (fun j _ hj => HS3.out.fr j (by have := HS3.out.sz; omega))).congr (fun j _ => by
      show Value.int .i64 (M.upd1 (fun t => (s.wa t : Int) - 1) t (-1) j) = .int .i64 (((M.up1 s.wa t 0 j : Nat) : Int) - 1)
      unfold M.upd1 M.up1
      by_cases e : j = t
      · rw [if_pos e, if_pos e]; rfl
      · rw [if_neg e, if_neg e]))
  have q1 := (HS3.out.later hB4).lb.c1
  have q2 := (HS3.out.later hB4).lb.fz 1
  simp only at q1
  obtain ⟨wz, hwz⟩ : ∃ wz, w4.setCell ⟨N, 1, none⟩ (.slice p' 5 c') = wz := ⟨_, rfl⟩
  rw [hwz] at HS4
  clear l0 l1 l2 l3 f0 f1 f2 f3 d0 d1 d2 d3 z0 z1 z2 z3 j0 j1 j2 j3 hput hF hB4 hbw hbh hcg
  have l0 := HS4.out.lb.c0
  have l1 := HS4.out.lb.c1
  have l2 := HS4.out.lb.c2
  have l3 := HS4.out.lb.c3
  have f0 := HS4.out.lb.fz 0
  have f1 := HS4.out.lb.fz 1
  have f2 := HS4.out.lb.fz 2
  have f3 := HS4.out.lb.fz 3
  simp only at l0 l1 l3
  have d0 := HS4.out.db.c0
  have d1 := HS4.out.db.c1
  have d2 := HS4.out.db.c2
  have d3 := HS4.out.db.c3
  simp only [Nat.zero_add] at d0 d1 d2 d3
  have z0 := HS4.out.zb.c0
  have z1 := HS4.out.zb.c1
  have z2 := HS4.out.zb.c2
  have z3 := HS4.out.zb.c3
  have j0 := HS4.out.zb.fz 0
  have j1 := HS4.out.zb.fz 1
  have j2 := HS4.out.zb.fz 2
  have j3 := HS4.out.zb.fz 3
  have sz := HS4.out.sz
  have hwith := fun w' => with_any h 0 w' (by omega) (by omega)
  obtain ⟨r, hr⟩ : ∃ r, h ||| 1 <<< 0 = r := ⟨_, rfl⟩
  rw [hr] at hwith
  have HR : Hid (M.wth (s.hd t o) 0 = r) := by show _ = _; rw [HH.out, ← hr]; rfl
  have hput := fun w' (hb : Below wz.heap.size wz w') => put_ok (G := G') (fun j => ((M.sIdle s t).hd (j / 4) (j % 4) : Int)) 20 g (r : Nat) (some ⟨bh, oh, none⟩) ch w' (by omega) hg20 (HS4.out.later hb).rl.ho
  have hmain : ∀ W', Below wz.heap.size wz W' → Calls Tryd.prog 35 #[.slice (some ⟨bh, oh, none⟩) 20 ch, .int .i64 (g : Nat), .int .i64 (r : Nat)] W' fun e w' => ∃ p2 c2, e = .returned (.slice p2 20 c2) ∧ Hid (KS N G' ⟨0, (t : Nat), (o : Nat), x⟩ (M.sGot s t o 0) ⟨p2, c2, p', c', pa, ca⟩ w (w'.setCell ⟨N, 0, none⟩ (.slice p2 20 c2))) ∧ w'.cell? ⟨N, 0, none⟩ = some (.slice (some ⟨bh, oh, none⟩) 20 ch) ∧ w'.frozen? ⟨N, 0, none⟩ = false := by
    intro W' hb
    refine (hput W' hb).mono ?_
    rintro e w5 ⟨p2, c2, rfl, _, _, hF, hB5⟩
    have hBB := bel_on hb hB5
    have hs5 := HS4.out.later hBB
    refine ⟨p2, c2, rfl, HS4.out.setH (s' := M.sGot s t o 0) hBB c2 rfl rfl rfl ((hF.mono (fun j _ hj => HS4.out.fr j (by have := HS4.out.sz; have := hb.size; omega))).congr (fun j _ => ?_)), hs5.lb.c0, hs5.lb.fz 0⟩
    show Value.int .i64 (M.upd1 (fun j => ((M.sIdle s t).hd (j / 4) (j % 4) : Int)) g (r : Nat) j) = .int .i64 ((M.up2 s.hd t o (M.wth (s.hd t o) 0) (j / 4) (j % 4) : Nat) : Int)
    rw [HR.out]
    have h8 := HGT.out
    unfold M.upd1 M.up2
    by_cases e : j = g
    · rw [if_pos e, if_pos ⟨by omega, by omega⟩]
    · rw [if_neg e, if_neg (fun c => e (by omega))]; rfl
  clear hput hr
  go_wp2_with fail
  go_cut [86] from 87 to 94 (fun u w' => ∃ p2 c2, Hid (KS N G' ⟨0, (t : Nat), (o : Nat), x⟩ (M.sGot s t o 0) ⟨p2, c2, p', c', pa, ca⟩ w w'))
  case first =>
    go_region_with (first | (go_at_call 36; refine (hwith _).mono ?_; rintro e w' ⟨rfl, rfl⟩) | (go_at_call 35; refine (hmain _ (by repeat first | exact Below.refl _ _ | apply Below.drew)).mono ?_; rintro e w5 ⟨p2, c2, rfl, HS5, y0, y1⟩))
    all_goals (go_wp2_with fail; go_meet)
    all_goals exact ⟨p2, c2, HS5⟩
  case rest =>
  obtain ⟨p2, c2, HS5⟩ := hcut
  clear l0 l1 l2 l3 f0 f1 f2 f3 d0 d1 d2 d3 z0 z1 z2 z3 j0 j1 j2 j3 hmain
  have l0 := HS5.out.lb.c0
  have l1 := HS5.out.lb.c1
  have l2 := HS5.out.lb.c2
  have l3 := HS5.out.lb.c3
  have f0 := HS5.out.lb.fz 0
  have f1 := HS5.out.lb.fz 1
  have f2 := HS5.out.lb.fz 2
  have f3 := HS5.out.lb.fz 3
  simp only at l0 l1 l3
  have d0 := HS5.out.db.c0
  have d1 := HS5.out.db.c1
  have d2 := HS5.out.db.c2
  have d3 := HS5.out.db.c3
  simp only [Nat.zero_add] at d0 d1 d2 d3
  have z0 := HS5.out.zb.c0
  have z1 := HS5.out.zb.c1
  have z2 := HS5.out.zb.c2
  have z3 := HS5.out.zb.c3
  have j0 := HS5.out.zb.fz 0
  have j1 := HS5.out.zb.fz 1
  have j2 := HS5.out.zb.fz 2
  have j3 := HS5.out.zb.fz 3
  have sz := HS5.out.sz
  obtain ⟨F1, F2, F3⟩ := HS5.out.ret HGG.out
  have HF : Hid _ := F1
  have HF2 : Hid _ := F2
  have HF3 : Hid _ := F3
  clear F1 F2 F3
  go_wp2_with fail
  refine bodyPost_ret (v := .tuple #[rlV (M.sGot s t o 0) ⟨p2, c2, p', c', pa, ca⟩, .int .i64 ((0 : Nat) : Int)]) (results_lk rfl _ _ (N + 2) (M.sGot s t o 0) ⟨p2, c2, p', c', pa, ca⟩ ((0 : Nat) : Int) rfl rfl HF.out) rfl ⟨_, rfl, HF2.out, HF3.out⟩

set_option maxRecDepth 100000 in
set_option maxHeartbeats 8000000 in
theorem rl_state1 {G : Nat → Prop} {s : M.Lk} (v : LV) (t o : Nat) (x : Int) (w : World) (hR : RL G s v w) (hG : ∀ j, w.heap.size ≤ j → G j) (hS : M.LG s) (ht : t < 5) (ho : o < 4) (hf : t ∈ s.fo) :
    Calls Tryd.prog 19 #[rlV s v, dV 1 (t : Nat) (o : Nat) x] w fun e w' => ∃ v', e = .returned (.tuple #[rlV s v', .int .i64 ((7 : Nat) : Int)]) ∧ RL G s v' w' ∧ Below w.heap.size w w' := by
  have hKS := ks_begin (d := ⟨1, (t : Nat), (o : Nat), x⟩) hR hG
  obtain ⟨N, hN⟩ : ∃ N, w.heap.size = N := ⟨_, rfl⟩
  obtain ⟨G', hG'⟩ : ∃ G' : Nat → Prop, (fun j => G j ∧ j ≠ w.heap.size ∧ j ≠ w.heap.size + 1 ∧ j ≠ w.heap.size + 2) = G' := ⟨_, rfl⟩
  have HGG : Hid (∀ j, G' j → G j) := by rw [← hG']; exact fun j hj => hj.1
  rw [hG', hN] at hKS
  rw [hN]
  obtain ⟨ph, ch, pw, cw, pa, ca⟩ := v
  simp only at hKS
  obtain ⟨w2, hw2⟩ : ∃ w2, ((w.alloc (.cells #[.slice ph 20 ch, .slice pw 5 cw, .int .i64 (M.frS s : Nat), .slice pa s.ac.length ca] 46)).alloc (.cells #[.int .i64 1, .int .i64 (t : Nat), .int .i64 (o : Nat), .int .i64 x] 30)).alloc (.cells #[.slice none 0 0, .slice none 0 0, .int .i64 0, .slice none 0 0] 46) = w2 := ⟨_, rfl⟩
  rw [hw2] at hKS
  have HS : Hid (KS N G' ⟨1, (t : Nat), (o : Nat), x⟩ s ⟨ph, ch, pw, cw, pa, ca⟩ w w2) := hKS
  have l0 := hKS.lb.c0
  have l1 := hKS.lb.c1
  have l2 := hKS.lb.c2
  have l3 := hKS.lb.c3
  have f0 := hKS.lb.fz 0
  have f1 := hKS.lb.fz 1
  have f2 := hKS.lb.fz 2
  have f3 := hKS.lb.fz 3
  simp only at l0 l1 l3
  have d0 := hKS.db.c0
  have d1 := hKS.db.c1
  have d2 := hKS.db.c2
  have d3 := hKS.db.c3
  simp only [Nat.zero_add] at d0 d1 d2 d3
  have z0 := hKS.zb.c0
  have z1 := hKS.zb.c1
  have z2 := hKS.zb.c2
  have z3 := hKS.zb.c3
  have j0 := hKS.zb.fz 0
  have j1 := hKS.zb.fz 1
  have j2 := hKS.zb.fz 2
  have j3 := hKS.zb.fz 3
  have sz := hKS.sz
  clear hKS hR hG hG'
  have a0 := fun w' => ink_is 1 0 3 true w' (inK_true (by omega) (by omega))
  have a1 := fun w' => ink_is (t : Nat) 0 4 true w' (inK_true (by omega) (by omega))
  have a2 := fun w' => ink_is (o : Nat) 0 3 true w' (inK_true (by omega) (by omega))
  obtain ⟨g4, hg4⟩ : ∃ g, t * 4 = g := ⟨_, rfl⟩
  obtain ⟨g, hg⟩ : ∃ g, g4 + o = g := ⟨_, rfl⟩
  have i1 : (t : Int) * 4 = (g4 : Int) := by omega
  have i2 : (g4 : Int) + (o : Int) = (g : Int) := by omega
  have hg20 : g < 20 := by omega
  have hgi : (g : Int) < 20 := by omega
  have hti : (t : Int) < 5 := by omega
  obtain ⟨bh, oh, e1, hbh, _, hch⟩ := HS.out.rl.ho.at_ (by omega)
  simp only at e1
  subst e1
  have hcg := hch g hg20
  rw [show g / 4 = t by omega, show g % 4 = o by omega] at hcg
  have h3 : s.hd t o ≤ 3 := hS.li.le t o
  have HGT : Hid (g / 4 = t ∧ g % 4 = o ∧ t * 4 + o = g) := ⟨by omega, by omega, by omega⟩
  obtain ⟨h, hh⟩ : ∃ h, s.hd t o = h := ⟨_, rfl⟩
  rw [hh] at hcg h3
  have hfr := fun w' => bit_any (M.frS s) t w' (by have := M.frS_lt s; omega) (by omega)
  rw [M.fr_has s ht, decide_eq_true hf] at hfr
  clear hf hS hh
  clear hg hg4 hch
  go_enter Tryd.func19, Tryd.ntmps19
  go_wp2_with fail
  refine (a0 _).mono ?_
  rintro e w' ⟨rfl, rfl⟩
  go_wp2_with fail
  refine (a1 _).mono ?_
  rintro e w' ⟨rfl, rfl⟩
  go_wp2_with fail
  refine (a2 _).mono ?_
  rintro e w' ⟨rfl, rfl⟩
  go_wp2_with fail
  refine (hfr _).mono ?_
  rintro e w' ⟨rfl, rfl⟩
  obtain ⟨F1, F2, F3⟩ := HS.out.ret HGG.out
  have HF : Hid _ := F1
  have HF2 : Hid _ := F2
  have HF3 : Hid _ := F3
  clear F1 F2 F3
  go_wp2_with fail
  refine bodyPost_ret (v := .tuple #[rlV s ⟨some ⟨bh, oh, none⟩, ch, pw, cw, pa, ca⟩, .int .i64 ((7 : Nat) : Int)]) (results_lk rfl _ _ (N + 2) s ⟨some ⟨bh, oh, none⟩, ch, pw, cw, pa, ca⟩ ((7 : Nat) : Int) rfl rfl HF.out) rfl ⟨_, rfl, HF2.out, HF3.out⟩

set_option maxRecDepth 100000 in
set_option maxHeartbeats 8000000 in
theorem rl_wait1 {G : Nat → Prop} {s : M.Lk} (v : LV) (t o : Nat) (x : Int) (w : World) (hR : RL G s v w) (hG : ∀ j, w.heap.size ≤ j → G j) (hS : M.LG s) (ht : t < 5) (ho : o < 4) (hf : t ∉ s.fo) (ha : M.agS s t o 1 ≠ 0) :
    Calls Tryd.prog 19 #[rlV s v, dV 1 (t : Nat) (o : Nat) x] w fun e w' => ∃ v', e = .returned (.tuple #[rlV (M.sWait s t o 1) v', .int .i64 ((6 : Nat) : Int)]) ∧ RL G (M.sWait s t o 1) v' w' ∧ Below w.heap.size w w' := by
  have hKS := ks_begin (d := ⟨1, (t : Nat), (o : Nat), x⟩) hR hG
  obtain ⟨N, hN⟩ : ∃ N, w.heap.size = N := ⟨_, rfl⟩
  obtain ⟨G', hG'⟩ : ∃ G' : Nat → Prop, (fun j => G j ∧ j ≠ w.heap.size ∧ j ≠ w.heap.size + 1 ∧ j ≠ w.heap.size + 2) = G' := ⟨_, rfl⟩
  have HGG : Hid (∀ j, G' j → G j) := by rw [← hG']; exact fun j hj => hj.1
  rw [hG', hN] at hKS
  rw [hN]
  obtain ⟨ph, ch, pw, cw, pa, ca⟩ := v
  simp only at hKS
  obtain ⟨w2, hw2⟩ : ∃ w2, ((w.alloc (.cells #[.slice ph 20 ch, .slice pw 5 cw, .int .i64 (M.frS s : Nat), .slice pa s.ac.length ca] 46)).alloc (.cells #[.int .i64 1, .int .i64 (t : Nat), .int .i64 (o : Nat), .int .i64 x] 30)).alloc (.cells #[.slice none 0 0, .slice none 0 0, .int .i64 0, .slice none 0 0] 46) = w2 := ⟨_, rfl⟩
  rw [hw2] at hKS
  have HS : Hid (KS N G' ⟨1, (t : Nat), (o : Nat), x⟩ s ⟨ph, ch, pw, cw, pa, ca⟩ w w2) := hKS
  have l0 := hKS.lb.c0
  have l1 := hKS.lb.c1
  have l2 := hKS.lb.c2
  have l3 := hKS.lb.c3
  have f0 := hKS.lb.fz 0
  have f1 := hKS.lb.fz 1
  have f2 := hKS.lb.fz 2
  have f3 := hKS.lb.fz 3
  simp only at l0 l1 l3
  have d0 := hKS.db.c0
  have d1 := hKS.db.c1
  have d2 := hKS.db.c2
  have d3 := hKS.db.c3
  simp only [Nat.zero_add] at d0 d1 d2 d3
  have z0 := hKS.zb.c0
  have z1 := hKS.zb.c1
  have z2 := hKS.zb.c2
  have z3 := hKS.zb.c3
  have j0 := hKS.zb.fz 0
  have j1 := hKS.zb.fz 1
  have j2 := hKS.zb.fz 2
  have j3 := hKS.zb.fz 3
  have sz := hKS.sz
  clear hKS hR hG hG'
  have a0 := fun w' => ink_is 1 0 3 true w' (inK_true (by omega) (by omega))
  have a1 := fun w' => ink_is (t : Nat) 0 4 true w' (inK_true (by omega) (by omega))
  have a2 := fun w' => ink_is (o : Nat) 0 3 true w' (inK_true (by omega) (by omega))
  obtain ⟨g4, hg4⟩ : ∃ g, t * 4 = g := ⟨_, rfl⟩
  obtain ⟨g, hg⟩ : ∃ g, g4 + o = g := ⟨_, rfl⟩
  have i1 : (t : Int) * 4 = (g4 : Int) := by omega
  have i2 : (g4 : Int) + (o : Int) = (g : Int) := by omega
  have hg20 : g < 20 := by omega
  have hgi : (g : Int) < 20 := by omega
  have hti : (t : Int) < 5 := by omega
  obtain ⟨bh, oh, e1, hbh, _, hch⟩ := HS.out.rl.ho.at_ (by omega)
  simp only at e1
  subst e1
  have hcg := hch g hg20
  rw [show g / 4 = t by omega, show g % 4 = o by omega] at hcg
  have h3 : s.hd t o ≤ 3 := hS.li.le t o
  have HGT : Hid (g / 4 = t ∧ g % 4 = o ∧ t * 4 + o = g) := ⟨by omega, by omega, by omega⟩
  obtain ⟨h, hh⟩ : ∃ h, s.hd t o = h := ⟨_, rfl⟩
  rw [hh] at hcg h3
  have hfr := fun w' => bit_any (M.frS s) t w' (by have := M.frS_lt s; omega) (by omega)
  rw [M.fr_has s ht, decide_eq_false hf] at hfr
  have hag := fun w' (hb : Below w2.heap.size w2 w') => ragainst_ok (G := G') (s := s) (M.frS s : Nat) t o 1 pa s.ac.length ca ch cw (some ⟨bh, oh, none⟩) pw w' (HS.out.later hb).rl.ho (by omega) ho
  rw [show ((1 : Nat) == 1) = true from rfl] at hag
  obtain ⟨r, hr⟩ : ∃ r, M.agS s t o 1 = r := ⟨_, rfl⟩
  rw [hr] at hag ha
  have hrb : ((r : Int) != 0) = true := by simpa using ha
  have hrq : ((r : Int) == 0) = false := by simpa using ha
  obtain ⟨y2, hy2⟩ : ∃ y, o * 2 = y := ⟨_, rfl⟩
  obtain ⟨y, hy⟩ : ∃ y, y2 + 1 = y := ⟨_, rfl⟩
  have i3 : (o : Int) * 2 = (y2 : Int) := by omega
  have i4 : (y2 : Int) + 1 = (y : Int) := by omega
  have HY : Hid (o * 2 + 1 = y) := (by omega : o * 2 + 1 = y)
  clear hf ha hS hh hr hy hy2
  clear hg hg4 hch
  go_enter Tryd.func19, Tryd.ntmps19
  go_wp2_with fail
  refine (a0 _).mono ?_
  rintro e w' ⟨rfl, rfl⟩
  go_wp2_with fail
  refine (a1 _).mono ?_
  rintro e w' ⟨rfl, rfl⟩
  go_wp2_with fail
  refine (a2 _).mono ?_
  rintro e w' ⟨rfl, rfl⟩
  go_wp2_with fail
  refine (hfr _).mono ?_
  rintro e w' ⟨rfl, rfl⟩
  go_wp2_with fail
  refine (hag _ (Below.refl _ _)).mono ?_
  rintro e w3 ⟨rfl, hB3⟩
  have HS3 : Hid (KS N G' ⟨1, (t : Nat), (o : Nat), x⟩ s ⟨some ⟨bh, oh, none⟩, ch, pw, cw, pa, ca⟩ w w3) := HS.out.later hB3
  have l0 := HS3.out.lb.c0
  have l1 := HS3.out.lb.c1
  have l2 := HS3.out.lb.c2
  have l3 := HS3.out.lb.c3
  have f0 := HS3.out.lb.fz 0
  have f1 := HS3.out.lb.fz 1
  have f2 := HS3.out.lb.fz 2
  have f3 := HS3.out.lb.fz 3
  simp only at l0 l1 l3
  have d0 := HS3.out.db.c0
  have d1 := HS3.out.db.c1
  have d2 := HS3.out.db.c2
  have d3 := HS3.out.db.c3
  simp only [Nat.zero_add] at d0 d1 d2 d3
  have z0 := HS3.out.zb.c0
  have z1 := HS3.out.zb.c1
  have z2 := HS3.out.zb.c2
  have z3 := HS3.out.zb.c3
  have j0 := HS3.out.zb.fz 0
  have j1 := HS3.out.zb.fz 1
  have j2 := HS3.out.zb.fz 2
  have j3 := HS3.out.zb.fz 3
  have sz := HS3.out.sz
  obtain ⟨bw, ow, e1, hbw, _, hcw⟩ := HS3.out.rl.wa.at_ (by omega)
  simp only at e1
  subst e1
  have hput := fun w' (hb : Below w3.heap.size w3 w') => put_ok (G := G') (fun t => (s.wa t : Int) - 1) 5 t (y : Nat) (some ⟨bw, ow, none⟩) cw w' (by omega) ht (HS3.out.later hb).rl.wa
  clear hcw hag hB3
  go_wp2_with fail
  refine (hput _ (Below.refl _ _)).mono ?_
  rintro e w4 ⟨p', c', rfl, _, _, hF, hB4⟩
  have HS4 : Hid (KS N G' ⟨1, (t : Nat), (o : Nat), x⟩ (M.sWait s t o 1) ⟨some ⟨bh, oh, none⟩, ch, p', c', pa, ca⟩ w (w4.setCell ⟨N, 1, none⟩ (.slice p' 5 c'))) :=
    HS3.out.setW (s' := M.sWait s t o 1) hB4 c' rfl rfl rfl ((hF.mono (fun j _ hj => HS3.out.fr j (by have := HS3.out.sz; omega))).congr (fun j _ => by
      show Value.int .i64 (M.upd1 (fun t => (s.wa t : Int) - 1) t (y : Nat) j) = .int .i64 (((M.up1 s.wa t (o * 2 + 1 + 1) j : Nat) : Int) - 1)
      rw [HY.out]
      unfold M.upd1 M.up1
      by_cases e : j = t
      · rw [if_pos e, if_pos e]; simp
      · rw [if_neg e, if_neg e]))
  have q1 := (HS3.out.later hB4).lb.c1
  have q2 := (HS3.out.later hB4).lb.fz 1
  simp only at q1
  obtain ⟨wz, hwz⟩ : ∃ wz, w4.setCell ⟨N, 1, none⟩ (.slice p' 5 c') = wz := ⟨_, rfl⟩
  rw [hwz] at HS4
  clear l0 l1 l2 l3 f0 f1 f2 f3 d0 d1 d2 d3 z0 z1 z2 z3 j0 j1 j2 j3 hput hF hB4 hbw hbh hcg
  have l0 := HS4.out.lb.c0
  have l1 := HS4.out.lb.c1
  have l2 := HS4.out.lb.c2
  have l3 := HS4.out.lb.c3
  have f0 := HS4.out.lb.fz 0
  have f1 := HS4.out.lb.fz 1
  have f2 := HS4.out.lb.fz 2
  have f3 := HS4.out.lb.fz 3
  simp only at l0 l1 l3
  have d0 := HS4.out.db.c0
  have d1 := HS4.out.db.c1
  have d2 := HS4.out.db.c2
  have d3 := HS4.out.db.c3
  simp only [Nat.zero_add] at d0 d1 d2 d3
  have z0 := HS4.out.zb.c0
  have z1 := HS4.out.zb.c1
  have z2 := HS4.out.zb.c2
  have z3 := HS4.out.zb.c3
  have j0 := HS4.out.zb.fz 0
  have j1 := HS4.out.zb.fz 1
  have j2 := HS4.out.zb.fz 2
  have j3 := HS4.out.zb.fz 3
  have sz := HS4.out.sz
  obtain ⟨F1, F2, F3⟩ := HS4.out.ret HGG.out
  have HF : Hid _ := F1
  have HF2 : Hid _ := F2
  have HF3 : Hid _ := F3
  clear F1 F2 F3
  go_wp2_with fail
  refine bodyPost_ret (v := .tuple #[rlV (M.sWait s t o 1) ⟨some ⟨bh, oh, none⟩, ch, p', c', pa, ca⟩, .int .i64 ((6 : Nat) : Int)]) (results_lk rfl _ _ (N + 2) (M.sWait s t o 1) ⟨some ⟨bh, oh, none⟩, ch, p', c', pa, ca⟩ ((6 : Nat) : Int) rfl rfl HF.out) rfl ⟨_, rfl, HF2.out, HF3.out⟩

set_option maxRecDepth 100000 in
set_option maxHeartbeats 8000000 in
theorem rl_got1 {G : Nat → Prop} {s : M.Lk} (v : LV) (t o : Nat) (x : Int) (w : World) (hR : RL G s v w) (hG : ∀ j, w.heap.size ≤ j → G j) (hS : M.LG s) (ht : t < 5) (ho : o < 4) (hf : t ∉ s.fo) (ha : M.agS s t o 1 = 0) :
    Calls Tryd.prog 19 #[rlV s v, dV 1 (t : Nat) (o : Nat) x] w fun e w' => ∃ v', e = .returned (.tuple #[rlV (M.sGot s t o 1) v', .int .i64 ((0 : Nat) : Int)]) ∧ RL G (M.sGot s t o 1) v' w' ∧ Below w.heap.size w w' := by
  have hKS := ks_begin (d := ⟨1, (t : Nat), (o : Nat), x⟩) hR hG
  obtain ⟨N, hN⟩ : ∃ N, w.heap.size = N := ⟨_, rfl⟩
  obtain ⟨G', hG'⟩ : ∃ G' : Nat → Prop, (fun j => G j ∧ j ≠ w.heap.size ∧ j ≠ w.heap.size + 1 ∧ j ≠ w.heap.size + 2) = G' := ⟨_, rfl⟩
  have HGG : Hid (∀ j, G' j → G j) := by rw [← hG']; exact fun j hj => hj.1
  rw [hG', hN] at hKS
  rw [hN]
  obtain ⟨ph, ch, pw, cw, pa, ca⟩ := v
  simp only at hKS
  obtain ⟨w2, hw2⟩ : ∃ w2, ((w.alloc (.cells #[.slice ph 20 ch, .slice pw 5 cw, .int .i64 (M.frS s : Nat), .slice pa s.ac.length ca] 46)).alloc (.cells #[.int .i64 1, .int .i64 (t : Nat), .int .i64 (o : Nat), .int .i64 x] 30)).alloc (.cells #[.slice none 0 0, .slice none 0 0, .int .i64 0, .slice none 0 0] 46) = w2 := ⟨_, rfl⟩
  rw [hw2] at hKS
  have HS : Hid (KS N G' ⟨1, (t : Nat), (o : Nat), x⟩ s ⟨ph, ch, pw, cw, pa, ca⟩ w w2) := hKS
  have l0 := hKS.lb.c0
  have l1 := hKS.lb.c1
  have l2 := hKS.lb.c2
  have l3 := hKS.lb.c3
  have f0 := hKS.lb.fz 0
  have f1 := hKS.lb.fz 1
  have f2 := hKS.lb.fz 2
  have f3 := hKS.lb.fz 3
  simp only at l0 l1 l3
  have d0 := hKS.db.c0
  have d1 := hKS.db.c1
  have d2 := hKS.db.c2
  have d3 := hKS.db.c3
  simp only [Nat.zero_add] at d0 d1 d2 d3
  have z0 := hKS.zb.c0
  have z1 := hKS.zb.c1
  have z2 := hKS.zb.c2
  have z3 := hKS.zb.c3
  have j0 := hKS.zb.fz 0
  have j1 := hKS.zb.fz 1
  have j2 := hKS.zb.fz 2
  have j3 := hKS.zb.fz 3
  have sz := hKS.sz
  clear hKS hR hG hG'
  have a0 := fun w' => ink_is 1 0 3 true w' (inK_true (by omega) (by omega))
  have a1 := fun w' => ink_is (t : Nat) 0 4 true w' (inK_true (by omega) (by omega))
  have a2 := fun w' => ink_is (o : Nat) 0 3 true w' (inK_true (by omega) (by omega))
  obtain ⟨g4, hg4⟩ : ∃ g, t * 4 = g := ⟨_, rfl⟩
  obtain ⟨g, hg⟩ : ∃ g, g4 + o = g := ⟨_, rfl⟩
  have i1 : (t : Int) * 4 = (g4 : Int) := by omega
  have i2 : (g4 : Int) + (o : Int) = (g : Int) := by omega
  have hg20 : g < 20 := by omega
  have hgi : (g : Int) < 20 := by omega
  have hti : (t : Int) < 5 := by omega
  obtain ⟨bh, oh, e1, hbh, _, hch⟩ := HS.out.rl.ho.at_ (by omega)
  simp only at e1
  subst e1
  have hcg := hch g hg20
  rw [show g / 4 = t by omega, show g % 4 = o by omega] at hcg
  have h3 : s.hd t o ≤ 3 := hS.li.le t o
  have HGT : Hid (g / 4 = t ∧ g % 4 = o ∧ t * 4 + o = g) := ⟨by omega, by omega, by omega⟩
  obtain ⟨h, hh⟩ : ∃ h, s.hd t o = h := ⟨_, rfl⟩
  rw [hh] at hcg h3
  have hfr := fun w' => bit_any (M.frS s) t w' (by have := M.frS_lt s; omega) (by omega)
  rw [M.fr_has s ht, decide_eq_false hf] at hfr
  have hag := fun w' (hb : Below w2.heap.size w2 w') => ragainst_ok (G := G') (s := s) (M.frS s : Nat) t o 1 pa s.ac.length ca ch cw (some ⟨bh, oh, none⟩) pw w' (HS.out.later hb).rl.ho (by omega) ho
  rw [show ((1 : Nat) == 1) = true from rfl] at hag
  rw [ha] at hag
  have HH : Hid (s.hd t o = h) := hh
  clear hf ha hS hh
  clear hg hg4 hch
  go_enter Tryd.func19, Tryd.ntmps19
  go_wp2_with fail
  refine (a0 _).mono ?_
  rintro e w' ⟨rfl, rfl⟩
  go_wp2_with fail
  refine (a1 _).mono ?_
  rintro e w' ⟨rfl, rfl⟩
  go_wp2_with fail
  refine (a2 _).mono ?_
  rintro e w' ⟨rfl, rfl⟩
  go_wp2_with fail
  refine (hfr _).mono ?_
  rintro e w' ⟨rfl, rfl⟩
  go_wp2_with fail
  refine (hag _ (Below.refl _ _)).mono ?_
  rintro e w3 ⟨rfl, hB3⟩
  have HS3 : Hid (KS N G' ⟨1, (t : Nat), (o : Nat), x⟩ s ⟨some ⟨bh, oh, none⟩, ch, pw, cw, pa, ca⟩ w w3) := HS.out.later hB3
  have l0 := HS3.out.lb.c0
  have l1 := HS3.out.lb.c1
  have l2 := HS3.out.lb.c2
  have l3 := HS3.out.lb.c3
  have f0 := HS3.out.lb.fz 0
  have f1 := HS3.out.lb.fz 1
  have f2 := HS3.out.lb.fz 2
  have f3 := HS3.out.lb.fz 3
  simp only at l0 l1 l3
  have d0 := HS3.out.db.c0
  have d1 := HS3.out.db.c1
  have d2 := HS3.out.db.c2
  have d3 := HS3.out.db.c3
  simp only [Nat.zero_add] at d0 d1 d2 d3
  have z0 := HS3.out.zb.c0
  have z1 := HS3.out.zb.c1
  have z2 := HS3.out.zb.c2
  have z3 := HS3.out.zb.c3
  have j0 := HS3.out.zb.fz 0
  have j1 := HS3.out.zb.fz 1
  have j2 := HS3.out.zb.fz 2
  have j3 := HS3.out.zb.fz 3
  have sz := HS3.out.sz
  obtain ⟨bw, ow, e1, hbw, _, hcw⟩ := HS3.out.rl.wa.at_ (by omega)
  simp only at e1
  subst e1
  have hput := fun w' (hb : Below w3.heap.size w3 w') => put_ok (G := G') (fun t => (s.wa t : Int) - 1) 5 t (-1) (some ⟨bw, ow, none⟩) cw w' (by omega) ht (HS3.out.later hb).rl.wa
  clear hcw hag hB3
  go_wp2_with fail
  refine (hput _ (Below.refl _ _)).mono ?_
  rintro e w4 ⟨p', c', rfl, _, _, hF, hB4⟩
  have HS4 : Hid (KS N G' ⟨1, (t : Nat), (o : Nat), x⟩ (M.sIdle s t) ⟨some ⟨bh, oh, none⟩, ch, p', c', pa, ca⟩ w (w4.setCell ⟨N, 1, none⟩ (.slice p' 5 c'))) :=
    HS3.out.setW (s' := M.sIdle s t) hB4 c' rfl rfl rfl ((hF.mono (fun j _ hj => HS3.out.fr j (by have := HS3.out.sz; omega))).congr (fun j _ => by
      show Value.int .i64 (M.upd1 (fun t => (s.wa t : Int) - 1) t (-1) j) = .int .i64 (((M.up1 s.wa t 0 j : Nat) : Int) - 1)
      unfold M.upd1 M.up1
      by_cases e : j = t
      · rw [if_pos e, if_pos e]; rfl
      · rw [if_neg e, if_neg e]))
  have q1 := (HS3.out.later hB4).lb.c1
  have q2 := (HS3.out.later hB4).lb.fz 1
  simp only at q1
  obtain ⟨wz, hwz⟩ : ∃ wz, w4.setCell ⟨N, 1, none⟩ (.slice p' 5 c') = wz := ⟨_, rfl⟩
  rw [hwz] at HS4
  clear l0 l1 l2 l3 f0 f1 f2 f3 d0 d1 d2 d3 z0 z1 z2 z3 j0 j1 j2 j3 hput hF hB4 hbw hbh hcg
  have l0 := HS4.out.lb.c0
  have l1 := HS4.out.lb.c1
  have l2 := HS4.out.lb.c2
  have l3 := HS4.out.lb.c3
  have f0 := HS4.out.lb.fz 0
  have f1 := HS4.out.lb.fz 1
  have f2 := HS4.out.lb.fz 2
  have f3 := HS4.out.lb.fz 3
  simp only at l0 l1 l3
  have d0 := HS4.out.db.c0
  have d1 := HS4.out.db.c1
  have d2 := HS4.out.db.c2
  have d3 := HS4.out.db.c3
  simp only [Nat.zero_add] at d0 d1 d2 d3
  have z0 := HS4.out.zb.c0
  have z1 := HS4.out.zb.c1
  have z2 := HS4.out.zb.c2
  have z3 := HS4.out.zb.c3
  have j0 := HS4.out.zb.fz 0
  have j1 := HS4.out.zb.fz 1
  have j2 := HS4.out.zb.fz 2
  have j3 := HS4.out.zb.fz 3
  have sz := HS4.out.sz
  have hwith := fun w' => with_any h 1 w' (by omega) (by omega)
  obtain ⟨r, hr⟩ : ∃ r, h ||| 1 <<< 1 = r := ⟨_, rfl⟩
  rw [hr] at hwith
  have HR : Hid (M.wth (s.hd t o) 1 = r) := by show _ = _; rw [HH.out, ← hr]; rfl
  have hput := fun w' (hb : Below wz.heap.size wz w') => put_ok (G := G') (fun j => ((M.sIdle s t).hd (j / 4) (j % 4) : Int)) 20 g (r : Nat) (some ⟨bh, oh, none⟩) ch w' (by omega) hg20 (HS4.out.later hb).rl.ho
  have hmain : ∀ W', Below wz.heap.size wz W' → Calls Tryd.prog 35 #[.slice (some ⟨bh, oh, none⟩) 20 ch, .int .i64 (g : Nat), .int .i64 (r : Nat)] W' fun e w' => ∃ p2 c2, e = .returned (.slice p2 20 c2) ∧ Hid (KS N G' ⟨1, (t : Nat), (o : Nat), x⟩ (M.sGot s t o 1) ⟨p2, c2, p', c', pa, ca⟩ w (w'.setCell ⟨N, 0, none⟩ (.slice p2 20 c2))) ∧ w'.cell? ⟨N, 0, none⟩ = some (.slice (some ⟨bh, oh, none⟩) 20 ch) ∧ w'.frozen? ⟨N, 0, none⟩ = false := by
    intro W' hb
    refine (hput W' hb).mono ?_
    rintro e w5 ⟨p2, c2, rfl, _, _, hF, hB5⟩
    have hBB := bel_on hb hB5
    have hs5 := HS4.out.later hBB
    refine ⟨p2, c2, rfl, HS4.out.setH (s' := M.sGot s t o 1) hBB c2 rfl rfl rfl ((hF.mono (fun j _ hj => HS4.out.fr j (by have := HS4.out.sz; have := hb.size; omega))).congr (fun j _ => ?_)), hs5.lb.c0, hs5.lb.fz 0⟩
    show Value.int .i64 (M.upd1 (fun j => ((M.sIdle s t).hd (j / 4) (j % 4) : Int)) g (r : Nat) j) = .int .i64 ((M.up2 s.hd t o (M.wth (s.hd t o) 1) (j / 4) (j % 4) : Nat) : Int)
    rw [HR.out]
    have h8 := HGT.out
    unfold M.upd1 M.up2
    by_cases e : j = g
    · rw [if_pos e, if_pos ⟨by omega, by omega⟩]
    · rw [if_neg e, if_neg (fun c => e (by omega))]; rfl
  clear hput hr
  go_wp2_with fail
  go_cut [86] from 87 to 94 (fun u w' => ∃ p2 c2, Hid (KS N G' ⟨1, (t : Nat), (o : Nat), x⟩ (M.sGot s t o 1) ⟨p2, c2, p', c', pa, ca⟩ w w'))
  case first =>
    go_region_with (first | (go_at_call 36; refine (hwith _).mono ?_; rintro e w' ⟨rfl, rfl⟩) | (go_at_call 35; refine (hmain _ (by repeat first | exact Below.refl _ _ | apply Below.drew)).mono ?_; rintro e w5 ⟨p2, c2, rfl, HS5, y0, y1⟩))
    all_goals (go_wp2_with fail; go_meet)
    all_goals exact ⟨p2, c2, HS5⟩
  case rest =>
  obtain ⟨p2, c2, HS5⟩ := hcut
  clear l0 l1 l2 l3 f0 f1 f2 f3 d0 d1 d2 d3 z0 z1 z2 z3 j0 j1 j2 j3 hmain
  have l0 := HS5.out.lb.c0
  have l1 := HS5.out.lb.c1
  have l2 := HS5.out.lb.c2
  have l3 := HS5.out.lb.c3
  have f0 := HS5.out.lb.fz 0
  have f1 := HS5.out.lb.fz 1
  have f2 := HS5.out.lb.fz 2
  have f3 := HS5.out.lb.fz 3
  simp only at l0 l1 l3
  have d0 := HS5.out.db.c0
  have d1 := HS5.out.db.c1
  have d2 := HS5.out.db.c2
  have d3 := HS5.out.db.c3
  simp only [Nat.zero_add] at d0 d1 d2 d3
  have z0 := HS5.out.zb.c0
  have z1 := HS5.out.zb.c1
  have z2 := HS5.out.zb.c2
  have z3 := HS5.out.zb.c3
  have j0 := HS5.out.zb.fz 0
  have j1 := HS5.out.zb.fz 1
  have j2 := HS5.out.zb.fz 2
  have j3 := HS5.out.zb.fz 3
  have sz := HS5.out.sz
  obtain ⟨F1, F2, F3⟩ := HS5.out.ret HGG.out
  have HF : Hid _ := F1
  have HF2 : Hid _ := F2
  have HF3 : Hid _ := F3
  clear F1 F2 F3
  go_wp2_with fail
  refine bodyPost_ret (v := .tuple #[rlV (M.sGot s t o 1) ⟨p2, c2, p', c', pa, ca⟩, .int .i64 ((0 : Nat) : Int)]) (results_lk rfl _ _ (N + 2) (M.sGot s t o 1) ⟨p2, c2, p', c', pa, ca⟩ ((0 : Nat) : Int) rfl rfl HF.out) rfl ⟨_, rfl, HF2.out, HF3.out⟩

end Go.Proofs.YtcjodlgkmbmcgaaDoor
