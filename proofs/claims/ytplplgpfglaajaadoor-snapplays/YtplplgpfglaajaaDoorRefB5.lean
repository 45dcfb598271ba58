/- A move of the document's own bank (package whensteadref2, Move): what is refused, and a mark. -/
import Derived.Test.YtplplgpfglaajaaDoorRefB4
namespace Go.Proofs.YtplplgpfglaajaaDoor
open Go.RowKit
set_option maxRecDepth 100000 in
set_option maxHeartbeats 2000000 in
theorem rmv_kind {G : Nat → Prop} {n : Nat} {b : M.Bk} (be : Bool) (v : RV) (k f t : Int) (s : Int) (w : World) (hR : RB G n b v w) (hG : ∀ k, w.heap.size ≤ k → G k) (_ : n ≤ 5) (hx : ¬ (0 ≤ k ∧ k ≤ 2)) :
    Calls Tryd.prog 7 #[rbV n be v, mvV k f t s] w fun e w' => ∃ v', e = .returned (.tuple #[rbV n be v', .int .i64 1]) ∧ RB G n b v' w' ∧ Below w.heap.size w w' := by
  obtain ⟨W, hW⟩ : ∃ W, (((w.alloc (.cells #[.slice v.pm n v.cm, .slice v.pn n v.cn, .slice v.pw (n * n) v.cw, .slice v.ph (n * n) v.ch, .slice v.pc (n * n) v.cc, .bool be] 27)).alloc (.cells #[.int .i64 k, .int .i64 f, .int .i64 t, .int .i64 s] 38)).alloc (.cells #[.slice none 0 0, .slice none 0 0, .slice none 0 0, .slice none 0 0, .slice none 0 0, .bool false] 27)) = W := ⟨_, rfl⟩
  have S0 := ms_begin be k f t s hR hG
  rw [hW] at S0
  have BKG : Hid (∀ j, (G j ∧ j ≠ w.heap.size ∧ j ≠ w.heap.size + 1 ∧ j ≠ w.heap.size + 1 + 1) → G j) := fun j hj => hj.1
  obtain ⟨G', hG'⟩ : ∃ G' : Nat → Prop, (fun j => G j ∧ j ≠ w.heap.size ∧ j ≠ w.heap.size + 1 ∧ j ≠ w.heap.size + 1 + 1) = G' := ⟨_, rfl⟩
  have BK : Hid (∀ j, G' j → G j) := by rw [← hG']; exact BKG
  rw [hG'] at S0
  clear hG' BKG
  obtain ⟨N2, hN2⟩ : ∃ N2, n * n = N2 := ⟨_, rfl⟩
  have HN2 : Hid (n * n = N2) := hN2
  have lN := S0.lb.lt
  have lM := S0.mb.lt
  have lZ := S0.zb.lt
  have l0 := S0.lb.c0
  have l1 := S0.lb.c1
  have l2 := S0.lb.c2
  have l3 := S0.lb.c3
  have l4 := S0.lb.c4
  have l5 := S0.lb.c5
  have m0 := S0.mb.c0
  have m1 := S0.mb.c1
  have m2 := S0.mb.c2
  have m3 := S0.mb.c3
  have z0 := S0.zb.c0
  have z1 := S0.zb.c1
  have z2 := S0.zb.c2
  have z3 := S0.zb.c3
  have z4 := S0.zb.c4
  have z5 := S0.zb.c5
  have f0 := S0.zb.fz 0
  have f1 := S0.zb.fz 1
  have f2 := S0.zb.fz 2
  have f3 := S0.zb.fz 3
  have f4 := S0.zb.fz 4
  have f5 := S0.zb.fz 5
  have FIN := S0.ret hN2 (G0 := G) BK.out
  obtain ⟨pm, cm, pn, cn, pw, cw, ph, ch, pc, cc, vw⟩ := v
  simp only [rbV, v0] at hW l0 l1 l2 l3 l4 z0 z1 z2 z3 z4 FIN ⊢
  rw [hN2] at hW l2 l3 l4 ⊢
  have F : Hid _ := FIN
  clear S0 hR FIN hN2 hG
  go_enter Tryd.func7, Tryd.ntmps7
  go_wp2_with fail
  refine (in_is k 0 2 false _ (inB_false hx)).mono ?_
  rintro e w9 ⟨rfl, rfl⟩
  go_wp2_with fail
  obtain rfl := HN2.out
  exact bodyPost_ret (v := .tuple #[rbV n be ⟨pm, cm, pn, cn, pw, cw, ph, ch, pc, cc, vw⟩, .int .i64 1]) (results_bank rfl _ _ (w.heap.size + 1 + 1) n be _ 1 rfl rfl F.out.1) rfl ⟨_, rfl, F.out.2.1, F.out.2.2⟩
set_option maxRecDepth 100000 in
set_option maxHeartbeats 2000000 in
theorem rmv_from {G : Nat → Prop} {n : Nat} {b : M.Bk} (be : Bool) (v : RV) (k f t : Int) (s : Int) (w : World) (hR : RB G n b v w) (hG : ∀ k, w.heap.size ≤ k → G k) (hn5 : n ≤ 5) (hk0 : 0 ≤ k) (hk2 : k ≤ 2) (hx : ¬ (0 ≤ f ∧ f ≤ (n : Int) - 1)) :
    Calls Tryd.prog 7 #[rbV n be v, mvV k f t s] w fun e w' => ∃ v', e = .returned (.tuple #[rbV n be v', .int .i64 1]) ∧ RB G n b v' w' ∧ Below w.heap.size w w' := by
  obtain ⟨W, hW⟩ : ∃ W, (((w.alloc (.cells #[.slice v.pm n v.cm, .slice v.pn n v.cn, .slice v.pw (n * n) v.cw, .slice v.ph (n * n) v.ch, .slice v.pc (n * n) v.cc, .bool be] 27)).alloc (.cells #[.int .i64 k, .int .i64 f, .int .i64 t, .int .i64 s] 38)).alloc (.cells #[.slice none 0 0, .slice none 0 0, .slice none 0 0, .slice none 0 0, .slice none 0 0, .bool false] 27)) = W := ⟨_, rfl⟩
  have S0 := ms_begin be k f t s hR hG
  rw [hW] at S0
  have BKG : Hid (∀ j, (G j ∧ j ≠ w.heap.size ∧ j ≠ w.heap.size + 1 ∧ j ≠ w.heap.size + 1 + 1) → G j) := fun j hj => hj.1
  obtain ⟨G', hG'⟩ : ∃ G' : Nat → Prop, (fun j => G j ∧ j ≠ w.heap.size ∧ j ≠ w.heap.size + 1 ∧ j ≠ w.heap.size + 1 + 1) = G' := ⟨_, rfl⟩
  have BK : Hid (∀ j, G' j → G j) := by rw [← hG']; exact BKG
  rw [hG'] at S0
  clear hG' BKG
  obtain ⟨N2, hN2⟩ : ∃ N2, n * n = N2 := ⟨_, rfl⟩
  have HN2 : Hid (n * n = N2) := hN2
  have lN := S0.lb.lt
  have lM := S0.mb.lt
  have lZ := S0.zb.lt
  have l0 := S0.lb.c0
  have l1 := S0.lb.c1
  have l2 := S0.lb.c2
  have l3 := S0.lb.c3
  have l4 := S0.lb.c4
  have l5 := S0.lb.c5
  have m0 := S0.mb.c0
  have m1 := S0.mb.c1
  have m2 := S0.mb.c2
  have m3 := S0.mb.c3
  have z0 := S0.zb.c0
  have z1 := S0.zb.c1
  have z2 := S0.zb.c2
  have z3 := S0.zb.c3
  have z4 := S0.zb.c4
  have z5 := S0.zb.c5
  have f0 := S0.zb.fz 0
  have f1 := S0.zb.fz 1
  have f2 := S0.zb.fz 2
  have f3 := S0.zb.fz 3
  have f4 := S0.zb.fz 4
  have f5 := S0.zb.fz 5
  have FIN := S0.ret hN2 (G0 := G) BK.out
  obtain ⟨pm, cm, pn, cn, pw, cw, ph, ch, pc, cc, vw⟩ := v
  simp only [rbV, v0] at hW l0 l1 l2 l3 l4 z0 z1 z2 z3 z4 FIN ⊢
  rw [hN2] at hW l2 l3 l4 ⊢
  have F : Hid _ := FIN
  clear S0 hR FIN hN2 hG
  go_enter Tryd.func7, Tryd.ntmps7
  go_wp2_with fail
  refine (in_is k 0 2 true _ (inB_true hk0 hk2)).mono ?_
  rintro e w9 ⟨rfl, rfl⟩
  go_wp2_with fail
  refine (in_is f 0 ((n : Int) - 1) false _ (inB_false hx)).mono ?_
  rintro e w9 ⟨rfl, rfl⟩
  go_wp2_with fail
  obtain rfl := HN2.out
  exact bodyPost_ret (v := .tuple #[rbV n be ⟨pm, cm, pn, cn, pw, cw, ph, ch, pc, cc, vw⟩, .int .i64 1]) (results_bank rfl _ _ (w.heap.size + 1 + 1) n be _ 1 rfl rfl F.out.1) rfl ⟨_, rfl, F.out.2.1, F.out.2.2⟩
set_option maxRecDepth 100000 in
set_option maxHeartbeats 2000000 in
theorem rmv_mark_old {G : Nat → Prop} {n : Nat} {b : M.Bk} (be : Bool) (v : RV) (p : Nat) (t : Int) (s : Int) (w : World) (hR : RB G n b v w) (hG : ∀ k, w.heap.size ≤ k → G k) (hn5 : n ≤ 5) (hp : p < n) (hbe : be = true) :
    Calls Tryd.prog 7 #[rbV n be v, mvV 2 p t s] w fun e w' => ∃ v', e = .returned (.tuple #[rbV n be v', .int .i64 7]) ∧ RB G n b v' w' ∧ Below w.heap.size w w' := by
  obtain ⟨W, hW⟩ : ∃ W, (((w.alloc (.cells #[.slice v.pm n v.cm, .slice v.pn n v.cn, .slice v.pw (n * n) v.cw, .slice v.ph (n * n) v.ch, .slice v.pc (n * n) v.cc, .bool be] 27)).alloc (.cells #[.int .i64 2, .int .i64 p, .int .i64 t, .int .i64 s] 38)).alloc (.cells #[.slice none 0 0, .slice none 0 0, .slice none 0 0, .slice none 0 0, .slice none 0 0, .bool false] 27)) = W := ⟨_, rfl⟩
  have S0 := ms_begin be 2 p t s hR hG
  rw [hW] at S0
  have BKG : Hid (∀ j, (G j ∧ j ≠ w.heap.size ∧ j ≠ w.heap.size + 1 ∧ j ≠ w.heap.size + 1 + 1) → G j) := fun j hj => hj.1
  obtain ⟨G', hG'⟩ : ∃ G' : Nat → Prop, (fun j => G j ∧ j ≠ w.heap.size ∧ j ≠ w.heap.size + 1 ∧ j ≠ w.heap.size + 1 + 1) = G' := ⟨_, rfl⟩
  have BK : Hid (∀ j, G' j → G j) := by rw [← hG']; exact BKG
  rw [hG'] at S0
  clear hG' BKG
  obtain ⟨N2, hN2⟩ : ∃ N2, n * n = N2 := ⟨_, rfl⟩
  have HN2 : Hid (n * n = N2) := hN2
  have lN := S0.lb.lt
  have lM := S0.mb.lt
  have lZ := S0.zb.lt
  have l0 := S0.lb.c0
  have l1 := S0.lb.c1
  have l2 := S0.lb.c2
  have l3 := S0.lb.c3
  have l4 := S0.lb.c4
  have l5 := S0.lb.c5
  have m0 := S0.mb.c0
  have m1 := S0.mb.c1
  have m2 := S0.mb.c2
  have m3 := S0.mb.c3
  have z0 := S0.zb.c0
  have z1 := S0.zb.c1
  have z2 := S0.zb.c2
  have z3 := S0.zb.c3
  have z4 := S0.zb.c4
  have z5 := S0.zb.c5
  have f0 := S0.zb.fz 0
  have f1 := S0.zb.fz 1
  have f2 := S0.zb.fz 2
  have f3 := S0.zb.fz 3
  have f4 := S0.zb.fz 4
  have f5 := S0.zb.fz 5
  have FIN := S0.ret hN2 (G0 := G) BK.out
  subst hbe
  obtain ⟨pm, cm, pn, cn, pw, cw, ph, ch, pc, cc, vw⟩ := v
  simp only [rbV, v0] at hW l0 l1 l2 l3 l4 z0 z1 z2 z3 z4 FIN ⊢
  rw [hN2] at hW l2 l3 l4 ⊢
  have F : Hid _ := FIN
  clear S0 hR FIN hN2 hG
  go_enter Tryd.func7, Tryd.ntmps7
  go_wp2_with fail
  refine (in_is 2 0 2 true _ (by decide)).mono ?_
  rintro e w9 ⟨rfl, rfl⟩
  go_wp2_with fail
  refine (in_is (p : Int) 0 ((n : Int) - 1) true _ (inB_true (by omega) (by omega))).mono ?_
  rintro e w9 ⟨rfl, rfl⟩
  go_wp2_with fail
  obtain rfl := HN2.out
  exact bodyPost_ret (v := .tuple #[rbV n true ⟨pm, cm, pn, cn, pw, cw, ph, ch, pc, cc, vw⟩, .int .i64 7]) (results_bank rfl _ _ (w.heap.size + 1 + 1) n true _ 7 rfl rfl F.out.1) rfl ⟨_, rfl, F.out.2.1, F.out.2.2⟩
set_option maxRecDepth 100000 in
set_option maxHeartbeats 2000000 in
theorem rmv_to {G : Nat → Prop} {n : Nat} {b : M.Bk} (be : Bool) (v : RV) (k : Int) (p : Nat) (t : Int) (s : Int) (w : World) (hR : RB G n b v w) (hG : ∀ k, w.heap.size ≤ k → G k) (hn5 : n ≤ 5) (hk0 : 0 ≤ k) (hk2 : k < 2) (hkd : (k == 2) = false) (hp : p < n) (hx : ¬ (0 ≤ t ∧ t ≤ (n : Int) - 1)) :
    Calls Tryd.prog 7 #[rbV n be v, mvV k p t s] w fun e w' => ∃ v', e = .returned (.tuple #[rbV n be v', .int .i64 1]) ∧ RB G n b v' w' ∧ Below w.heap.size w w' := by
  obtain ⟨W, hW⟩ : ∃ W, (((w.alloc (.cells #[.slice v.pm n v.cm, .slice v.pn n v.cn, .slice v.pw (n * n) v.cw, .slice v.ph (n * n) v.ch, .slice v.pc (n * n) v.cc, .bool be] 27)).alloc (.cells #[.int .i64 k, .int .i64 p, .int .i64 t, .int .i64 s] 38)).alloc (.cells #[.slice none 0 0, .slice none 0 0, .slice none 0 0, .slice none 0 0, .slice none 0 0, .bool false] 27)) = W := ⟨_, rfl⟩
  have S0 := ms_begin be k p t s hR hG
  rw [hW] at S0
  have BKG : Hid (∀ j, (G j ∧ j ≠ w.heap.size ∧ j ≠ w.heap.size + 1 ∧ j ≠ w.heap.size + 1 + 1) → G j) := fun j hj => hj.1
  obtain ⟨G', hG'⟩ : ∃ G' : Nat → Prop, (fun j => G j ∧ j ≠ w.heap.size ∧ j ≠ w.heap.size + 1 ∧ j ≠ w.heap.size + 1 + 1) = G' := ⟨_, rfl⟩
  have BK : Hid (∀ j, G' j → G j) := by rw [← hG']; exact BKG
  rw [hG'] at S0
  clear hG' BKG
  obtain ⟨N2, hN2⟩ : ∃ N2, n * n = N2 := ⟨_, rfl⟩
  have HN2 : Hid (n * n = N2) := hN2
  have lN := S0.lb.lt
  have lM := S0.mb.lt
  have lZ := S0.zb.lt
  have l0 := S0.lb.c0
  have l1 := S0.lb.c1
  have l2 := S0.lb.c2
  have l3 := S0.lb.c3
  have l4 := S0.lb.c4
  have l5 := S0.lb.c5
  have m0 := S0.mb.c0
  have m1 := S0.mb.c1
  have m2 := S0.mb.c2
  have m3 := S0.mb.c3
  have z0 := S0.zb.c0
  have z1 := S0.zb.c1
  have z2 := S0.zb.c2
  have z3 := S0.zb.c3
  have z4 := S0.zb.c4
  have z5 := S0.zb.c5
  have f0 := S0.zb.fz 0
  have f1 := S0.zb.fz 1
  have f2 := S0.zb.fz 2
  have f3 := S0.zb.fz 3
  have f4 := S0.zb.fz 4
  have f5 := S0.zb.fz 5
  have FIN := S0.ret hN2 (G0 := G) BK.out
  obtain ⟨pm, cm, pn, cn, pw, cw, ph, ch, pc, cc, vw⟩ := v
  simp only [rbV, v0] at hW l0 l1 l2 l3 l4 z0 z1 z2 z3 z4 FIN ⊢
  rw [hN2] at hW l2 l3 l4 ⊢
  have F : Hid _ := FIN
  clear S0 hR FIN hN2 hG
  go_enter Tryd.func7, Tryd.ntmps7
  go_wp2_with fail
  refine (in_is k 0 2 true _ (inB_true hk0 (by omega))).mono ?_
  rintro e w9 ⟨rfl, rfl⟩
  go_wp2_with fail
  refine (in_is (p : Int) 0 ((n : Int) - 1) true _ (inB_true (by omega) (by omega))).mono ?_
  rintro e w9 ⟨rfl, rfl⟩
  go_wp2_with fail
  refine (in_is t 0 ((n : Int) - 1) false _ (inB_false hx)).mono ?_
  rintro e w9 ⟨rfl, rfl⟩
  go_wp2_with fail
  obtain rfl := HN2.out
  exact bodyPost_ret (v := .tuple #[rbV n be ⟨pm, cm, pn, cn, pw, cw, ph, ch, pc, cc, vw⟩, .int .i64 1]) (results_bank rfl _ _ (w.heap.size + 1 + 1) n be _ 1 rfl rfl F.out.1) rfl ⟨_, rfl, F.out.2.1, F.out.2.2⟩
set_option maxRecDepth 100000 in
set_option maxHeartbeats 2000000 in
theorem rmv_same {G : Nat → Prop} {n : Nat} {b : M.Bk} (be : Bool) (v : RV) (k : Int) (p : Nat) (s : Int) (w : World) (hR : RB G n b v w) (hG : ∀ k, w.heap.size ≤ k → G k) (hn5 : n ≤ 5) (hk0 : 0 ≤ k) (hk2 : k < 2) (hkd : (k == 2) = false) (hp : p < n) :
    Calls Tryd.prog 7 #[rbV n be v, mvV k p p s] w fun e w' => ∃ v', e = .returned (.tuple #[rbV n be v', .int .i64 6]) ∧ RB G n b v' w' ∧ Below w.heap.size w w' := by
  obtain ⟨W, hW⟩ : ∃ W, (((w.alloc (.cells #[.slice v.pm n v.cm, .slice v.pn n v.cn, .slice v.pw (n * n) v.cw, .slice v.ph (n * n) v.ch, .slice v.pc (n * n) v.cc, .bool be] 27)).alloc (.cells #[.int .i64 k, .int .i64 p, .int .i64 p, .int .i64 s] 38)).alloc (.cells #[.slice none 0 0, .slice none 0 0, .slice none 0 0, .slice none 0 0, .slice none 0 0, .bool false] 27)) = W := ⟨_, rfl⟩
  have S0 := ms_begin be k p p s hR hG
  rw [hW] at S0
  have BKG : Hid (∀ j, (G j ∧ j ≠ w.heap.size ∧ j ≠ w.heap.size + 1 ∧ j ≠ w.heap.size + 1 + 1) → G j) := fun j hj => hj.1
  obtain ⟨G', hG'⟩ : ∃ G' : Nat → Prop, (fun j => G j ∧ j ≠ w.heap.size ∧ j ≠ w.heap.size + 1 ∧ j ≠ w.heap.size + 1 + 1) = G' := ⟨_, rfl⟩
  have BK : Hid (∀ j, G' j → G j) := by rw [← hG']; exact BKG
  rw [hG'] at S0
  clear hG' BKG
  obtain ⟨N2, hN2⟩ : ∃ N2, n * n = N2 := ⟨_, rfl⟩
  have HN2 : Hid (n * n = N2) := hN2
  have lN := S0.lb.lt
  have lM := S0.mb.lt
  have lZ := S0.zb.lt
  have l0 := S0.lb.c0
  have l1 := S0.lb.c1
  have l2 := S0.lb.c2
  have l3 := S0.lb.c3
  have l4 := S0.lb.c4
  have l5 := S0.lb.c5
  have m0 := S0.mb.c0
  have m1 := S0.mb.c1
  have m2 := S0.mb.c2
  have m3 := S0.mb.c3
  have z0 := S0.zb.c0
  have z1 := S0.zb.c1
  have z2 := S0.zb.c2
  have z3 := S0.zb.c3
  have z4 := S0.zb.c4
  have z5 := S0.zb.c5
  have f0 := S0.zb.fz 0
  have f1 := S0.zb.fz 1
  have f2 := S0.zb.fz 2
  have f3 := S0.zb.fz 3
  have f4 := S0.zb.fz 4
  have f5 := S0.zb.fz 5
  have FIN := S0.ret hN2 (G0 := G) BK.out
  obtain ⟨pm, cm, pn, cn, pw, cw, ph, ch, pc, cc, vw⟩ := v
  simp only [rbV, v0] at hW l0 l1 l2 l3 l4 z0 z1 z2 z3 z4 FIN ⊢
  rw [hN2] at hW l2 l3 l4 ⊢
  have F : Hid _ := FIN
  clear S0 hR FIN hN2 hG
  go_enter Tryd.func7, Tryd.ntmps7
  go_wp2_with fail
  refine (in_is k 0 2 true _ (inB_true hk0 (by omega))).mono ?_
  rintro e w9 ⟨rfl, rfl⟩
  go_wp2_with fail
  refine (in_is (p : Int) 0 ((n : Int) - 1) true _ (inB_true (by omega) (by omega))).mono ?_
  rintro e w9 ⟨rfl, rfl⟩
  go_wp2_with fail
  refine (in_is (p : Int) 0 ((n : Int) - 1) true _ (inB_true (by omega) (by omega))).mono ?_
  rintro e w9 ⟨rfl, rfl⟩
  go_wp2_with fail
  obtain rfl := HN2.out
  exact bodyPost_ret (v := .tuple #[rbV n be ⟨pm, cm, pn, cn, pw, cw, ph, ch, pc, cc, vw⟩, .int .i64 6]) (results_bank rfl _ _ (w.heap.size + 1 + 1) n be _ 6 rfl rfl F.out.1) rfl ⟨_, rfl, F.out.2.1, F.out.2.2⟩
set_option maxRecDepth 100000 in
set_option maxHeartbeats 2000000 in
theorem rmv_mark_new {G : Nat → Prop} {n : Nat} {b : M.Bk} (be : Bool) (v : RV) (p : Nat) (t : Int) (s : Int) (w : World) (hR : RB G n b v w) (hG : ∀ k, w.heap.size ≤ k → G k) (hn5 : n ≤ 5) (hp : p < n) (hbe : be = false) (hl : ∀ q, (b.wy p q).length ≤ 50) :
    Calls Tryd.prog 7 #[rbV n be v, mvV 2 p t s] w fun e w' => ∃ v', e = .returned (.tuple #[rbV n true v', .int .i64 0]) ∧ RB G n (M.noteB n b p) v' w' ∧ Below w.heap.size w w' := by
  obtain ⟨W, hW⟩ : ∃ W, (((w.alloc (.cells #[.slice v.pm n v.cm, .slice v.pn n v.cn, .slice v.pw (n * n) v.cw, .slice v.ph (n * n) v.ch, .slice v.pc (n * n) v.cc, .bool be] 27)).alloc (.cells #[.int .i64 2, .int .i64 p, .int .i64 t, .int .i64 s] 38)).alloc (.cells #[.slice none 0 0, .slice none 0 0, .slice none 0 0, .slice none 0 0, .slice none 0 0, .bool false] 27)) = W := ⟨_, rfl⟩
  have S0 := ms_begin be 2 p t s hR hG
  rw [hW] at S0
  have BKG : Hid (∀ j, (G j ∧ j ≠ w.heap.size ∧ j ≠ w.heap.size + 1 ∧ j ≠ w.heap.size + 1 + 1) → G j) := fun j hj => hj.1
  obtain ⟨G', hG'⟩ : ∃ G' : Nat → Prop, (fun j => G j ∧ j ≠ w.heap.size ∧ j ≠ w.heap.size + 1 ∧ j ≠ w.heap.size + 1 + 1) = G' := ⟨_, rfl⟩
  have BK : Hid (∀ j, G' j → G j) := by rw [← hG']; exact BKG
  rw [hG'] at S0
  clear hG' BKG
  obtain ⟨N2, hN2⟩ : ∃ N2, n * n = N2 := ⟨_, rfl⟩
  have HN2 : Hid (n * n = N2) := hN2
  have lN := S0.lb.lt
  have lM := S0.mb.lt
  have lZ := S0.zb.lt
  have l0 := S0.lb.c0
  have l1 := S0.lb.c1
  have l2 := S0.lb.c2
  have l3 := S0.lb.c3
  have l4 := S0.lb.c4
  have l5 := S0.lb.c5
  have m0 := S0.mb.c0
  have m1 := S0.mb.c1
  have m2 := S0.mb.c2
  have m3 := S0.mb.c3
  subst hbe
  have HS : Hid (MS w.heap.size G' n false b v 2 p t s w W) := S0
  have V : Hid (v = v) := rfl
  obtain ⟨pm, cm, pn, cn, pw, cw, ph, ch, pc, cc, vw⟩ := v
  simp only [rbV] at hW l0 l1 l2 l3 l4 ⊢
  have hcall := rnote_ok false ⟨pm, cm, pn, cn, pw, cw, ph, ch, pc, cc, vw⟩ p W S0.rb (S0.fresh (Below.refl _ _)) hp hn5 hl
  simp only [rbV] at hcall
  rw [hN2] at hW l2 l3 l4 hcall ⊢
  clear S0 hR hN2 hG V hl
  go_enter Tryd.func7, Tryd.ntmps7
  go_wp2_with fail
  refine (in_is 2 0 2 true _ (by decide)).mono ?_
  rintro e w9 ⟨rfl, rfl⟩
  go_wp2_with fail
  refine (in_is (p : Int) 0 ((n : Int) - 1) true _ (inB_true (by omega) (by omega))).mono ?_
  rintro e w9 ⟨rfl, rfl⟩
  go_wp2_with fail
  refine hcall.mono ?_
  rintro e w5 ⟨v5, rfl, hR5, hB5⟩
  have S5 := HS.out.later hB5
  have lZ5 := S5.zb.lt
  have z0 := S5.zb.c0
  have z1 := S5.zb.c1
  have z2 := S5.zb.c2
  have z3 := S5.zb.c3
  have z4 := S5.zb.c4
  have z5 := S5.zb.c5
  have f0 := S5.zb.fz 0
  have f1 := S5.zb.fz 1
  have f2 := S5.zb.fz 2
  have f3 := S5.zb.fz 3
  have f4 := S5.zb.fz 4
  have f5 := S5.zb.fz 5
  have F : Hid (LB (w.heap.size + 1 + 1) n true v5 (cpy w5 (w.heap.size + 1 + 1) n N2 true v5.pm v5.cm v5.pn v5.cn v5.pw v5.cw v5.ph v5.ch v5.pc v5.cc) ∧ RB G n (M.noteB n b p) v5 (cpy w5 (w.heap.size + 1 + 1) n N2 true v5.pm v5.cm v5.pn v5.cn v5.pw v5.cw v5.ph v5.ch v5.pc v5.cc) ∧ Below w.heap.size w (cpy w5 (w.heap.size + 1 + 1) n N2 true v5.pm v5.cm v5.pn v5.cn v5.pw v5.cw v5.ph v5.ch v5.pc v5.cc)) :=
    ⟨S5.zb.cpy HN2.out v5, (hR5.cpy S5.nz _ _ _ _ _ _ _ _ _ _ _ _ _).mono (fun j _ hj => BK.out j hj), bel_cpy S5.bl (by omega) _ _ _ _ _ _ _ _ _ _ _ _ _⟩
  obtain ⟨pm5, cm5, pn5, cn5, pw5, cw5, ph5, ch5, pc5, cc5, vw5⟩ := v5
  simp only [v0] at z0 z1 z2 z3 z4 F ⊢
  clear HS S5 hcall hR5 hB5 hW l0 l1 l2 l3 l4 l5 m0 m1 m2 m3
  go_wp2_with fail
  obtain rfl := HN2.out
  exact bodyPost_ret (v := .tuple #[rbV n true ⟨pm5, cm5, pn5, cn5, pw5, cw5, ph5, ch5, pc5, cc5, vw5⟩, .int .i64 0]) (results_bank rfl _ _ (w.heap.size + 1 + 1) n true _ 0 rfl rfl F.out.1) rfl ⟨_, rfl, F.out.2.1, F.out.2.2⟩
end Go.Proofs.YtplplgpfglaajaaDoor
