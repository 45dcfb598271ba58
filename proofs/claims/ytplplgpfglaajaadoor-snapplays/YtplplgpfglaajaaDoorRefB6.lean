/- A sum is paid in the document's own bank (package whensteadref2, Move). -/
import Derived.Test.YtplplgpfglaajaaDoorRefB5
import Derived.BigQuiet
import Derived.Deep.QuietTactic
namespace Go.Proofs.YtplplgpfglaajaaDoor
open Go.RowKit
set_option maxRecDepth 100000 in
set_option maxHeartbeats 2000000 in
theorem rmv_pay_range {G : Nat → Prop} {n : Nat} {b : M.Bk} (be : Bool) (v : RV) (p q : Nat) (s : Int) (w : World) (hR : RB G n b v w) (hG : ∀ k, w.heap.size ≤ k → G k) (hn5 : n ≤ 5) (hp : p < n) (hq : q < n) (hpq : p ≠ q) (hx : ¬ (0 ≤ s ∧ s ≤ 1000)) :
    Calls Tryd.prog 7 #[rbV n be v, mvV 0 p q s] w fun e w' => ∃ v', e = .returned (.tuple #[rbV n be v', .int .i64 1]) ∧ RB G n b v' w' ∧ Below w.heap.size w w' := by
  obtain ⟨W, hW⟩ : ∃ W, (((w.alloc (.cells #[.slice v.pm n v.cm, .slice v.pn n v.cn, .slice v.pw (n * n) v.cw, .slice v.ph (n * n) v.ch, .slice v.pc (n * n) v.cc, .bool be] 27)).alloc (.cells #[.int .i64 0, .int .i64 p, .int .i64 q, .int .i64 s] 38)).alloc (.cells #[.slice none 0 0, .slice none 0 0, .slice none 0 0, .slice none 0 0, .slice none 0 0, .bool false] 27)) = W := ⟨_, rfl⟩
  have S0 := ms_begin be 0 p q s hR hG
  rw [hW] at S0
  have BKG : Hid (∀ j, (G j ∧ j ≠ w.heap.size ∧ j ≠ w.heap.size + 1 ∧ j ≠ w.heap.size + 1 + 1) → G j) := fun j hj => hj.1
  obtain ⟨G', hG'⟩ : ∃ G' : Nat → Prop, (fun j => G j ∧ j ≠ w.heap.size ∧ j ≠ w.heap.size + 1 ∧ j ≠ w.heap.size + 1 + 1) = G' := ⟨_, rfl⟩
  have BK : Hid (∀ j, G' j → G j) := by rw [← hG']; exact BKG
  rw [hG'] at S0
  clear hG' BKG
  obtain ⟨N2, hN2⟩ : ∃ N2, n * n = N2 := ⟨_, rfl⟩
  have HN2 : Hid (n * n = N2) := hN2
  have lN := S0.lb.lt
  have lM := S0.mb.lt
  have lZ := S0.zb.lt
  have l0 := S0.lb.c0
  have l1 := S0.lb.c1
  have l2 := S0.lb.c2
  have l3 := S0.lb.c3
  have l4 := S0.lb.c4
  have l5 := S0.lb.c5
  have m0 := S0.mb.c0
  have m1 := S0.mb.c1
  have m2 := S0.mb.c2
  have m3 := S0.mb.c3
  have z0 := S0.zb.c0
  have z1 := S0.zb.c1
  have z2 := S0.zb.c2
  have z3 := S0.zb.c3
  have z4 := S0.zb.c4
  have z5 := S0.zb.c5
  have f0 := S0.zb.fz 0
  have f1 := S0.zb.fz 1
  have f2 := S0.zb.fz 2
  have f3 := S0.zb.fz 3
  have f4 := S0.zb.fz 4
  have f5 := S0.zb.fz 5
  obtain ⟨m, hm⟩ : ∃ m, p * n = m := ⟨_, rfl⟩
  obtain ⟨j, hj⟩ : ∃ j, m + q = j := ⟨_, rfl⟩
  have hjl : j < N2 := by rw [← hj, ← hm, ← hN2]; exact pair_lt hp hq
  have hN25 : N2 ≤ 25 := by
    have := Nat.mul_le_mul hn5 hn5
    omega
  have hmi : (p : Int) * (n : Int) = (m : Int) := by rw [← hm]; exact (Int.natCast_mul p n).symm
  have hji : (m : Int) + (q : Int) = (j : Int) := by omega
  have hji2 : (j : Int) < (N2 : Int) := by omega
  have hwm : IntKind.i64.wrap (m : Int) = (m : Int) := by rw [IntKind.wrap_i64]; omega
  have hwj : IntKind.i64.wrap (j : Int) = (j : Int) := by rw [IntKind.wrap_i64]; omega
  have HJ : Hid (p * n + q = j) := by show p * n + q = j; rw [hm]; exact hj
  have hne : ((p : Int) == (q : Int)) = false := by simp; omega
  have hne' : (p == q) = false := by simp; omega
  have HPQ : Hid (p ≠ q) := hpq
  obtain ⟨bw, ow, ew, hbw, _, hcw⟩ := S0.rb.wy.at_ (by rw [hN2]; omega)
  have cj : W.cell? ⟨bw, ow + j, none⟩ = some (v.vw j) := hcw j (by rw [hN2]; exact hjl)
  obtain ⟨ad, c1, e1, e2, e3, e4, e5⟩ := S0.rb.wv p q hp hq
  have e1' : v.vw j = .slice ad (b.wy p q).length c1 := by rw [← HJ.out]; exact e1
  rw [e1'] at cj
  obtain ⟨bm, om, em, hbm, _, hcm⟩ := S0.rb.mo.at_ (by omega)
  obtain ⟨l, hll⟩ : ∃ l, b.wy p q = l := ⟨_, rfl⟩
  have HLL : Hid (b.wy p q = l) := hll
  rw [hll] at cj e2 e3 e5 e1'
  have E1 : Hid (v.vw j = .slice ad l.length c1) := e1'
  have E2 : Hid (ad = none → l.length = 0 ∧ c1 = 0) := e2
  have E5 : Hid (FI G' l.length (fun i => .int .i64 (l[i]?.getD 0)) ad W) := e5
  clear hm hj e1 e2 e5 e1' hcw hll hpq
  have cmp : W.cell? ⟨bm, om + p, none⟩ = some (.int .i64 (b.mo p)) := hcm p hp
  obtain ⟨mo, hmo⟩ : ∃ mo, b.mo p = mo := ⟨_, rfl⟩
  rw [hmo] at cmp
  have HMO : Hid (b.mo p = mo) := hmo
  have F : Hid (∀ d, LB (w.heap.size + 1 + 1) n be v (cpy (W.drewN d) (w.heap.size + 1 + 1) n N2 be v.pm v.cm v.pn v.cn v.pw v.cw v.ph v.ch v.pc v.cc) ∧ RB G n b v (cpy (W.drewN d) (w.heap.size + 1 + 1) n N2 be v.pm v.cm v.pn v.cn v.pw v.cw v.ph v.ch v.pc v.cc) ∧ Below w.heap.size w (cpy (W.drewN d) (w.heap.size + 1 + 1) n N2 be v.pm v.cm v.pn v.cn v.pw v.cw v.ph v.ch v.pc v.cc)) := fun d => (S0.later (below_drewN W d)).ret hN2 BK.out
  obtain ⟨pm, cm, pn, cn, pw, cw, ph, ch, pc, cc, vw⟩ := v
  have em' : pm = some ⟨bm, om, none⟩ := em
  have ew' : pw = some ⟨bw, ow, none⟩ := ew
  subst em' ew'
  simp only [rbV, v0] at hW l0 l1 l2 l3 l4 z0 z1 z2 z3 z4 F ⊢
  rw [hN2] at hW l2 l3 l4 ⊢
  clear S0 hR hN2 hG hmo ew em hcm
  go_enter Tryd.func7, Tryd.ntmps7
  go_wp2_with fail
  refine (in_is 0 0 2 true _ (by decide)).mono ?_
  rintro e w9 ⟨rfl, rfl⟩
  go_wp2_with fail
  refine (in_is (p : Int) 0 ((n : Int) - 1) true _ (inB_true (by omega) (by omega))).mono ?_
  rintro e w9 ⟨rfl, rfl⟩
  go_wp2_with fail
  refine (in_is (q : Int) 0 ((n : Int) - 1) true _ (inB_true (by omega) (by omega))).mono ?_
  rintro e w9 ⟨rfl, rfl⟩
  go_wp2_with fail
  refine (in_is s 0 1000 false _ (inB_false hx)).mono ?_
  rintro e w9 ⟨rfl, rfl⟩
  go_wp2_with fail
  obtain rfl := HN2.out
  exact bodyPost_ret (v := .tuple #[rbV n be ⟨some ⟨bm, om, none⟩, cm, pn, cn, some ⟨bw, ow, none⟩, cw, ph, ch, pc, cc, vw⟩, .int .i64 1]) (results_bank rfl _ _ (w.heap.size + 1 + 1) n be _ 1 rfl rfl (F.out 0).1) rfl ⟨_, rfl, (F.out 0).2.1, (F.out 0).2.2⟩
set_option maxRecDepth 100000 in
set_option maxHeartbeats 2000000 in
theorem rmv_pay_none {G : Nat → Prop} {n : Nat} {b : M.Bk} (be : Bool) (v : RV) (p q : Nat) (s : Int) (w : World) (hR : RB G n b v w) (hG : ∀ k, w.heap.size ≤ k → G k) (hn5 : n ≤ 5) (hp : p < n) (hq : q < n) (hpq : p ≠ q) (hs0 : 0 ≤ s) (hs1 : s ≤ 1000) (hx : b.mo p < s) :
    Calls Tryd.prog 7 #[rbV n be v, mvV 0 p q s] w fun e w' => ∃ v', e = .returned (.tuple #[rbV n be v', .int .i64 5]) ∧ RB G n b v' w' ∧ Below w.heap.size w w' := by
  obtain ⟨W, hW⟩ : ∃ W, (((w.alloc (.cells #[.slice v.pm n v.cm, .slice v.pn n v.cn, .slice v.pw (n * n) v.cw, .slice v.ph (n * n) v.ch, .slice v.pc (n * n) v.cc, .bool be] 27)).alloc (.cells #[.int .i64 0, .int .i64 p, .int .i64 q, .int .i64 s] 38)).alloc (.cells #[.slice none 0 0, .slice none 0 0, .slice none 0 0, .slice none 0 0, .slice none 0 0, .bool false] 27)) = W := ⟨_, rfl⟩
  have S0 := ms_begin be 0 p q s hR hG
  rw [hW] at S0
  have BKG : Hid (∀ j, (G j ∧ j ≠ w.heap.size ∧ j ≠ w.heap.size + 1 ∧ j ≠ w.heap.size + 1 + 1) → G j) := fun j hj => hj.1
  obtain ⟨G', hG'⟩ : ∃ G' : Nat → Prop, (fun j => G j ∧ j ≠ w.heap.size ∧ j ≠ w.heap.size + 1 ∧ j ≠ w.heap.size + 1 + 1) = G' := ⟨_, rfl⟩
  have BK : Hid (∀ j, G' j → G j) := by rw [← hG']; exact BKG
  rw [hG'] at S0
  clear hG' BKG
  obtain ⟨N2, hN2⟩ : ∃ N2, n * n = N2 := ⟨_, rfl⟩
  have HN2 : Hid (n * n = N2) := hN2
  have lN := S0.lb.lt
  have lM := S0.mb.lt
  have lZ := S0.zb.lt
  have l0 := S0.lb.c0
  have l1 := S0.lb.c1
  have l2 := S0.lb.c2
  have l3 := S0.lb.c3
  have l4 := S0.lb.c4
  have l5 := S0.lb.c5
  have m0 := S0.mb.c0
  have m1 := S0.mb.c1
  have m2 := S0.mb.c2
  have m3 := S0.mb.c3
  have z0 := S0.zb.c0
  have z1 := S0.zb.c1
  have z2 := S0.zb.c2
  have z3 := S0.zb.c3
  have z4 := S0.zb.c4
  have z5 := S0.zb.c5
  have f0 := S0.zb.fz 0
  have f1 := S0.zb.fz 1
  have f2 := S0.zb.fz 2
  have f3 := S0.zb.fz 3
  have f4 := S0.zb.fz 4
  have f5 := S0.zb.fz 5
  obtain ⟨m, hm⟩ : ∃ m, p * n = m := ⟨_, rfl⟩
  obtain ⟨j, hj⟩ : ∃ j, m + q = j := ⟨_, rfl⟩
  have hjl : j < N2 := by rw [← hj, ← hm, ← hN2]; exact pair_lt hp hq
  have hN25 : N2 ≤ 25 := by
    have := Nat.mul_le_mul hn5 hn5
    omega
  have hmi : (p : Int) * (n : Int) = (m : Int) := by rw [← hm]; exact (Int.natCast_mul p n).symm
  have hji : (m : Int) + (q : Int) = (j : Int) := by omega
  have hji2 : (j : Int) < (N2 : Int) := by omega
  have hwm : IntKind.i64.wrap (m : Int) = (m : Int) := by rw [IntKind.wrap_i64]; omega
  have hwj : IntKind.i64.wrap (j : Int) = (j : Int) := by rw [IntKind.wrap_i64]; omega
  have HJ : Hid (p * n + q = j) := by show p * n + q = j; rw [hm]; exact hj
  have hne : ((p : Int) == (q : Int)) = false := by simp; omega
  have hne' : (p == q) = false := by simp; omega
  have HPQ : Hid (p ≠ q) := hpq
  obtain ⟨bw, ow, ew, hbw, _, hcw⟩ := S0.rb.wy.at_ (by rw [hN2]; omega)
  have cj : W.cell? ⟨bw, ow + j, none⟩ = some (v.vw j) := hcw j (by rw [hN2]; exact hjl)
  obtain ⟨ad, c1, e1, e2, e3, e4, e5⟩ := S0.rb.wv p q hp hq
  have e1' : v.vw j = .slice ad (b.wy p q).length c1 := by rw [← HJ.out]; exact e1
  rw [e1'] at cj
  obtain ⟨bm, om, em, hbm, _, hcm⟩ := S0.rb.mo.at_ (by omega)
  obtain ⟨l, hll⟩ : ∃ l, b.wy p q = l := ⟨_, rfl⟩
  have HLL : Hid (b.wy p q = l) := hll
  rw [hll] at cj e2 e3 e5 e1'
  have E1 : Hid (v.vw j = .slice ad l.length c1) := e1'
  have E2 : Hid (ad = none → l.length = 0 ∧ c1 = 0) := e2
  have E5 : Hid (FI G' l.length (fun i => .int .i64 (l[i]?.getD 0)) ad W) := e5
  clear hm hj e1 e2 e5 e1' hcw hll hpq
  have cmp : W.cell? ⟨bm, om + p, none⟩ = some (.int .i64 (b.mo p)) := hcm p hp
  obtain ⟨mo, hmo⟩ : ∃ mo, b.mo p = mo := ⟨_, rfl⟩
  rw [hmo] at cmp
  have HMO : Hid (b.mo p = mo) := hmo
  have F : Hid (∀ d, LB (w.heap.size + 1 + 1) n be v (cpy (W.drewN d) (w.heap.size + 1 + 1) n N2 be v.pm v.cm v.pn v.cn v.pw v.cw v.ph v.ch v.pc v.cc) ∧ RB G n b v (cpy (W.drewN d) (w.heap.size + 1 + 1) n N2 be v.pm v.cm v.pn v.cn v.pw v.cw v.ph v.ch v.pc v.cc) ∧ Below w.heap.size w (cpy (W.drewN d) (w.heap.size + 1 + 1) n N2 be v.pm v.cm v.pn v.cn v.pw v.cw v.ph v.ch v.pc v.cc)) := fun d => (S0.later (below_drewN W d)).ret hN2 BK.out
  rw [hmo] at hx
  have hd : decide (mo < s) = true := decide_eq_true hx
  obtain ⟨pm, cm, pn, cn, pw, cw, ph, ch, pc, cc, vw⟩ := v
  have em' : pm = some ⟨bm, om, none⟩ := em
  have ew' : pw = some ⟨bw, ow, none⟩ := ew
  subst em' ew'
  simp only [rbV, v0] at hW l0 l1 l2 l3 l4 z0 z1 z2 z3 z4 F ⊢
  rw [hN2] at hW l2 l3 l4 ⊢
  clear S0 hR hN2 hG hmo ew em hcm
  go_enter Tryd.func7, Tryd.ntmps7
  go_wp2_with fail
  refine (in_is 0 0 2 true _ (by decide)).mono ?_
  rintro e w9 ⟨rfl, rfl⟩
  go_wp2_with fail
  refine (in_is (p : Int) 0 ((n : Int) - 1) true _ (inB_true (by omega) (by omega))).mono ?_
  rintro e w9 ⟨rfl, rfl⟩
  go_wp2_with fail
  refine (in_is (q : Int) 0 ((n : Int) - 1) true _ (inB_true (by omega) (by omega))).mono ?_
  rintro e w9 ⟨rfl, rfl⟩
  go_wp2_with fail
  refine (in_is s 0 1000 true _ (inB_true hs0 hs1)).mono ?_
  rintro e w9 ⟨rfl, rfl⟩
  go_wp2_with fail
  go_big_quiet (fail)
  go_wp2_with fail
  obtain rfl := HN2.out
  exact bodyPost_ret (v := .tuple #[rbV n be ⟨some ⟨bm, om, none⟩, cm, pn, cn, some ⟨bw, ow, none⟩, cw, ph, ch, pc, cc, vw⟩, .int .i64 5]) (results_bank rfl _ _ (w.heap.size + 1 + 1) n be _ 5 rfl rfl (F.out nq).1) rfl ⟨_, rfl, (F.out nq).2.1, (F.out nq).2.2⟩
set_option maxRecDepth 100000 in
set_option maxHeartbeats 2000000 in
theorem rmv_pay_full {G : Nat → Prop} {n : Nat} {b : M.Bk} (be : Bool) (v : RV) (p q : Nat) (s : Int) (w : World) (hR : RB G n b v w) (hG : ∀ k, w.heap.size ≤ k → G k) (hn5 : n ≤ 5) (hp : p < n) (hq : q < n) (hpq : p ≠ q) (hs0 : 0 ≤ s) (hs1 : s ≤ 1000) (hx : s ≤ b.mo p) (h8 : 8 ≤ (b.wy p q).length) :
    Calls Tryd.prog 7 #[rbV n be v, mvV 0 p q s] w fun e w' => ∃ v', e = .returned (.tuple #[rbV n be v', .int .i64 4]) ∧ RB G n b v' w' ∧ Below w.heap.size w w' := by
  obtain ⟨W, hW⟩ : ∃ W, (((w.alloc (.cells #[.slice v.pm n v.cm, .slice v.pn n v.cn, .slice v.pw (n * n) v.cw, .slice v.ph (n * n) v.ch, .slice v.pc (n * n) v.cc, .bool be] 27)).alloc (.cells #[.int .i64 0, .int .i64 p, .int .i64 q, .int .i64 s] 38)).alloc (.cells #[.slice none 0 0, .slice none 0 0, .slice none 0 0, .slice none 0 0, .slice none 0 0, .bool false] 27)) = W := ⟨_, rfl⟩
  have S0 := ms_begin be 0 p q s hR hG
  rw [hW] at S0
  have BKG : Hid (∀ j, (G j ∧ j ≠ w.heap.size ∧ j ≠ w.heap.size + 1 ∧ j ≠ w.heap.size + 1 + 1) → G j) := fun j hj => hj.1
  obtain ⟨G', hG'⟩ : ∃ G' : Nat → Prop, (fun j => G j ∧ j ≠ w.heap.size ∧ j ≠ w.heap.size + 1 ∧ j ≠ w.heap.size + 1 + 1) = G' := ⟨_, rfl⟩
  have BK : Hid (∀ j, G' j → G j) := by rw [← hG']; exact BKG
  rw [hG'] at S0
  clear hG' BKG
  obtain ⟨N2, hN2⟩ : ∃ N2, n * n = N2 := ⟨_, rfl⟩
  have HN2 : Hid (n * n = N2) := hN2
  have lN := S0.lb.lt
  have lM := S0.mb.lt
  have lZ := S0.zb.lt
  have l0 := S0.lb.c0
  have l1 := S0.lb.c1
  have l2 := S0.lb.c2
  have l3 := S0.lb.c3
  have l4 := S0.lb.c4
  have l5 := S0.lb.c5
  have m0 := S0.mb.c0
  have m1 := S0.mb.c1
  have m2 := S0.mb.c2
  have m3 := S0.mb.c3
  have z0 := S0.zb.c0
  have z1 := S0.zb.c1
  have z2 := S0.zb.c2
  have z3 := S0.zb.c3
  have z4 := S0.zb.c4
  have z5 := S0.zb.c5
  have f0 := S0.zb.fz 0
  have f1 := S0.zb.fz 1
  have f2 := S0.zb.fz 2
  have f3 := S0.zb.fz 3
  have f4 := S0.zb.fz 4
  have f5 := S0.zb.fz 5
  obtain ⟨m, hm⟩ : ∃ m, p * n = m := ⟨_, rfl⟩
  obtain ⟨j, hj⟩ : ∃ j, m + q = j := ⟨_, rfl⟩
  have hjl : j < N2 := by rw [← hj, ← hm, ← hN2]; exact pair_lt hp hq
  have hN25 : N2 ≤ 25 := by
    have := Nat.mul_le_mul hn5 hn5
    omega
  have hmi : (p : Int) * (n : Int) = (m : Int) := by rw [← hm]; exact (Int.natCast_mul p n).symm
  have hji : (m : Int) + (q : Int) = (j : Int) := by omega
  have hji2 : (j : Int) < (N2 : Int) := by omega
  have hwm : IntKind.i64.wrap (m : Int) = (m : Int) := by rw [IntKind.wrap_i64]; omega
  have hwj : IntKind.i64.wrap (j : Int) = (j : Int) := by rw [IntKind.wrap_i64]; omega
  have HJ : Hid (p * n + q = j) := by show p * n + q = j; rw [hm]; exact hj
  have hne : ((p : Int) == (q : Int)) = false := by simp; omega
  have hne' : (p == q) = false := by simp; omega
  have HPQ : Hid (p ≠ q) := hpq
  obtain ⟨bw, ow, ew, hbw, _, hcw⟩ := S0.rb.wy.at_ (by rw [hN2]; omega)
  have cj : W.cell? ⟨bw, ow + j, none⟩ = some (v.vw j) := hcw j (by rw [hN2]; exact hjl)
  obtain ⟨ad, c1, e1, e2, e3, e4, e5⟩ := S0.rb.wv p q hp hq
  have e1' : v.vw j = .slice ad (b.wy p q).length c1 := by rw [← HJ.out]; exact e1
  rw [e1'] at cj
  obtain ⟨bm, om, em, hbm, _, hcm⟩ := S0.rb.mo.at_ (by omega)
  obtain ⟨l, hll⟩ : ∃ l, b.wy p q = l := ⟨_, rfl⟩
  have HLL : Hid (b.wy p q = l) := hll
  rw [hll] at cj e2 e3 e5 e1'
  have E1 : Hid (v.vw j = .slice ad l.length c1) := e1'
  have E2 : Hid (ad = none → l.length = 0 ∧ c1 = 0) := e2
  have E5 : Hid (FI G' l.length (fun i => .int .i64 (l[i]?.getD 0)) ad W) := e5
  clear hm hj e1 e2 e5 e1' hcw hll hpq
  have cmp : W.cell? ⟨bm, om + p, none⟩ = some (.int .i64 (b.mo p)) := hcm p hp
  obtain ⟨mo, hmo⟩ : ∃ mo, b.mo p = mo := ⟨_, rfl⟩
  rw [hmo] at cmp
  have HMO : Hid (b.mo p = mo) := hmo
  have F : Hid (∀ d, LB (w.heap.size + 1 + 1) n be v (cpy (W.drewN d) (w.heap.size + 1 + 1) n N2 be v.pm v.cm v.pn v.cn v.pw v.cw v.ph v.ch v.pc v.cc) ∧ RB G n b v (cpy (W.drewN d) (w.heap.size + 1 + 1) n N2 be v.pm v.cm v.pn v.cn v.pw v.cw v.ph v.ch v.pc v.cc) ∧ Below w.heap.size w (cpy (W.drewN d) (w.heap.size + 1 + 1) n N2 be v.pm v.cm v.pn v.cn v.pw v.cw v.ph v.ch v.pc v.cc)) := fun d => (S0.later (below_drewN W d)).ret hN2 BK.out
  rw [hmo] at hx
  have hd : decide (mo < s) = false := decide_eq_false (by omega)
  rw [HLL.out] at h8
  have h8i : (8 : Int) ≤ (l.length : Int) := by omega
  obtain ⟨pm, cm, pn, cn, pw, cw, ph, ch, pc, cc, vw⟩ := v
  have em' : pm = some ⟨bm, om, none⟩ := em
  have ew' : pw = some ⟨bw, ow, none⟩ := ew
  subst em' ew'
  simp only [rbV, v0] at hW l0 l1 l2 l3 l4 z0 z1 z2 z3 z4 F ⊢
  rw [hN2] at hW l2 l3 l4 ⊢
  clear S0 hR hN2 hG hmo ew em hcm
  go_enter Tryd.func7, Tryd.ntmps7
  go_wp2_with fail
  refine (in_is 0 0 2 true _ (by decide)).mono ?_
  rintro e w9 ⟨rfl, rfl⟩
  go_wp2_with fail
  refine (in_is (p : Int) 0 ((n : Int) - 1) true _ (inB_true (by omega) (by omega))).mono ?_
  rintro e w9 ⟨rfl, rfl⟩
  go_wp2_with fail
  refine (in_is (q : Int) 0 ((n : Int) - 1) true _ (inB_true (by omega) (by omega))).mono ?_
  rintro e w9 ⟨rfl, rfl⟩
  go_wp2_with fail
  refine (in_is s 0 1000 true _ (inB_true hs0 hs1)).mono ?_
  rintro e w9 ⟨rfl, rfl⟩
  go_wp2_with fail
  go_big_quiet (fail)
  go_wp2_with fail
  obtain rfl := HN2.out
  exact bodyPost_ret (v := .tuple #[rbV n be ⟨some ⟨bm, om, none⟩, cm, pn, cn, some ⟨bw, ow, none⟩, cw, ph, ch, pc, cc, vw⟩, .int .i64 4]) (results_bank rfl _ _ (w.heap.size + 1 + 1) n be _ 4 rfl rfl (F.out nq).1) rfl ⟨_, rfl, (F.out nq).2.1, (F.out nq).2.2⟩
set_option maxRecDepth 100000 in
set_option maxHeartbeats 2000000 in
theorem rmv_pay_ok {G : Nat → Prop} {n : Nat} {b : M.Bk} (be : Bool) (v : RV) (p q : Nat) (s : Int) (w : World) (hR : RB G n b v w) (hG : ∀ k, w.heap.size ≤ k → G k) (hn5 : n ≤ 5) (hp : p < n) (hq : q < n) (hpq : p ≠ q) (hs0 : 0 ≤ s) (hs1 : s ≤ 1000) (hx : s ≤ b.mo p) (h5 : b.mo p ≤ 5000) (h8 : (b.wy p q).length < 8) :
    Calls Tryd.prog 7 #[rbV n be v, mvV 0 p q s] w fun e w' => ∃ v', e = .returned (.tuple #[rbV n be v', .int .i64 0]) ∧ RB G n (M.payB b p q s) v' w' ∧ Below w.heap.size w w' := by
  obtain ⟨W, hW⟩ : ∃ W, (((w.alloc (.cells #[.slice v.pm n v.cm, .slice v.pn n v.cn, .slice v.pw (n * n) v.cw, .slice v.ph (n * n) v.ch, .slice v.pc (n * n) v.cc, .bool be] 27)).alloc (.cells #[.int .i64 0, .int .i64 p, .int .i64 q, .int .i64 s] 38)).alloc (.cells #[.slice none 0 0, .slice none 0 0, .slice none 0 0, .slice none 0 0, .slice none 0 0, .bool false] 27)) = W := ⟨_, rfl⟩
  have S0 := ms_begin be 0 p q s hR hG
  rw [hW] at S0
  have BKG : Hid (∀ j, (G j ∧ j ≠ w.heap.size ∧ j ≠ w.heap.size + 1 ∧ j ≠ w.heap.size + 1 + 1) → G j) := fun j hj => hj.1
  obtain ⟨G', hG'⟩ : ∃ G' : Nat → Prop, (fun j => G j ∧ j ≠ w.heap.size ∧ j ≠ w.heap.size + 1 ∧ j ≠ w.heap.size + 1 + 1) = G' := ⟨_, rfl⟩
  have BK : Hid (∀ j, G' j → G j) := by rw [← hG']; exact BKG
  rw [hG'] at S0
  clear hG' BKG
  obtain ⟨N2, hN2⟩ : ∃ N2, n * n = N2 := ⟨_, rfl⟩
  have HN2 : Hid (n * n = N2) := hN2
  have lN := S0.lb.lt
  have lM := S0.mb.lt
  have lZ := S0.zb.lt
  have l0 := S0.lb.c0
  have l1 := S0.lb.c1
  have l2 := S0.lb.c2
  have l3 := S0.lb.c3
  have l4 := S0.lb.c4
  have l5 := S0.lb.c5
  have m0 := S0.mb.c0
  have m1 := S0.mb.c1
  have m2 := S0.mb.c2
  have m3 := S0.mb.c3
  have z0 := S0.zb.c0
  have z1 := S0.zb.c1
  have z2 := S0.zb.c2
  have z3 := S0.zb.c3
  have z4 := S0.zb.c4
  have z5 := S0.zb.c5
  have f0 := S0.zb.fz 0
  have f1 := S0.zb.fz 1
  have f2 := S0.zb.fz 2
  have f3 := S0.zb.fz 3
  have f4 := S0.zb.fz 4
  have f5 := S0.zb.fz 5
  obtain ⟨m, hm⟩ : ∃ m, p * n = m := ⟨_, rfl⟩
  obtain ⟨j, hj⟩ : ∃ j, m + q = j := ⟨_, rfl⟩
  have hjl : j < N2 := by rw [← hj, ← hm, ← hN2]; exact pair_lt hp hq
  have hN25 : N2 ≤ 25 := by
    have := Nat.mul_le_mul hn5 hn5
    omega
  have hmi : (p : Int) * (n : Int) = (m : Int) := by rw [← hm]; exact (Int.natCast_mul p n).symm
  have hji : (m : Int) + (q : Int) = (j : Int) := by omega
  have hji2 : (j : Int) < (N2 : Int) := by omega
  have hwm : IntKind.i64.wrap (m : Int) = (m : Int) := by rw [IntKind.wrap_i64]; omega
  have hwj : IntKind.i64.wrap (j : Int) = (j : Int) := by rw [IntKind.wrap_i64]; omega
  have HJ : Hid (p * n + q = j) := by show p * n + q = j; rw [hm]; exact hj
  have hne : ((p : Int) == (q : Int)) = false := by simp; omega
  have hne' : (p == q) = false := by simp; omega
  have HPQ : Hid (p ≠ q) := hpq
  obtain ⟨bw, ow, ew, hbw, _, hcw⟩ := S0.rb.wy.at_ (by rw [hN2]; omega)
  have cj : W.cell? ⟨bw, ow + j, none⟩ = some (v.vw j) := hcw j (by rw [hN2]; exact hjl)
  obtain ⟨ad, c1, e1, e2, e3, e4, e5⟩ := S0.rb.wv p q hp hq
  have e1' : v.vw j = .slice ad (b.wy p q).length c1 := by rw [← HJ.out]; exact e1
  rw [e1'] at cj
  obtain ⟨bm, om, em, hbm, _, hcm⟩ := S0.rb.mo.at_ (by omega)
  obtain ⟨l, hll⟩ : ∃ l, b.wy p q = l := ⟨_, rfl⟩
  have HLL : Hid (b.wy p q = l) := hll
  rw [hll] at cj e2 e3 e5 e1'
  have E1 : Hid (v.vw j = .slice ad l.length c1) := e1'
  have E2 : Hid (ad = none → l.length = 0 ∧ c1 = 0) := e2
  have E5 : Hid (FI G' l.length (fun i => .int .i64 (l[i]?.getD 0)) ad W) := e5
  clear hm hj e1 e2 e5 e1' hcw hll hpq
  have cmp : W.cell? ⟨bm, om + p, none⟩ = some (.int .i64 (b.mo p)) := hcm p hp
  obtain ⟨mo, hmo⟩ : ∃ mo, b.mo p = mo := ⟨_, rfl⟩
  rw [hmo] at cmp
  have HMO : Hid (b.mo p = mo) := hmo
  rw [hmo] at hx h5
  have hd : decide (mo < s) = false := decide_eq_false (by omega)
  rw [HLL.out] at h8
  have h8i : (l.length : Int) < (8 : Int) := by omega
  have HS : Hid (MS w.heap.size G' n be b v 0 p q s w W) := S0
  obtain ⟨pm, cm, pn, cn, pw, cw, ph, ch, pc, cc, vw⟩ := v
  have em' : pm = some ⟨bm, om, none⟩ := em
  have ew' : pw = some ⟨bw, ow, none⟩ := ew
  subst em' ew'
  simp only [rbV, v0] at hW l0 l1 l2 l3 l4 z0 z1 z2 z3 z4 ⊢
  rw [hN2] at hW l2 l3 l4 ⊢
  clear S0 hR hN2 hG hmo ew em hcm
  go_enter Tryd.func7, Tryd.ntmps7
  go_wp2_with fail
  refine (in_is 0 0 2 true _ (by decide)).mono ?_
  rintro e w9 ⟨rfl, rfl⟩
  go_wp2_with fail
  refine (in_is (p : Int) 0 ((n : Int) - 1) true _ (inB_true (by omega) (by omega))).mono ?_
  rintro e w9 ⟨rfl, rfl⟩
  go_wp2_with fail
  refine (in_is (q : Int) 0 ((n : Int) - 1) true _ (inB_true (by omega) (by omega))).mono ?_
  rintro e w9 ⟨rfl, rfl⟩
  go_wp2_with fail
  refine (in_is s 0 1000 true _ (inB_true hs0 hs1)).mono ?_
  rintro e w9 ⟨rfl, rfl⟩
  go_wp2_with fail
  go_big_quiet (fail)
  go_wp2_with fail
  obtain ⟨Wd, hWd⟩ : ∃ Wd, W.drewN nq = Wd := ⟨_, rfl⟩
  rw [hWd]
  have S1 : MS w.heap.size G' n be b ⟨some ⟨bm, om, none⟩, cm, pn, cn, some ⟨bw, ow, none⟩, cw, ph, ch, pc, cc, vw⟩ 0 p q s w Wd := by rw [← hWd]; exact HS.out.later (below_drewN W nq)
  have E5d : Hid (FI G' l.length (fun i => .int .i64 (l[i]?.getD 0)) ad Wd) := by rw [← hWd]; exact E5.out.later (below_drewN W nq)
  have cmd : Wd.cell? ⟨bm, om + p, none⟩ = some (.int .i64 mo) := by rw [← hWd]; exact ((below_drewN W nq).cell (p := ⟨bm, om + p, none⟩) hbm).trans cmp
  have sWd : W.heap.size ≤ Wd.heap.size := by rw [← hWd]; exact (below_drewN W nq).size
  have hbmd : bm < Wd.heap.size := by omega
  have lNd : w.heap.size < Wd.heap.size := by omega
  have lMd : w.heap.size + 1 < Wd.heap.size := by omega
  clear l0 l1 l2 l3 l4 l5 z0 z1 z2 z3 z4 z5 f0 f1 f2 f3 f4 f5 m0 m1 m2 m3 hW cmp cj HS E5 hWd hd
  have m1 := S1.mb.c1
  have m3 := S1.mb.c3
  have l0 := S1.lb.c0
  simp only at l0
  go_still_tail 13, (by kernel_rfl)
  go_wp2_with fail
  refine (with_ok (G := G') b.mo n p (mo - s) (some ⟨bm, om, none⟩) cm Wd.drew (by omega) hp S1.rb.mo).mono ?_
  rintro e w4 ⟨pm2, cm2, rfl, _, _, hF4, hB4⟩
  have hB4' : Below Wd.heap.size Wd w4 := (Below.refl _ Wd).drew.trans hB4
  have e0 := (S1.later hB4').lb.c0
  have g0 := (S1.later hB4').lb.fz 0
  simp only at e0
  obtain ⟨w5, hw5⟩ : ∃ w5, w4.setCell ⟨w.heap.size, 0, none⟩ (.slice pm2 n cm2) = w5 := ⟨_, rfl⟩
  have S2 : MS w.heap.size G' n be { b with mo := M.upd1 b.mo p (mo - s) } ⟨pm2, cm2, pn, cn, some ⟨bw, ow, none⟩, cw, ph, ch, pc, cc, vw⟩ 0 p q s w w5 := by
    rw [← hw5]
    exact S1.field hB4' 0 _ (S1.rb.setM hB4' (hF4.mono (fun j _ hj => S1.fr j (by have : Wd.heap.size ≤ j := hj; have := S1.sz; omega)))) ((S1.later hB4').lb.s0 pm2 cm2)
  have E55 : Hid (FI G' l.length (fun i => .int .i64 (l[i]?.getD 0)) ad w5) := by rw [← hw5]; exact (E5d.out.later hB4').set (a := ⟨w.heap.size, 0, none⟩) S1.nl _
  have HS2 : Hid (MS w.heap.size G' n be { b with mo := M.upd1 b.mo p (mo - s) } ⟨pm2, cm2, pn, cn, some ⟨bw, ow, none⟩, cw, ph, ch, pc, cc, vw⟩ 0 p q s w w5) := S2
  clear l0 m1 m3 cmd hF4 hB4 hB4' E5d S1 hbmd lNd lMd
  go_wp2_with fail
  clear hw5 e0 g0
  have m3 := S2.mb.c3
  have l2 := S2.lb.c2
  simp only at l2
  rw [HN2.out] at l2
  have lN5 := S2.lb.lt
  have lM5 := S2.mb.lt
  have hcap := S2.rb.cw
  have hsl := S2.rb.slices
  have hwy := S2.rb.wy
  simp only at hcap hsl hwy
  rw [HN2.out] at hcap hsl hwy
  have HSL : Hid (∀ j, j < N2 → ∃ a l c, vw j = .slice a l c) := hsl
  have HW : Hid (FI G' N2 vw (some ⟨bw, ow, none⟩) w5) := hwy
  clear hsl hwy S2
  have hbeh : Calls Tryd.prog 20 #[.slice ad l.length c1, .int .i64 s] w5.drew fun e w' => ∃ g c', e = .returned (.slice (some ⟨g, 0, none⟩) (l.length + 1) c') ∧ Hid (RW G' (l ++ [s]) (.slice (some ⟨g, 0, none⟩) (l.length + 1) c') w') ∧ Hid (Below w5.heap.size w5 w') ∧ w'.cell? ⟨w.heap.size, 2, none⟩ = some (.slice (some ⟨bw, ow, none⟩) N2 cw) := by
    refine (behind_ok (G := G') l s l.length ad c1 w5.drew rfl (by omega) E2.out E55.out).mono ?_
    rintro e w' ⟨g, c', rfl, k1, k2, hF, hB'⟩
    have hB2 : Below w5.heap.size w5 w' := (Below.refl _ w5).drew.trans hB'
    refine ⟨g, c', rfl, ⟨some ⟨g, 0, none⟩, c', by simp, fun x => absurd x (by simp), by simpa using k1, k2, ?_⟩, hB2, (hB2.cell (p := ⟨w.heap.size, 2, none⟩) lN5).trans l2⟩
    have e : (l ++ [s]).length = l.length + 1 := by simp
    rw [e]
    exact hF.mono (fun j _ hj => HS2.out.fr j (by have : w5.heap.size ≤ j := hj; have := HS2.out.sz; omega))
  have hway : ∀ w' g c', Hid (Below w5.heap.size w5 w') → Calls Tryd.prog 19 #[.slice (some ⟨bw, ow, none⟩) N2 cw, .int .i64 j, .slice (some ⟨g, 0, none⟩) (l.length + 1) c'] w' fun e w'' => ∃ p2 c2, e = .returned (.slice p2 N2 c2) ∧ Hid (N2 ≤ c2 ∧ c2 ≤ maxLen ∧ FI G' N2 (M.upd1 vw j (.slice (some ⟨g, 0, none⟩) (l.length + 1) c')) p2 w'' ∧ Below w'.heap.size w' w'' ∧ Below w5.heap.size w5 w'') ∧ w''.cell? ⟨w.heap.size, 2, none⟩ = some (.slice (some ⟨bw, ow, none⟩) N2 cw) ∧ w''.frozen? ⟨w.heap.size, 2, none⟩ = false := by
    intro w' g c' hBw
    refine (rway_ok (G := G') vw N2 j _ (some ⟨bw, ow, none⟩) cw w' (by omega) hjl hcap.1 hcap.2 HSL.out ⟨_, _, _, rfl⟩ (HW.out.later hBw.out)).mono ?_
    rintro e w'' ⟨p2, c2, rfl, k1, k2, hF, hB'⟩
    have hB2 : Below w5.heap.size w5 w'' := bel_on hBw.out hB'
    exact ⟨p2, c2, rfl, ⟨k1, k2, hF.mono (fun i _ hi => HS2.out.fr i (by have : w'.heap.size ≤ i := hi; have := hBw.out.size; have := HS2.out.sz; omega)), hB', hB2⟩, (hB2.cell (p := ⟨w.heap.size, 2, none⟩) lN5).trans l2, (HS2.out.later hB2).lb.fz 2⟩
  have FIN : Hid (∀ g c' w6 p2 c2 w7, Hid (RW G' (l ++ [s]) (.slice (some ⟨g, 0, none⟩) (l.length + 1) c') w6) → Hid (N2 ≤ c2 ∧ c2 ≤ maxLen ∧ FI G' N2 (M.upd1 vw j (.slice (some ⟨g, 0, none⟩) (l.length + 1) c')) p2 w7 ∧ Below w6.heap.size w6 w7 ∧ Below w5.heap.size w5 w7) →
      ∃ vv : Nat → Value, MS w.heap.size G' n be (M.payB b p q s) ⟨pm2, cm2, pn, cn, p2, c2, ph, ch, pc, cc, vv⟩ 0 p q s w (w7.setCell ⟨w.heap.size, 2, none⟩ (.slice p2 N2 c2))) := by
    intro g c' w6 p2 c2 w7 hW h7
    obtain ⟨k1, k2, hF, hB67, hB7⟩ := h7.out
    have R7 := HS2.out.rb.setW (p := p) (q := q) (u := .slice (some ⟨g, 0, none⟩) (l.length + 1) c') (l := l ++ [s]) (pw := p2) (cw := c2) hB7 hq (by rw [HN2.out, HJ.out]; exact hF) (by rw [HN2.out]; exact ⟨k1, k2⟩) (hW.out.later hB67)
    have eB : M.payB b p q s = { { b with mo := M.upd1 b.mo p (mo - s) } with wy := M.upd2 b.wy p q (l ++ [s]) } := by
      unfold M.payB
      rw [HLL.out, HMO.out]
    rw [eB]
    refine ⟨_, HS2.out.field hB7 2 _ R7 ?_⟩
    rw [← HN2.out]
    exact (HS2.out.later hB7).lb.s2 p2 c2 _
  go_region_with (first | (go_at_call 20; refine hbeh.mono ?_; rintro e w6 ⟨g, c', rfl, hW6, hB6, hc6⟩) | (go_at_call 19; refine (hway _ _ _ hB6).mono ?_; rintro e w7 ⟨p2, c2, rfl, hF7, hc7, hf7⟩))
  all_goals obtain ⟨vv, S3⟩ := FIN.out _ _ _ _ _ _ hW6 hF7
  all_goals clear FIN hbeh hway hW6 hF7 hc6 hc7 hf7 hB6 l2 m3 HSL HW E55 E2 HS2
  all_goals obtain ⟨w8, hw8⟩ : ∃ w8, w7.setCell ⟨w.heap.size, 2, none⟩ (.slice p2 N2 c2) = w8 := ⟨_, rfl⟩
  all_goals rw [hw8] at S3
  all_goals have F := S3.ret HN2.out (G0 := G) BK.out
  all_goals have lN8 := S3.lb.lt
  all_goals have lZ8 := S3.zb.lt
  all_goals have l0 := S3.lb.c0
  all_goals have l1 := S3.lb.c1
  all_goals have l2 := S3.lb.c2
  all_goals have l3 := S3.lb.c3
  all_goals have l4 := S3.lb.c4
  all_goals have l5 := S3.lb.c5
  all_goals have z0 := S3.zb.c0
  all_goals have z1 := S3.zb.c1
  all_goals have z2 := S3.zb.c2
  all_goals have z3 := S3.zb.c3
  all_goals have z4 := S3.zb.c4
  all_goals have z5 := S3.zb.c5
  all_goals have f0 := S3.zb.fz 0
  all_goals have f1 := S3.zb.fz 1
  all_goals have f2 := S3.zb.fz 2
  all_goals have f3 := S3.zb.fz 3
  all_goals have f4 := S3.zb.fz 4
  all_goals have f5 := S3.zb.fz 5
  all_goals simp only [v0] at l0 l1 l2 l3 l4 z0 z1 z2 z3 z4
  all_goals simp only at F
  all_goals rw [HN2.out] at l2 l3 l4
  all_goals have FH : Hid _ := F
  all_goals clear F S3
  all_goals try rw [hw8]
  all_goals go_wp2_with fail
  all_goals obtain rfl := HN2.out
  all_goals exact bodyPost_ret (v := .tuple #[rbV n be ⟨pm2, cm2, pn, cn, p2, c2, ph, ch, pc, cc, vv⟩, .int .i64 0]) (results_bank rfl _ _ (w.heap.size + 1 + 1) n be _ 0 rfl rfl FH.out.1) rfl ⟨_, rfl, FH.out.2.1, FH.out.2.2⟩
end Go.Proofs.YtplplgpfglaajaaDoor
