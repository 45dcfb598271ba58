/- What waits first comes in the document's own bank (package whensteadref2, Move). -/
import Derived.Test.YtplplgpfglaajaaDoorRefB6
namespace Go.Proofs.YtplplgpfglaajaaDoor
open Go.RowKit
theorem infoBo : (Tryd.prog.info? 4).map (fun i => (i.zero, i.size, i.bytes)) = some (some (.bool false), 1, 1) := by kernel_rfl
set_option maxRecDepth 100000 in
set_option maxHeartbeats 2000000 in
theorem rmv_come_none {G : Nat → Prop} {n : Nat} {b : M.Bk} (be : Bool) (v : RV) (p q : Nat) (s : Int) (w : World) (hR : RB G n b v w) (hG : ∀ k, w.heap.size ≤ k → G k) (hn5 : n ≤ 5) (hp : p < n) (hq : q < n) (hpq : p ≠ q) (hw : b.wy p q = []) :
    Calls Tryd.prog 7 #[rbV n be v, mvV 1 p q s] w fun e w' => ∃ v', e = .returned (.tuple #[rbV n be v', .int .i64 5]) ∧ RB G n b v' w' ∧ Below w.heap.size w w' := by
  obtain ⟨W, hW⟩ : ∃ W, (((w.alloc (.cells #[.slice v.pm n v.cm, .slice v.pn n v.cn, .slice v.pw (n * n) v.cw, .slice v.ph (n * n) v.ch, .slice v.pc (n * n) v.cc, .bool be] 27)).alloc (.cells #[.int .i64 1, .int .i64 p, .int .i64 q, .int .i64 s] 38)).alloc (.cells #[.slice none 0 0, .slice none 0 0, .slice none 0 0, .slice none 0 0, .slice none 0 0, .bool false] 27)) = W := ⟨_, rfl⟩
  have S0 := ms_begin be 1 p q s hR hG
  rw [hW] at S0
  have BKG : Hid (∀ j, (G j ∧ j ≠ w.heap.size ∧ j ≠ w.heap.size + 1 ∧ j ≠ w.heap.size + 1 + 1) → G j) := fun j hj => hj.1
  obtain ⟨G', hG'⟩ : ∃ G' : Nat → Prop, (fun j => G j ∧ j ≠ w.heap.size ∧ j ≠ w.heap.size + 1 ∧ j ≠ w.heap.size + 1 + 1) = G' := ⟨_, rfl⟩
  have BK : Hid (∀ j, G' j → G j) := by rw [← hG']; exact BKG
  rw [hG'] at S0
  clear hG' BKG
  obtain ⟨N2, hN2⟩ : ∃ N2, n * n = N2 := ⟨_, rfl⟩
  have HN2 : Hid (n * n = N2) := hN2
  have lN := S0.lb.lt
  have lM := S0.mb.lt
  have lZ := S0.zb.lt
  have l0 := S0.lb.c0
  have l1 := S0.lb.c1
  have l2 := S0.lb.c2
  have l3 := S0.lb.c3
  have l4 := S0.lb.c4
  have l5 := S0.lb.c5
  have m0 := S0.mb.c0
  have m1 := S0.mb.c1
  have m2 := S0.mb.c2
  have m3 := S0.mb.c3
  have z0 := S0.zb.c0
  have z1 := S0.zb.c1
  have z2 := S0.zb.c2
  have z3 := S0.zb.c3
  have z4 := S0.zb.c4
  have z5 := S0.zb.c5
  have f0 := S0.zb.fz 0
  have f1 := S0.zb.fz 1
  have f2 := S0.zb.fz 2
  have f3 := S0.zb.fz 3
  have f4 := S0.zb.fz 4
  have f5 := S0.zb.fz 5
  obtain ⟨m, hm⟩ : ∃ m, p * n = m := ⟨_, rfl⟩
  obtain ⟨j, hj⟩ : ∃ j, m + q = j := ⟨_, rfl⟩
  have hjl : j < N2 := by rw [← hj, ← hm, ← hN2]; exact pair_lt hp hq
  have hN25 : N2 ≤ 25 := by
    have := Nat.mul_le_mul hn5 hn5
    omega
  have hmi : (p : Int) * (n : Int) = (m : Int) := by rw [← hm]; exact (Int.natCast_mul p n).symm
  have hji : (m : Int) + (q : Int) = (j : Int) := by omega
  have hji2 : (j : Int) < (N2 : Int) := by omega
  have hwm : IntKind.i64.wrap (m : Int) = (m : Int) := by rw [IntKind.wrap_i64]; omega
  have hwj : IntKind.i64.wrap (j : Int) = (j : Int) := by rw [IntKind.wrap_i64]; omega
  have HJ : Hid (p * n + q = j) := by show p * n + q = j; rw [hm]; exact hj
  have hne : ((p : Int) == (q : Int)) = false := by simp; omega
  have hne' : (p == q) = false := by simp; omega
  have HPQ : Hid (p ≠ q) := hpq
  obtain ⟨bw, ow, ew, hbw, _, hcw⟩ := S0.rb.wy.at_ (by rw [hN2]; omega)
  have cj : W.cell? ⟨bw, ow + j, none⟩ = some (v.vw j) := hcw j (by rw [hN2]; exact hjl)
  obtain ⟨ad, c1, e1, e2, e3, e4, e5⟩ := S0.rb.wv p q hp hq
  have e1' : v.vw j = .slice ad (b.wy p q).length c1 := by rw [← HJ.out]; exact e1
  rw [e1'] at cj
  obtain ⟨bm, om, em, hbm, _, hcm⟩ := S0.rb.mo.at_ (by omega)
  obtain ⟨l, hll⟩ : ∃ l, b.wy p q = l := ⟨_, rfl⟩
  have HLL : Hid (b.wy p q = l) := hll
  rw [hll] at cj e2 e3 e5 e1'
  have E1 : Hid (v.vw j = .slice ad l.length c1) := e1'
  have E2 : Hid (ad = none → l.length = 0 ∧ c1 = 0) := e2
  have E5 : Hid (FI G' l.length (fun i => .int .i64 (l[i]?.getD 0)) ad W) := e5
  clear hm hj e1 e2 e5 e1' hcw hll hpq
  have F : Hid (∀ d, LB (w.heap.size + 1 + 1) n be v (cpy (W.drewN d) (w.heap.size + 1 + 1) n N2 be v.pm v.cm v.pn v.cn v.pw v.cw v.ph v.ch v.pc v.cc) ∧ RB G n b v (cpy (W.drewN d) (w.heap.size + 1 + 1) n N2 be v.pm v.cm v.pn v.cn v.pw v.cw v.ph v.ch v.pc v.cc) ∧ Below w.heap.size w (cpy (W.drewN d) (w.heap.size + 1 + 1) n N2 be v.pm v.cm v.pn v.cn v.pw v.cw v.ph v.ch v.pc v.cc)) := fun d => (S0.later (below_drewN W d)).ret hN2 BK.out
  have hl0 : l = [] := by rw [← HLL.out]; exact hw
  subst hl0
  rw [List.length_nil] at cj
  obtain ⟨pm, cm, pn, cn, pw, cw, ph, ch, pc, cc, vw⟩ := v
  have em' : pm = some ⟨bm, om, none⟩ := em
  have ew' : pw = some ⟨bw, ow, none⟩ := ew
  subst em' ew'
  simp only [rbV, v0] at hW l0 l1 l2 l3 l4 z0 z1 z2 z3 z4 F ⊢
  rw [hN2] at hW l2 l3 l4 ⊢
  clear S0 hR hN2 hG ew em hcm
  go_enter Tryd.func7, Tryd.ntmps7
  go_wp2_with fail
  refine (in_is 1 0 2 true _ (by decide)).mono ?_
  rintro e w9 ⟨rfl, rfl⟩
  go_wp2_with fail
  refine (in_is (p : Int) 0 ((n : Int) - 1) true _ (inB_true (by omega) (by omega))).mono ?_
  rintro e w9 ⟨rfl, rfl⟩
  go_wp2_with fail
  refine (in_is (q : Int) 0 ((n : Int) - 1) true _ (inB_true (by omega) (by omega))).mono ?_
  rintro e w9 ⟨rfl, rfl⟩
  go_wp2_with fail
  obtain rfl := HN2.out
  exact bodyPost_ret (v := .tuple #[rbV n be ⟨some ⟨bm, om, none⟩, cm, pn, cn, some ⟨bw, ow, none⟩, cw, ph, ch, pc, cc, vw⟩, .int .i64 5]) (results_bank rfl _ _ (w.heap.size + 1 + 1) n be _ 5 rfl rfl (F.out 0).1) rfl ⟨_, rfl, (F.out 0).2.1, (F.out 0).2.2⟩
set_option maxRecDepth 100000 in
set_option maxHeartbeats 2000000 in
theorem rmv_come_mark_old {G : Nat → Prop} {n : Nat} {b : M.Bk} (be : Bool) (v : RV) (p q : Nat) (x : Int) (r : List Int) (s : Int) (w : World) (hR : RB G n b v w) (hG : ∀ k, w.heap.size ≤ k → G k) (hn5 : n ≤ 5) (hp : p < n) (hq : q < n) (hpq : p ≠ q) (hw : b.wy p q = x :: r) (hx : x = -1) (h0 : 0 ≤ b.no q) :
    Calls Tryd.prog 7 #[rbV n be v, mvV 1 p q s] w fun e w' => ∃ v', e = .returned (.tuple #[rbV n be v', .int .i64 0]) ∧ RB G n (M.hearB (M.popB b p q r) p q) v' w' ∧ Below w.heap.size w w' := by
  obtain ⟨W, hW⟩ : ∃ W, (((w.alloc (.cells #[.slice v.pm n v.cm, .slice v.pn n v.cn, .slice v.pw (n * n) v.cw, .slice v.ph (n * n) v.ch, .slice v.pc (n * n) v.cc, .bool be] 27)).alloc (.cells #[.int .i64 1, .int .i64 p, .int .i64 q, .int .i64 s] 38)).alloc (.cells #[.slice none 0 0, .slice none 0 0, .slice none 0 0, .slice none 0 0, .slice none 0 0, .bool false] 27)) = W := ⟨_, rfl⟩
  have S0 := ms_begin be 1 p q s hR hG
  rw [hW] at S0
  have BKG : Hid (∀ j, (G j ∧ j ≠ w.heap.size ∧ j ≠ w.heap.size + 1 ∧ j ≠ w.heap.size + 1 + 1) → G j) := fun j hj => hj.1
  obtain ⟨G', hG'⟩ : ∃ G' : Nat → Prop, (fun j => G j ∧ j ≠ w.heap.size ∧ j ≠ w.heap.size + 1 ∧ j ≠ w.heap.size + 1 + 1) = G' := ⟨_, rfl⟩
  have BK : Hid (∀ j, G' j → G j) := by rw [← hG']; exact BKG
  rw [hG'] at S0
  clear hG' BKG
  obtain ⟨N2, hN2⟩ : ∃ N2, n * n = N2 := ⟨_, rfl⟩
  have HN2 : Hid (n * n = N2) := hN2
  have lN := S0.lb.lt
  have lM := S0.mb.lt
  have lZ := S0.zb.lt
  have l0 := S0.lb.c0
  have l1 := S0.lb.c1
  have l2 := S0.lb.c2
  have l3 := S0.lb.c3
  have l4 := S0.lb.c4
  have l5 := S0.lb.c5
  have m0 := S0.mb.c0
  have m1 := S0.mb.c1
  have m2 := S0.mb.c2
  have m3 := S0.mb.c3
  have z0 := S0.zb.c0
  have z1 := S0.zb.c1
  have z2 := S0.zb.c2
  have z3 := S0.zb.c3
  have z4 := S0.zb.c4
  have z5 := S0.zb.c5
  have f0 := S0.zb.fz 0
  have f1 := S0.zb.fz 1
  have f2 := S0.zb.fz 2
  have f3 := S0.zb.fz 3
  have f4 := S0.zb.fz 4
  have f5 := S0.zb.fz 5
  obtain ⟨m, hm⟩ : ∃ m, p * n = m := ⟨_, rfl⟩
  obtain ⟨j, hj⟩ : ∃ j, m + q = j := ⟨_, rfl⟩
  have hjl : j < N2 := by rw [← hj, ← hm, ← hN2]; exact pair_lt hp hq
  have hN25 : N2 ≤ 25 := by
    have := Nat.mul_le_mul hn5 hn5
    omega
  have hmi : (p : Int) * (n : Int) = (m : Int) := by rw [← hm]; exact (Int.natCast_mul p n).symm
  have hji : (m : Int) + (q : Int) = (j : Int) := by omega
  have hji2 : (j : Int) < (N2 : Int) := by omega
  have hwm : IntKind.i64.wrap (m : Int) = (m : Int) := by rw [IntKind.wrap_i64]; omega
  have hwj : IntKind.i64.wrap (j : Int) = (j : Int) := by rw [IntKind.wrap_i64]; omega
  have HJ : Hid (p * n + q = j) := by show p * n + q = j; rw [hm]; exact hj
  have hne : ((p : Int) == (q : Int)) = false := by simp; omega
  have hne' : (p == q) = false := by simp; omega
  have HPQ : Hid (p ≠ q) := hpq
  obtain ⟨bw, ow, ew, hbw, _, hcw⟩ := S0.rb.wy.at_ (by rw [hN2]; omega)
  have cj : W.cell? ⟨bw, ow + j, none⟩ = some (v.vw j) := hcw j (by rw [hN2]; exact hjl)
  obtain ⟨ad, c1, e1, e2, e3, e4, e5⟩ := S0.rb.wv p q hp hq
  have e1' : v.vw j = .slice ad (b.wy p q).length c1 := by rw [← HJ.out]; exact e1
  rw [e1'] at cj
  obtain ⟨bm, om, em, hbm, _, hcm⟩ := S0.rb.mo.at_ (by omega)
  obtain ⟨l, hll⟩ : ∃ l, b.wy p q = l := ⟨_, rfl⟩
  have HLL : Hid (b.wy p q = l) := hll
  rw [hll] at cj e2 e3 e5 e1'
  have E1 : Hid (v.vw j = .slice ad l.length c1) := e1'
  have E2 : Hid (ad = none → l.length = 0 ∧ c1 = 0) := e2
  have E5 : Hid (FI G' l.length (fun i => .int .i64 (l[i]?.getD 0)) ad W) := e5
  clear hm hj e1 e2 e5 e1' hcw hll hpq
  have hl0 : l = x :: r := by rw [← HLL.out]; exact hw
  subst hl0
  have hr1 : (x :: r).length = r.length + 1 := rfl
  obtain ⟨ba, oa, ea, hba, gba, hca⟩ := E5.out.at_ (by rw [hr1]; omega)
  subst ea
  have cx : W.cell? ⟨ba, oa, none⟩ = some (.int .i64 x) := hca 0 (by rw [hr1]; omega)
  obtain ⟨A, hA, hRW⟩ : ∃ A : Addr, (if c1 = 1 then some (⟨ba, oa, none⟩ : Addr) else some ⟨ba, oa + 1, none⟩) = some A ∧ RW G' r (.slice (some A) ((x :: r).length - 1) (c1 - 1)) W := by
    by_cases h : c1 = 1
    · refine ⟨⟨ba, oa, none⟩, by simp [h], some ⟨ba, oa, none⟩, c1 - 1, by rw [hr1]; rfl, fun e => absurd e (by simp), by omega, by omega, fun i hi => ?_⟩
      rw [hr1] at e3
      omega
    · refine ⟨⟨ba, oa + 1, none⟩, by simp [h], some ⟨ba, oa + 1, none⟩, c1 - 1, by rw [hr1]; rfl, fun e => absurd e (by simp), by omega, by omega, fun i hi => ⟨ba, oa + 1, rfl, hba, gba, ?_⟩⟩
      rw [show oa + 1 + i = oa + (i + 1) by omega, hca (i + 1) (by rw [hr1]; omega)]
      rfl
  obtain ⟨L, hL⟩ : ∃ L, (x :: r).length = L := ⟨_, rfl⟩
  rw [hL] at cj e3 hRW
  have hL0 : 1 ≤ L := by rw [← hL, hr1]; omega
  have hL0' : (1 : Int) ≤ (L : Int) := by omega
  have hL1 : 0 < L := by omega
  have hL1' : (0 : Int) < (L : Int) := by omega
  have hLd : ((L : Int) == 0) = false := by simp; omega
  have hLd' : (L == 0) = false := by simp; omega
  have hLc : L ≤ c1 := e3
  unfold maxLen at e4
  have HRW : Hid (RW G' r (.slice (some A) (L - 1) (c1 - 1)) W) := hRW
  obtain ⟨m', hm'⟩ : ∃ m', q * n = m' := ⟨_, rfl⟩
  obtain ⟨j', hj'⟩ : ∃ j', m' + p = j' := ⟨_, rfl⟩
  have hjl' : j' < N2 := by rw [← hj', ← hm', ← hN2]; exact pair_lt hq hp
  have hmi' : (q : Int) * (n : Int) = (m' : Int) := by rw [← hm']; exact (Int.natCast_mul q n).symm
  have hji' : (m' : Int) + (p : Int) = (j' : Int) := by omega
  have hji2' : (j' : Int) < (N2 : Int) := by omega
  have hwm' : IntKind.i64.wrap (m' : Int) = (m' : Int) := by rw [IntKind.wrap_i64]; omega
  have hwj' : IntKind.i64.wrap (j' : Int) = (j' : Int) := by rw [IntKind.wrap_i64]; omega
  have HJ' : Hid (q * n + p = j') := by show q * n + p = j'; rw [hm']; exact hj'
  have hqi : (q : Int) < n := by omega
  have HS : Hid (MS w.heap.size G' n be b v 1 p q s w W) := S0
  clear hm' hj' hL hr1 hRW hca E5 E1 E2 HLL
  obtain ⟨pm, cm, pn, cn, pw, cw, ph, ch, pc, cc, vw⟩ := v
  have em' : pm = some ⟨bm, om, none⟩ := em
  have ew' : pw = some ⟨bw, ow, none⟩ := ew
  subst em' ew'
  simp only [rbV, v0] at hW l0 l1 l2 l3 l4 z0 z1 z2 z3 z4 ⊢
  rw [hN2] at hW l2 l3 l4 ⊢
  clear S0 hR hN2 hG ew em hcm hw
  have hcap := HS.out.rb.cw
  have hsl := HS.out.rb.slices
  have hwy := HS.out.rb.wy
  simp only at hcap hsl hwy
  rw [HN2.out] at hcap hsl hwy
  have HSL : Hid (∀ j, j < N2 → ∃ a l c, vw j = .slice a l c) := hsl
  have HW : Hid (FI G' N2 vw (some ⟨bw, ow, none⟩) W) := hwy
  clear hsl hwy
  go_enter Tryd.func7, Tryd.ntmps7
  go_wp2_with fail
  refine (in_is 1 0 2 true _ (by decide)).mono ?_
  rintro e w9 ⟨rfl, rfl⟩
  go_wp2_with fail
  refine (in_is (p : Int) 0 ((n : Int) - 1) true _ (inB_true (by omega) (by omega))).mono ?_
  rintro e w9 ⟨rfl, rfl⟩
  go_wp2_with fail
  refine (in_is (q : Int) 0 ((n : Int) - 1) true _ (inB_true (by omega) (by omega))).mono ?_
  rintro e w9 ⟨rfl, rfl⟩
  go_wp2_with fail
  go_still_tail 5, (by kernel_rfl)
  go_wp2_with fail
  refine (rway_ok (G := G') vw N2 j (.slice (some A) (L - 1) (c1 - 1)) (some ⟨bw, ow, none⟩) cw W.drew (by omega) hjl hcap.1 hcap.2 HSL.out ⟨_, _, _, rfl⟩ HW.out).mono ?_
  rintro e w4 ⟨p2, c2, rfl, k1, k2, hF4, hB4⟩
  have hB4' : Below W.heap.size W w4 := (Below.refl _ W).drew.trans hB4
  have e2 := (HS.out.later hB4').lb.c2
  have g2 := (HS.out.later hB4').lb.fz 2
  simp only at e2
  have sz4 := HS.out.sz
  have lN4 := (HS.out.later hB4').lb.lt
  have lM4 := (HS.out.later hB4').mb.lt
  obtain ⟨w5, hw5⟩ : ∃ w5, w4.setCell ⟨w.heap.size, 2, none⟩ (.slice p2 N2 c2) = w5 := ⟨_, rfl⟩
  obtain ⟨vv, hvv⟩ : ∃ vv, M.upd1 vw (p * n + q) (.slice (some A) (L - 1) (c1 - 1)) = vv := ⟨_, rfl⟩
  have S1 : MS w.heap.size G' n be (M.popB b p q r) ⟨some ⟨bm, om, none⟩, cm, pn, cn, p2, c2, ph, ch, pc, cc, vv⟩ 1 p q s w w5 := by
    rw [← hw5, ← hvv]
    refine HS.out.field hB4' 2 _ (HS.out.rb.setW (p := p) (q := q) (u := .slice (some A) (L - 1) (c1 - 1)) (l := r) hB4' hq ?_ (by rw [HN2.out]; exact ⟨k1, k2⟩) (HRW.out.later hB4')) ?_
    · rw [HN2.out, HJ.out]
      exact hF4.mono (fun i _ hi => HS.out.fr i (by have : W.heap.size ≤ i := hi; omega))
    · rw [← HN2.out]; exact (HS.out.later hB4').lb.s2 p2 c2 _
  have cx5 : w5.cell? ⟨ba, oa, none⟩ = some (.int .i64 x) := by
    rw [← hw5]
    exact (World.cell?_of_block (Below.heap_setCell _ _ _ _ (fun e => HS.out.nl (by have e' : ba = w.heap.size := e; rw [← e']; exact gba)))).trans ((hB4'.cell (p := ⟨ba, oa, none⟩) hba).trans cx)
  have hba5 : ba < w5.heap.size := by rw [← hw5]; have := hB4'.size; simp [World.setCell]; omega
  have lN5 := S1.lb.lt
  have lM5 := S1.mb.lt
  have m15 := S1.mb.c1
  have m25 := S1.mb.c2
  have HS1 : Hid (MS w.heap.size G' n be (M.popB b p q r) ⟨some ⟨bm, om, none⟩, cm, pn, cn, p2, c2, ph, ch, pc, cc, vv⟩ 1 p q s w w5) := S1
  clear l0 l1 l2 l3 l4 l5 z0 z1 z2 z3 z4 z5 f0 f1 f2 f3 f4 f5 m0 m1 m2 m3 hW cx cj HS HSL HW hF4 hB4 hB4' HRW k1 k2 hA hvv hba hcap lN lM lZ hbw hbm
  subst hx
  obtain ⟨i2, hb0, hb1, hb2, hb3⟩ := info_parts infoBo
  obtain ⟨bn, on, en, hbn, _, hcn⟩ := S1.rb.no.at_ (by omega)
  have en' : pn = some ⟨bn, on, none⟩ := en
  subst en'
  have cn5 : w5.cell? ⟨bn, on + q, none⟩ = some (.int .i64 (b.no q)) := hcn q hq
  have l15 := S1.lb.c1
  simp only at l15
  clear S1 hcn en
  obtain ⟨no, hno⟩ : ∃ no, b.no q = no := ⟨_, rfl⟩
  rw [hno] at cn5 h0
  have hnd : (no == -1) = false := by simp; omega
  clear hno
  obtain ⟨bh, oh, eh, hbh, _, hch⟩ := HS1.out.rb.he.at_ (by rw [HN2.out]; omega)
  have eh' : ph = some ⟨bh, oh, none⟩ := eh
  subst eh'
  have HH : Hid (∀ i, i < N2 → w5.cell? ⟨bh, oh + i, none⟩ = some (.bool (b.he (i / n) (i % n)))) := by rw [← HN2.out]; exact hch
  have l35 := HS1.out.lb.c3
  simp only at l35
  rw [HN2.out] at l35
  clear hch eh
  go_wp2_with (at_builtin; refine wpList_append_lies _ rfl _ _ 25 rfl w5.heap.size 4 i2 (.bool false) 1 1 Tryd.underlying25 hb0 hb1 hb2 hb3 rfl (by decide) (.slice none 0 0) 0 [] rfl (World.ownsRow_nil _ _ _ _) ⟨bh, oh, none⟩ N2 _ (fcl (fun i => .bool (b.he (i / n) (i % n))) N2) rfl (by rw [fcl_length, Nat.mul_one]) (fun i u hu => by obtain ⟨h1, rfl⟩ := fcl_inv hu; rw [addr_add]; exact HH.out i h1) (fcl_one (fun _ _ => rfl)) (by omega) (by unfold maxLen; omega) (by omega) (Nat.le_refl _) w5.heap.size rfl ?_)
  intro g7 c7 w7 own7 gr7 at7 lt7
  have hg7 : g7 = w5.heap.size := by
    rcases at7 with e | e
    · cases e
    · exact e
  have hB7 : Below w5.heap.size w5 w7 := (Below.refl _ w5).grown gr7 (Nat.le_refl _) (fun i e => by cases e)
  have c77 := own7.cellAt j' (by omega)
  rw [fcl_at _ hjl'] at c77
  have f77 := own7.frozenAt j'
  obtain ⟨own8, _⟩ := own7.stored j' (.bool true)
  rw [fcl_set] at own8
  obtain ⟨w8, hw8⟩ : ∃ w8, w7.setCell ⟨g7, j', none⟩ (.bool true) = w8 := ⟨_, rfl⟩
  rw [hw8] at own8
  have hB8 : Below w5.heap.size w5 w8 := by rw [← hw8]; exact hB7.setCell (p := ⟨g7, j', none⟩) (by show w5.heap.size ≤ g7; omega) _
  have c38 := (HS1.out.later hB8).lb.c3
  have f38 := (HS1.out.later hB8).lb.fz 3
  simp only at c38
  obtain ⟨w9, hw9⟩ : ∃ w9, w8.setCell ⟨w.heap.size, 3, none⟩ (.slice (some ⟨g7, 0, none⟩) N2 c7) = w9 := ⟨_, rfl⟩
  have S9 : MS w.heap.size G' n be (M.hearB (M.popB b p q r) p q) ⟨some ⟨bm, om, none⟩, cm, some ⟨bn, on, none⟩, cn, p2, c2, some ⟨g7, 0, none⟩, c7, pc, cc, vv⟩ 1 p q s w w9 := by
    rw [← hw9]
    refine HS1.out.field hB8 3 _ (HS1.out.rb.setH hB8 (f := M.upd2 b.he q p true) ?_) ?_
    · rw [HN2.out]
      refine (owns_FI own8).mono (fun i _ hi => HS1.out.fr i (by have : w5.heap.size ≤ i := hi; have := HS1.out.sz; omega)) |>.congr (fun i hi => ?_)
      by_cases e : i = j'
      · subst e
        rw [M.upd1_same, ← HJ'.out, pair_div q hp, pair_mod q hp, M.upd2_same]
      · rw [M.upd1_other _ _ e, M.upd2_other _ _ (fun y => e (by rw [← HJ'.out, ← y.1, ← y.2, Nat.mul_comm, Nat.div_add_mod]))]
    · rw [← HN2.out]; exact (HS1.out.later hB8).lb.s3 (some ⟨g7, 0, none⟩) c7
  clear own7 own8 gr7 at7 hB7 hB8 HH hg7
  have lN9 := S9.lb.lt
  have lZ9 := S9.zb.lt
  have l0 := S9.lb.c0
  have l1 := S9.lb.c1
  have l2 := S9.lb.c2
  have l3 := S9.lb.c3
  have l4 := S9.lb.c4
  have l5 := S9.lb.c5
  have z0 := S9.zb.c0
  have z1 := S9.zb.c1
  have z2 := S9.zb.c2
  have z3 := S9.zb.c3
  have z4 := S9.zb.c4
  have z5 := S9.zb.c5
  have f0 := S9.zb.fz 0
  have f1 := S9.zb.fz 1
  have f2 := S9.zb.fz 2
  have f3 := S9.zb.fz 3
  have f4 := S9.zb.fz 4
  have f5 := S9.zb.fz 5
  simp only [v0] at l0 l1 l2 l3 l4 z0 z1 z2 z3 z4
  rw [HN2.out] at l2 l3 l4
  have FE := S9.ret HN2.out (G0 := G) BK.out
  simp only at FE
  have F : Hid (LB (w.heap.size + 1 + 1) n be _ _ ∧ RB G n _ _ _ ∧ Below w.heap.size w _) := FE
  clear FE
  clear S9 l35
  go_wp2_with fail
  obtain rfl := HN2.out
  exact bodyPost_ret (v := .tuple #[rbV n be ⟨some ⟨bm, om, none⟩, cm, some ⟨bn, on, none⟩, cn, p2, c2, some ⟨g7, 0, none⟩, c7, pc, cc, vv⟩, .int .i64 0]) (results_bank rfl _ _ (w.heap.size + 1 + 1) n be _ 0 rfl rfl F.out.1) rfl ⟨_, rfl, F.out.2.1, F.out.2.2⟩
set_option maxRecDepth 100000 in
set_option maxHeartbeats 2000000 in
theorem rmv_come_mark_new {G : Nat → Prop} {n : Nat} {b : M.Bk} (be : Bool) (v : RV) (p q : Nat) (x : Int) (r : List Int) (s : Int) (w : World) (hR : RB G n b v w) (hG : ∀ k, w.heap.size ≤ k → G k) (hn5 : n ≤ 5) (hp : p < n) (hq : q < n) (hpq : p ≠ q) (hw : b.wy p q = x :: r) (hx : x = -1) (h0 : b.no q = -1) (hl9 : ∀ c, ((M.popB b p q r).wy q c).length ≤ 50) :
    Calls Tryd.prog 7 #[rbV n be v, mvV 1 p q s] w fun e w' => ∃ v', e = .returned (.tuple #[rbV n true v', .int .i64 0]) ∧ RB G n (M.hearB (M.noteB n (M.popB b p q r) q) p q) v' w' ∧ Below w.heap.size w w' := by
  obtain ⟨W, hW⟩ : ∃ W, (((w.alloc (.cells #[.slice v.pm n v.cm, .slice v.pn n v.cn, .slice v.pw (n * n) v.cw, .slice v.ph (n * n) v.ch, .slice v.pc (n * n) v.cc, .bool be] 27)).alloc (.cells #[.int .i64 1, .int .i64 p, .int .i64 q, .int .i64 s] 38)).alloc (.cells #[.slice none 0 0, .slice none 0 0, .slice none 0 0, .slice none 0 0, .slice none 0 0, .bool false] 27)) = W := ⟨_, rfl⟩
  have S0 := ms_begin be 1 p q s hR hG
  rw [hW] at S0
  have BKG : Hid (∀ j, (G j ∧ j ≠ w.heap.size ∧ j ≠ w.heap.size + 1 ∧ j ≠ w.heap.size + 1 + 1) → G j) := fun j hj => hj.1
  obtain ⟨G', hG'⟩ : ∃ G' : Nat → Prop, (fun j => G j ∧ j ≠ w.heap.size ∧ j ≠ w.heap.size + 1 ∧ j ≠ w.heap.size + 1 + 1) = G' := ⟨_, rfl⟩
  have BK : Hid (∀ j, G' j → G j) := by rw [← hG']; exact BKG
  rw [hG'] at S0
  clear hG' BKG
  obtain ⟨N2, hN2⟩ : ∃ N2, n * n = N2 := ⟨_, rfl⟩
  have HN2 : Hid (n * n = N2) := hN2
  have lN := S0.lb.lt
  have lM := S0.mb.lt
  have lZ := S0.zb.lt
  have l0 := S0.lb.c0
  have l1 := S0.lb.c1
  have l2 := S0.lb.c2
  have l3 := S0.lb.c3
  have l4 := S0.lb.c4
  have l5 := S0.lb.c5
  have m0 := S0.mb.c0
  have m1 := S0.mb.c1
  have m2 := S0.mb.c2
  have m3 := S0.mb.c3
  have z0 := S0.zb.c0
  have z1 := S0.zb.c1
  have z2 := S0.zb.c2
  have z3 := S0.zb.c3
  have z4 := S0.zb.c4
  have z5 := S0.zb.c5
  have f0 := S0.zb.fz 0
  have f1 := S0.zb.fz 1
  have f2 := S0.zb.fz 2
  have f3 := S0.zb.fz 3
  have f4 := S0.zb.fz 4
  have f5 := S0.zb.fz 5
  obtain ⟨m, hm⟩ : ∃ m, p * n = m := ⟨_, rfl⟩
  obtain ⟨j, hj⟩ : ∃ j, m + q = j := ⟨_, rfl⟩
  have hjl : j < N2 := by rw [← hj, ← hm, ← hN2]; exact pair_lt hp hq
  have hN25 : N2 ≤ 25 := by
    have := Nat.mul_le_mul hn5 hn5
    omega
  have hmi : (p : Int) * (n : Int) = (m : Int) := by rw [← hm]; exact (Int.natCast_mul p n).symm
  have hji : (m : Int) + (q : Int) = (j : Int) := by omega
  have hji2 : (j : Int) < (N2 : Int) := by omega
  have hwm : IntKind.i64.wrap (m : Int) = (m : Int) := by rw [IntKind.wrap_i64]; omega
  have hwj : IntKind.i64.wrap (j : Int) = (j : Int) := by rw [IntKind.wrap_i64]; omega
  have HJ : Hid (p * n + q = j) := by show p * n + q = j; rw [hm]; exact hj
  have hne : ((p : Int) == (q : Int)) = false := by simp; omega
  have hne' : (p == q) = false := by simp; omega
  have HPQ : Hid (p ≠ q) := hpq
  obtain ⟨bw, ow, ew, hbw, _, hcw⟩ := S0.rb.wy.at_ (by rw [hN2]; omega)
  have cj : W.cell? ⟨bw, ow + j, none⟩ = some (v.vw j) := hcw j (by rw [hN2]; exact hjl)
  obtain ⟨ad, c1, e1, e2, e3, e4, e5⟩ := S0.rb.wv p q hp hq
  have e1' : v.vw j = .slice ad (b.wy p q).length c1 := by rw [← HJ.out]; exact e1
  rw [e1'] at cj
  obtain ⟨bm, om, em, hbm, _, hcm⟩ := S0.rb.mo.at_ (by omega)
  obtain ⟨l, hll⟩ : ∃ l, b.wy p q = l := ⟨_, rfl⟩
  have HLL : Hid (b.wy p q = l) := hll
  rw [hll] at cj e2 e3 e5 e1'
  have E1 : Hid (v.vw j = .slice ad l.length c1) := e1'
  have E2 : Hid (ad = none → l.length = 0 ∧ c1 = 0) := e2
  have E5 : Hid (FI G' l.length (fun i => .int .i64 (l[i]?.getD 0)) ad W) := e5
  clear hm hj e1 e2 e5 e1' hcw hll hpq
  have hl0 : l = x :: r := by rw [← HLL.out]; exact hw
  subst hl0
  have hr1 : (x :: r).length = r.length + 1 := rfl
  obtain ⟨ba, oa, ea, hba, gba, hca⟩ := E5.out.at_ (by rw [hr1]; omega)
  subst ea
  have cx : W.cell? ⟨ba, oa, none⟩ = some (.int .i64 x) := hca 0 (by rw [hr1]; omega)
  obtain ⟨A, hA, hRW⟩ : ∃ A : Addr, (if c1 = 1 then some (⟨ba, oa, none⟩ : Addr) else some ⟨ba, oa + 1, none⟩) = some A ∧ RW G' r (.slice (some A) ((x :: r).length - 1) (c1 - 1)) W := by
    by_cases h : c1 = 1
    · refine ⟨⟨ba, oa, none⟩, by simp [h], some ⟨ba, oa, none⟩, c1 - 1, by rw [hr1]; rfl, fun e => absurd e (by simp), by omega, by omega, fun i hi => ?_⟩
      rw [hr1] at e3
      omega
    · refine ⟨⟨ba, oa + 1, none⟩, by simp [h], some ⟨ba, oa + 1, none⟩, c1 - 1, by rw [hr1]; rfl, fun e => absurd e (by simp), by omega, by omega, fun i hi => ⟨ba, oa + 1, rfl, hba, gba, ?_⟩⟩
      rw [show oa + 1 + i = oa + (i + 1) by omega, hca (i + 1) (by rw [hr1]; omega)]
      rfl
  obtain ⟨L, hL⟩ : ∃ L, (x :: r).length = L := ⟨_, rfl⟩
  rw [hL] at cj e3 hRW
  have hL0 : 1 ≤ L := by rw [← hL, hr1]; omega
  have hL0' : (1 : Int) ≤ (L : Int) := by omega
  have hL1 : 0 < L := by omega
  have hL1' : (0 : Int) < (L : Int) := by omega
  have hLd : ((L : Int) == 0) = false := by simp; omega
  have hLd' : (L == 0) = false := by simp; omega
  have hLc : L ≤ c1 := e3
  unfold maxLen at e4
  have HRW : Hid (RW G' r (.slice (some A) (L - 1) (c1 - 1)) W) := hRW
  obtain ⟨m', hm'⟩ : ∃ m', q * n = m' := ⟨_, rfl⟩
  obtain ⟨j', hj'⟩ : ∃ j', m' + p = j' := ⟨_, rfl⟩
  have hjl' : j' < N2 := by rw [← hj', ← hm', ← hN2]; exact pair_lt hq hp
  have hmi' : (q : Int) * (n : Int) = (m' : Int) := by rw [← hm']; exact (Int.natCast_mul q n).symm
  have hji' : (m' : Int) + (p : Int) = (j' : Int) := by omega
  have hji2' : (j' : Int) < (N2 : Int) := by omega
  have hwm' : IntKind.i64.wrap (m' : Int) = (m' : Int) := by rw [IntKind.wrap_i64]; omega
  have hwj' : IntKind.i64.wrap (j' : Int) = (j' : Int) := by rw [IntKind.wrap_i64]; omega
  have HJ' : Hid (q * n + p = j') := by show q * n + p = j'; rw [hm']; exact hj'
  have hqi : (q : Int) < n := by omega
  have HS : Hid (MS w.heap.size G' n be b v 1 p q s w W) := S0
  clear hm' hj' hL hr1 hRW hca E5 E1 E2 HLL
  obtain ⟨pm, cm, pn, cn, pw, cw, ph, ch, pc, cc, vw⟩ := v
  have em' : pm = some ⟨bm, om, none⟩ := em
  have ew' : pw = some ⟨bw, ow, none⟩ := ew
  subst em' ew'
  simp only [rbV, v0] at hW l0 l1 l2 l3 l4 z0 z1 z2 z3 z4 ⊢
  rw [hN2] at hW l2 l3 l4 ⊢
  clear S0 hR hN2 hG ew em hcm hw
  have hcap := HS.out.rb.cw
  have hsl := HS.out.rb.slices
  have hwy := HS.out.rb.wy
  simp only at hcap hsl hwy
  rw [HN2.out] at hcap hsl hwy
  have HSL : Hid (∀ j, j < N2 → ∃ a l c, vw j = .slice a l c) := hsl
  have HW : Hid (FI G' N2 vw (some ⟨bw, ow, none⟩) W) := hwy
  clear hsl hwy
  go_enter Tryd.func7, Tryd.ntmps7
  go_wp2_with fail
  refine (in_is 1 0 2 true _ (by decide)).mono ?_
  rintro e w9 ⟨rfl, rfl⟩
  go_wp2_with fail
  refine (in_is (p : Int) 0 ((n : Int) - 1) true _ (inB_true (by omega) (by omega))).mono ?_
  rintro e w9 ⟨rfl, rfl⟩
  go_wp2_with fail
  refine (in_is (q : Int) 0 ((n : Int) - 1) true _ (inB_true (by omega) (by omega))).mono ?_
  rintro e w9 ⟨rfl, rfl⟩
  go_wp2_with fail
  go_still_tail 5, (by kernel_rfl)
  go_wp2_with fail
  refine (rway_ok (G := G') vw N2 j (.slice (some A) (L - 1) (c1 - 1)) (some ⟨bw, ow, none⟩) cw W.drew (by omega) hjl hcap.1 hcap.2 HSL.out ⟨_, _, _, rfl⟩ HW.out).mono ?_
  rintro e w4 ⟨p2, c2, rfl, k1, k2, hF4, hB4⟩
  have hB4' : Below W.heap.size W w4 := (Below.refl _ W).drew.trans hB4
  have e2 := (HS.out.later hB4').lb.c2
  have g2 := (HS.out.later hB4').lb.fz 2
  simp only at e2
  have sz4 := HS.out.sz
  have lN4 := (HS.out.later hB4').lb.lt
  have lM4 := (HS.out.later hB4').mb.lt
  obtain ⟨w5, hw5⟩ : ∃ w5, w4.setCell ⟨w.heap.size, 2, none⟩ (.slice p2 N2 c2) = w5 := ⟨_, rfl⟩
  obtain ⟨vv, hvv⟩ : ∃ vv, M.upd1 vw (p * n + q) (.slice (some A) (L - 1) (c1 - 1)) = vv := ⟨_, rfl⟩
  have S1 : MS w.heap.size G' n be (M.popB b p q r) ⟨some ⟨bm, om, none⟩, cm, pn, cn, p2, c2, ph, ch, pc, cc, vv⟩ 1 p q s w w5 := by
    rw [← hw5, ← hvv]
    refine HS.out.field hB4' 2 _ (HS.out.rb.setW (p := p) (q := q) (u := .slice (some A) (L - 1) (c1 - 1)) (l := r) hB4' hq ?_ (by rw [HN2.out]; exact ⟨k1, k2⟩) (HRW.out.later hB4')) ?_
    · rw [HN2.out, HJ.out]
      exact hF4.mono (fun i _ hi => HS.out.fr i (by have : W.heap.size ≤ i := hi; omega))
    · rw [← HN2.out]; exact (HS.out.later hB4').lb.s2 p2 c2 _
  have cx5 : w5.cell? ⟨ba, oa, none⟩ = some (.int .i64 x) := by
    rw [← hw5]
    exact (World.cell?_of_block (Below.heap_setCell _ _ _ _ (fun e => HS.out.nl (by have e' : ba = w.heap.size := e; rw [← e']; exact gba)))).trans ((hB4'.cell (p := ⟨ba, oa, none⟩) hba).trans cx)
  have hba5 : ba < w5.heap.size := by rw [← hw5]; have := hB4'.size; simp [World.setCell]; omega
  have lN5 := S1.lb.lt
  have lM5 := S1.mb.lt
  have m15 := S1.mb.c1
  have m25 := S1.mb.c2
  have HS1 : Hid (MS w.heap.size G' n be (M.popB b p q r) ⟨some ⟨bm, om, none⟩, cm, pn, cn, p2, c2, ph, ch, pc, cc, vv⟩ 1 p q s w w5) := S1
  clear l0 l1 l2 l3 l4 l5 z0 z1 z2 z3 z4 z5 f0 f1 f2 f3 f4 f5 m0 m1 m2 m3 hW cx cj HS HSL HW hF4 hB4 hB4' HRW k1 k2 hA hvv hba hcap lN lM lZ hbw hbm
  subst hx
  obtain ⟨i2, hb0, hb1, hb2, hb3⟩ := info_parts infoBo
  obtain ⟨bn, on, en, hbn, _, hcn⟩ := S1.rb.no.at_ (by omega)
  have en' : pn = some ⟨bn, on, none⟩ := en
  subst en'
  have cn5 : w5.cell? ⟨bn, on + q, none⟩ = some (.int .i64 (b.no q)) := hcn q hq
  have l15 := S1.lb.c1
  simp only at l15
  clear S1 hcn en
  rw [h0] at cn5
  have l05 := HS1.out.lb.c0
  have l25 := HS1.out.lb.c2
  have l35 := HS1.out.lb.c3
  have l45 := HS1.out.lb.c4
  have l55 := HS1.out.lb.c5
  simp only at l05 l25 l35 l45
  rw [HN2.out] at l25 l35 l45
  have hcall := rnote_ok be ⟨some ⟨bm, om, none⟩, cm, some ⟨bn, on, none⟩, cn, p2, c2, ph, ch, pc, cc, vv⟩ q w5 HS1.out.rb (HS1.out.fresh (Below.refl _ _)) hq hn5 hl9
  simp only [rbV] at hcall
  rw [HN2.out] at hcall
  clear h0 hl9
  go_wp2_with fail
  refine hcall.mono ?_
  rintro e w6 ⟨v6, rfl, hR6, hB6⟩
  obtain ⟨wN, hwN⟩ : ∃ wN, cpy w6 w.heap.size n N2 true v6.pm v6.cm v6.pn v6.cn v6.pw v6.cw v6.ph v6.ch v6.pc v6.cc = wN := ⟨_, rfl⟩
  have SN : MS w.heap.size G' n true (M.noteB n (M.popB b p q r) q) v6 1 p q s w wN := by rw [← hwN]; exact HS1.out.whole hB6 HN2.out hR6
  have y0 := (HS1.out.later hB6).lb.c0
  have y1 := (HS1.out.later hB6).lb.c1
  have y2 := (HS1.out.later hB6).lb.c2
  have y3 := (HS1.out.later hB6).lb.c3
  have y4 := (HS1.out.later hB6).lb.c4
  have y5 := (HS1.out.later hB6).lb.c5
  have x0 := (HS1.out.later hB6).lb.fz 0
  have x1 := (HS1.out.later hB6).lb.fz 1
  have x2 := (HS1.out.later hB6).lb.fz 2
  have x3 := (HS1.out.later hB6).lb.fz 3
  have x4 := (HS1.out.later hB6).lb.fz 4
  have x5 := (HS1.out.later hB6).lb.fz 5
  have lN6 := (HS1.out.later hB6).lb.lt
  have HSN : Hid (MS w.heap.size G' n true (M.noteB n (M.popB b p q r) q) v6 1 p q s w wN) := SN
  obtain ⟨pm6, cm6, pn6, cn6, pw6, cw6, ph6, ch6, pc6, cc6, vw6⟩ := v6
  simp only [cpy] at hwN y0 y1 y2 y3 y4 ⊢
  clear SN l05 l15 l25 l35 l45 l55 cn5 cx5 m15 m25 hw5 hcall hR6 hB6 e2 g2 hbn
  obtain ⟨bh, oh, eh, hbh, _, hch⟩ := HSN.out.rb.he.at_ (by rw [HN2.out]; omega)
  have eh' : ph6 = some ⟨bh, oh, none⟩ := eh
  subst eh'
  have HH : Hid (∀ i, i < N2 → wN.cell? ⟨bh, oh + i, none⟩ = some (.bool (b.he (i / n) (i % n)))) := by rw [← HN2.out]; exact hch
  have l35 := HSN.out.lb.c3
  simp only at l35
  rw [HN2.out] at l35
  clear hch eh
  go_wp2_with (at_builtin; refine wpList_append_lies _ rfl _ _ 25 rfl wN.heap.size 4 i2 (.bool false) 1 1 Tryd.underlying25 hb0 hb1 hb2 hb3 rfl (by decide) (.slice none 0 0) 0 [] rfl (World.ownsRow_nil _ _ _ _) ⟨bh, oh, none⟩ N2 _ (fcl (fun i => .bool (b.he (i / n) (i % n))) N2) rfl (by rw [fcl_length, Nat.mul_one]) (fun i u hu => by obtain ⟨h1, rfl⟩ := fcl_inv hu; rw [addr_add]; exact HH.out i h1) (fcl_one (fun _ _ => rfl)) (by omega) (by unfold maxLen; omega) (by omega) (Nat.le_refl _) wN.heap.size rfl ?_)
  intro g7 c7 w7 own7 gr7 at7 lt7
  have hg7 : g7 = wN.heap.size := by
    rcases at7 with e | e
    · cases e
    · exact e
  have hB7 : Below wN.heap.size wN w7 := (Below.refl _ wN).grown gr7 (Nat.le_refl _) (fun i e => by cases e)
  have c77 := own7.cellAt j' (by omega)
  rw [fcl_at _ hjl'] at c77
  have f77 := own7.frozenAt j'
  obtain ⟨own8, _⟩ := own7.stored j' (.bool true)
  rw [fcl_set] at own8
  obtain ⟨w8, hw8⟩ : ∃ w8, w7.setCell ⟨g7, j', none⟩ (.bool true) = w8 := ⟨_, rfl⟩
  rw [hw8] at own8
  have hB8 : Below wN.heap.size wN w8 := by rw [← hw8]; exact hB7.setCell (p := ⟨g7, j', none⟩) (by show wN.heap.size ≤ g7; omega) _
  have c38 := (HSN.out.later hB8).lb.c3
  have f38 := (HSN.out.later hB8).lb.fz 3
  simp only at c38
  obtain ⟨w9, hw9⟩ : ∃ w9, w8.setCell ⟨w.heap.size, 3, none⟩ (.slice (some ⟨g7, 0, none⟩) N2 c7) = w9 := ⟨_, rfl⟩
  have S9 : MS w.heap.size G' n true (M.hearB (M.noteB n (M.popB b p q r) q) p q) ⟨pm6, cm6, pn6, cn6, pw6, cw6, some ⟨g7, 0, none⟩, c7, pc6, cc6, vw6⟩ 1 p q s w w9 := by
    rw [← hw9]
    refine HSN.out.field hB8 3 _ (HSN.out.rb.setH hB8 (f := M.upd2 b.he q p true) ?_) ?_
    · rw [HN2.out]
      refine (owns_FI own8).mono (fun i _ hi => HSN.out.fr i (by have : wN.heap.size ≤ i := hi; have := HSN.out.sz; omega)) |>.congr (fun i hi => ?_)
      by_cases e : i = j'
      · subst e
        rw [M.upd1_same, ← HJ'.out, pair_div q hp, pair_mod q hp, M.upd2_same]
      · rw [M.upd1_other _ _ e, M.upd2_other _ _ (fun y => e (by rw [← HJ'.out, ← y.1, ← y.2, Nat.mul_comm, Nat.div_add_mod]))]
    · rw [← HN2.out]; exact (HSN.out.later hB8).lb.s3 (some ⟨g7, 0, none⟩) c7
  clear own7 own8 gr7 at7 hB7 hB8 HH hg7
  have lN9 := S9.lb.lt
  have lZ9 := S9.zb.lt
  have l0 := S9.lb.c0
  have l1 := S9.lb.c1
  have l2 := S9.lb.c2
  have l3 := S9.lb.c3
  have l4 := S9.lb.c4
  have l5 := S9.lb.c5
  have z0 := S9.zb.c0
  have z1 := S9.zb.c1
  have z2 := S9.zb.c2
  have z3 := S9.zb.c3
  have z4 := S9.zb.c4
  have z5 := S9.zb.c5
  have f0 := S9.zb.fz 0
  have f1 := S9.zb.fz 1
  have f2 := S9.zb.fz 2
  have f3 := S9.zb.fz 3
  have f4 := S9.zb.fz 4
  have f5 := S9.zb.fz 5
  simp only [v0] at l0 l1 l2 l3 l4 z0 z1 z2 z3 z4
  rw [HN2.out] at l2 l3 l4
  have FE := S9.ret HN2.out (G0 := G) BK.out
  simp only at FE
  have F : Hid (LB (w.heap.size + 1 + 1) n true _ _ ∧ RB G n _ _ _ ∧ Below w.heap.size w _) := FE
  clear FE
  clear S9 l35
  go_wp2_with fail
  obtain rfl := HN2.out
  exact bodyPost_ret (v := .tuple #[rbV n true ⟨pm6, cm6, pn6, cn6, pw6, cw6, some ⟨g7, 0, none⟩, c7, pc6, cc6, vw6⟩, .int .i64 0]) (results_bank rfl _ _ (w.heap.size + 1 + 1) n true _ 0 rfl rfl F.out.1) rfl ⟨_, rfl, F.out.2.1, F.out.2.2⟩
end Go.Proofs.YtplplgpfglaajaaDoor
