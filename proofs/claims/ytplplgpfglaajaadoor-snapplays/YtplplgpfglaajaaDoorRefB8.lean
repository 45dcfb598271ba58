/- A sum comes in the document's own bank (package whensteadref2, Move). -/
import Derived.Test.YtplplgpfglaajaaDoorRefB7
namespace Go.Proofs.YtplplgpfglaajaaDoor
open Go.RowKit
set_option maxRecDepth 100000 in
set_option maxHeartbeats 2000000 in
theorem rmv_come_new {G : Nat → Prop} {n : Nat} {b : M.Bk} (be : Bool) (v : RV) (p q : Nat) (x : Int) (r : List Int) (s : Int) (w : World) (hR : RB G n b v w) (hG : ∀ k, w.heap.size ≤ k → G k) (hn5 : n ≤ 5) (hp : p < n) (hq : q < n) (hpq : p ≠ q) (hw : b.wy p q = x :: r) (hx : x ≠ -1) (hx0 : 0 ≤ x) (hx5 : x ≤ 5000) (hm0 : 0 ≤ b.mo q) (hm5 : b.mo q ≤ 5000) (h0 : ¬ 0 ≤ b.no q) :
    Calls Tryd.prog 7 #[rbV n be v, mvV 1 p q s] w fun e w' => ∃ v', e = .returned (.tuple #[rbV n be v', .int .i64 0]) ∧ RB G n { b with mo := M.upd1 b.mo q (b.mo q + x), wy := M.upd2 b.wy p q r } v' w' ∧ Below w.heap.size w w' := by
  obtain ⟨W, hW⟩ : ∃ W, (((w.alloc (.cells #[.slice v.pm n v.cm, .slice v.pn n v.cn, .slice v.pw (n * n) v.cw, .slice v.ph (n * n) v.ch, .slice v.pc (n * n) v.cc, .bool be] 27)).alloc (.cells #[.int .i64 1, .int .i64 p, .int .i64 q, .int .i64 s] 38)).alloc (.cells #[.slice none 0 0, .slice none 0 0, .slice none 0 0, .slice none 0 0, .slice none 0 0, .bool false] 27)) = W := ⟨_, rfl⟩
  have S0 := ms_begin be 1 p q s hR hG
  rw [hW] at S0
  have BKG : Hid (∀ j, (G j ∧ j ≠ w.heap.size ∧ j ≠ w.heap.size + 1 ∧ j ≠ w.heap.size + 1 + 1) → G j) := fun j hj => hj.1
  obtain ⟨G', hG'⟩ : ∃ G' : Nat → Prop, (fun j => G j ∧ j ≠ w.heap.size ∧ j ≠ w.heap.size + 1 ∧ j ≠ w.heap.size + 1 + 1) = G' := ⟨_, rfl⟩
  have BK : Hid (∀ j, G' j → G j) := by rw [← hG']; exact BKG
  rw [hG'] at S0
  clear hG' BKG
  obtain ⟨N2, hN2⟩ : ∃ N2, n * n = N2 := ⟨_, rfl⟩
  have HN2 : Hid (n * n = N2) := hN2
  have lN := S0.lb.lt
  have lM := S0.mb.lt
  have lZ := S0.zb.lt
  have l0 := S0.lb.c0
  have l1 := S0.lb.c1
  have l2 := S0.lb.c2
  have l3 := S0.lb.c3
  have l4 := S0.lb.c4
  have l5 := S0.lb.c5
  have m0 := S0.mb.c0
  have m1 := S0.mb.c1
  have m2 := S0.mb.c2
  have m3 := S0.mb.c3
  have z0 := S0.zb.c0
  have z1 := S0.zb.c1
  have z2 := S0.zb.c2
  have z3 := S0.zb.c3
  have z4 := S0.zb.c4
  have z5 := S0.zb.c5
  have f0 := S0.zb.fz 0
  have f1 := S0.zb.fz 1
  have f2 := S0.zb.fz 2
  have f3 := S0.zb.fz 3
  have f4 := S0.zb.fz 4
  have f5 := S0.zb.fz 5
  obtain ⟨m, hm⟩ : ∃ m, p * n = m := ⟨_, rfl⟩
  obtain ⟨j, hj⟩ : ∃ j, m + q = j := ⟨_, rfl⟩
  have hjl : j < N2 := by rw [← hj, ← hm, ← hN2]; exact pair_lt hp hq
  have hN25 : N2 ≤ 25 := by
    have := Nat.mul_le_mul hn5 hn5
    omega
  have hmi : (p : Int) * (n : Int) = (m : Int) := by rw [← hm]; exact (Int.natCast_mul p n).symm
  have hji : (m : Int) + (q : Int) = (j : Int) := by omega
  have hji2 : (j : Int) < (N2 : Int) := by omega
  have hwm : IntKind.i64.wrap (m : Int) = (m : Int) := by rw [IntKind.wrap_i64]; omega
  have hwj : IntKind.i64.wrap (j : Int) = (j : Int) := by rw [IntKind.wrap_i64]; omega
  have HJ : Hid (p * n + q = j) := by show p * n + q = j; rw [hm]; exact hj
  have hne : ((p : Int) == (q : Int)) = false := by simp; omega
  have hne' : (p == q) = false := by simp; omega
  have HPQ : Hid (p ≠ q) := hpq
  obtain ⟨bw, ow, ew, hbw, _, hcw⟩ := S0.rb.wy.at_ (by rw [hN2]; omega)
  have cj : W.cell? ⟨bw, ow + j, none⟩ = some (v.vw j) := hcw j (by rw [hN2]; exact hjl)
  obtain ⟨ad, c1, e1, e2, e3, e4, e5⟩ := S0.rb.wv p q hp hq
  have e1' : v.vw j = .slice ad (b.wy p q).length c1 := by rw [← HJ.out]; exact e1
  rw [e1'] at cj
  obtain ⟨bm, om, em, hbm, _, hcm⟩ := S0.rb.mo.at_ (by omega)
  obtain ⟨l, hll⟩ : ∃ l, b.wy p q = l := ⟨_, rfl⟩
  have HLL : Hid (b.wy p q = l) := hll
  rw [hll] at cj e2 e3 e5 e1'
  have E1 : Hid (v.vw j = .slice ad l.length c1) := e1'
  have E2 : Hid (ad = none → l.length = 0 ∧ c1 = 0) := e2
  have E5 : Hid (FI G' l.length (fun i => .int .i64 (l[i]?.getD 0)) ad W) := e5
  clear hm hj e1 e2 e5 e1' hcw hll hpq
  have hl0 : l = x :: r := by rw [← HLL.out]; exact hw
  subst hl0
  have hr1 : (x :: r).length = r.length + 1 := rfl
  obtain ⟨ba, oa, ea, hba, gba, hca⟩ := E5.out.at_ (by rw [hr1]; omega)
  subst ea
  have cx : W.cell? ⟨ba, oa, none⟩ = some (.int .i64 x) := hca 0 (by rw [hr1]; omega)
  obtain ⟨A, hA, hRW⟩ : ∃ A : Addr, (if c1 = 1 then some (⟨ba, oa, none⟩ : Addr) else some ⟨ba, oa + 1, none⟩) = some A ∧ RW G' r (.slice (some A) ((x :: r).length - 1) (c1 - 1)) W := by
    by_cases h : c1 = 1
    · refine ⟨⟨ba, oa, none⟩, by simp [h], some ⟨ba, oa, none⟩, c1 - 1, by rw [hr1]; rfl, fun e => absurd e (by simp), by omega, by omega, fun i hi => ?_⟩
      rw [hr1] at e3
      omega
    · refine ⟨⟨ba, oa + 1, none⟩, by simp [h], some ⟨ba, oa + 1, none⟩, c1 - 1, by rw [hr1]; rfl, fun e => absurd e (by simp), by omega, by omega, fun i hi => ⟨ba, oa + 1, rfl, hba, gba, ?_⟩⟩
      rw [show oa + 1 + i = oa + (i + 1) by omega, hca (i + 1) (by rw [hr1]; omega)]
      rfl
  obtain ⟨L, hL⟩ : ∃ L, (x :: r).length = L := ⟨_, rfl⟩
  rw [hL] at cj e3 hRW
  have hL0 : 1 ≤ L := by rw [← hL, hr1]; omega
  have hL0' : (1 : Int) ≤ (L : Int) := by omega
  have hL1 : 0 < L := by omega
  have hL1' : (0 : Int) < (L : Int) := by omega
  have hLd : ((L : Int) == 0) = false := by simp; omega
  have hLd' : (L == 0) = false := by simp; omega
  have hLc : L ≤ c1 := e3
  unfold maxLen at e4
  have HRW : Hid (RW G' r (.slice (some A) (L - 1) (c1 - 1)) W) := hRW
  obtain ⟨m', hm'⟩ : ∃ m', q * n = m' := ⟨_, rfl⟩
  obtain ⟨j', hj'⟩ : ∃ j', m' + p = j' := ⟨_, rfl⟩
  have hjl' : j' < N2 := by rw [← hj', ← hm', ← hN2]; exact pair_lt hq hp
  have hmi' : (q : Int) * (n : Int) = (m' : Int) := by rw [← hm']; exact (Int.natCast_mul q n).symm
  have hji' : (m' : Int) + (p : Int) = (j' : Int) := by omega
  have hji2' : (j' : Int) < (N2 : Int) := by omega
  have hwm' : IntKind.i64.wrap (m' : Int) = (m' : Int) := by rw [IntKind.wrap_i64]; omega
  have hwj' : IntKind.i64.wrap (j' : Int) = (j' : Int) := by rw [IntKind.wrap_i64]; omega
  have HJ' : Hid (q * n + p = j') := by show q * n + p = j'; rw [hm']; exact hj'
  have hqi : (q : Int) < n := by omega
  have HS : Hid (MS w.heap.size G' n be b v 1 p q s w W) := S0
  clear hm' hj' hL hr1 hRW hca E5 E1 E2 HLL
  obtain ⟨pm, cm, pn, cn, pw, cw, ph, ch, pc, cc, vw⟩ := v
  have em' : pm = some ⟨bm, om, none⟩ := em
  have ew' : pw = some ⟨bw, ow, none⟩ := ew
  subst em' ew'
  simp only [rbV, v0] at hW l0 l1 l2 l3 l4 z0 z1 z2 z3 z4 ⊢
  rw [hN2] at hW l2 l3 l4 ⊢
  clear S0 hR hN2 hG ew em hcm hw
  have hcap := HS.out.rb.cw
  have hsl := HS.out.rb.slices
  have hwy := HS.out.rb.wy
  simp only at hcap hsl hwy
  rw [HN2.out] at hcap hsl hwy
  have HSL : Hid (∀ j, j < N2 → ∃ a l c, vw j = .slice a l c) := hsl
  have HW : Hid (FI G' N2 vw (some ⟨bw, ow, none⟩) W) := hwy
  clear hsl hwy
  go_enter Tryd.func7, Tryd.ntmps7
  go_wp2_with fail
  refine (in_is 1 0 2 true _ (by decide)).mono ?_
  rintro e w9 ⟨rfl, rfl⟩
  go_wp2_with fail
  refine (in_is (p : Int) 0 ((n : Int) - 1) true _ (inB_true (by omega) (by omega))).mono ?_
  rintro e w9 ⟨rfl, rfl⟩
  go_wp2_with fail
  refine (in_is (q : Int) 0 ((n : Int) - 1) true _ (inB_true (by omega) (by omega))).mono ?_
  rintro e w9 ⟨rfl, rfl⟩
  go_wp2_with fail
  go_still_tail 5, (by kernel_rfl)
  go_wp2_with fail
  refine (rway_ok (G := G') vw N2 j (.slice (some A) (L - 1) (c1 - 1)) (some ⟨bw, ow, none⟩) cw W.drew (by omega) hjl hcap.1 hcap.2 HSL.out ⟨_, _, _, rfl⟩ HW.out).mono ?_
  rintro e w4 ⟨p2, c2, rfl, k1, k2, hF4, hB4⟩
  have hB4' : Below W.heap.size W w4 := (Below.refl _ W).drew.trans hB4
  have e2 := (HS.out.later hB4').lb.c2
  have g2 := (HS.out.later hB4').lb.fz 2
  simp only at e2
  have sz4 := HS.out.sz
  have lN4 := (HS.out.later hB4').lb.lt
  have lM4 := (HS.out.later hB4').mb.lt
  obtain ⟨w5, hw5⟩ : ∃ w5, w4.setCell ⟨w.heap.size, 2, none⟩ (.slice p2 N2 c2) = w5 := ⟨_, rfl⟩
  obtain ⟨vv, hvv⟩ : ∃ vv, M.upd1 vw (p * n + q) (.slice (some A) (L - 1) (c1 - 1)) = vv := ⟨_, rfl⟩
  have S1 : MS w.heap.size G' n be (M.popB b p q r) ⟨some ⟨bm, om, none⟩, cm, pn, cn, p2, c2, ph, ch, pc, cc, vv⟩ 1 p q s w w5 := by
    rw [← hw5, ← hvv]
    refine HS.out.field hB4' 2 _ (HS.out.rb.setW (p := p) (q := q) (u := .slice (some A) (L - 1) (c1 - 1)) (l := r) hB4' hq ?_ (by rw [HN2.out]; exact ⟨k1, k2⟩) (HRW.out.later hB4')) ?_
    · rw [HN2.out, HJ.out]
      exact hF4.mono (fun i _ hi => HS.out.fr i (by have : W.heap.size ≤ i := hi; omega))
    · rw [← HN2.out]; exact (HS.out.later hB4').lb.s2 p2 c2 _
  have cx5 : w5.cell? ⟨ba, oa, none⟩ = some (.int .i64 x) := by
    rw [← hw5]
    exact (World.cell?_of_block (Below.heap_setCell _ _ _ _ (fun e => HS.out.nl (by have e' : ba = w.heap.size := e; rw [← e']; exact gba)))).trans ((hB4'.cell (p := ⟨ba, oa, none⟩) hba).trans cx)
  have hba5 : ba < w5.heap.size := by rw [← hw5]; have := hB4'.size; simp [World.setCell]; omega
  have lN5 := S1.lb.lt
  have lM5 := S1.mb.lt
  have m15 := S1.mb.c1
  have m25 := S1.mb.c2
  have HS1 : Hid (MS w.heap.size G' n be (M.popB b p q r) ⟨some ⟨bm, om, none⟩, cm, pn, cn, p2, c2, ph, ch, pc, cc, vv⟩ 1 p q s w w5) := S1
  clear l0 l1 l2 l3 l4 l5 z0 z1 z2 z3 z4 z5 f0 f1 f2 f3 f4 f5 m0 m1 m2 m3 hW cx cj HS HSL HW hF4 hB4 hB4' HRW k1 k2 hA hvv hba hcap lN lM lZ hbw hbm
  obtain ⟨bn, on, en, hbn, _, hcn⟩ := S1.rb.no.at_ (by omega)
  have en' : pn = some ⟨bn, on, none⟩ := en
  subst en'
  have cn5 : w5.cell? ⟨bn, on + q, none⟩ = some (.int .i64 (b.no q)) := hcn q hq
  have l15 := S1.lb.c1
  simp only at l15
  clear hcn en
  obtain ⟨bh, oh, eh, hbh, _, hch⟩ := S1.rb.he.at_ (by rw [HN2.out]; omega)
  have eh' : ph = some ⟨bh, oh, none⟩ := eh
  subst eh'
  have ch5 : w5.cell? ⟨bh, oh + j', none⟩ = some (.bool (b.he q p)) := by
    have := hch j' (by rw [HN2.out]; exact hjl')
    rw [this, ← HJ'.out, pair_div q hp, pair_mod q hp]
    rfl
  obtain ⟨bc, oc, ec, hbc, _, hcc⟩ := S1.rb.ca.at_ (by rw [HN2.out]; omega)
  have ec' : pc = some ⟨bc, oc, none⟩ := ec
  subst ec'
  have cc5 : w5.cell? ⟨bc, oc + j', none⟩ = some (.int .i64 (b.ca q p)) := by
    have := hcc j' (by rw [HN2.out]; exact hjl')
    rw [this, ← HJ'.out, pair_div q hp, pair_mod q hp]
    rfl
  obtain ⟨bm', om', em9, hbm5, _, hcm5⟩ := S1.rb.mo.at_ (by omega)
  cases em9
  have cm5 : w5.cell? ⟨bm, om + q, none⟩ = some (.int .i64 (b.mo q)) := hcm5 q hq
  have l05 := S1.lb.c0
  simp only at l05
  obtain ⟨mo, hmo⟩ : ∃ mo, b.mo q = mo := ⟨_, rfl⟩
  have HMO : Hid (b.mo q = mo) := hmo
  rw [hmo] at cm5 hm0 hm5
  have hxd : (x == -1) = false := by simp; omega
  have MO : Hid (FI G' n (fun i => .int .i64 (b.mo i)) (some ⟨bm, om, none⟩) w5) := S1.rb.mo
  clear S1 hch hcc hcm5 eh ec hmo
  go_wp2_with fail
  go_still_tail 14, (by kernel_rfl)
  go_wp2_with fail
  refine (with_ok (G := G') b.mo n q (mo + x) (some ⟨bm, om, none⟩) cm w5.drew (by omega) hq MO.out).mono ?_
  rintro e w6 ⟨pm2, cm2, rfl, _, _, hF6, hB6⟩
  have hB6' : Below w5.heap.size w5 w6 := (Below.refl _ w5).drew.trans hB6
  have e0 := (HS1.out.later hB6').lb.c0
  have g0 := (HS1.out.later hB6').lb.fz 0
  simp only at e0
  obtain ⟨w7, hw7⟩ : ∃ w7, w6.setCell ⟨w.heap.size, 0, none⟩ (.slice pm2 n cm2) = w7 := ⟨_, rfl⟩
  have S2 : MS w.heap.size G' n be { (M.popB b p q r) with mo := M.upd1 b.mo q (mo + x) } ⟨pm2, cm2, some ⟨bn, on, none⟩, cn, p2, c2, some ⟨bh, oh, none⟩, ch, some ⟨bc, oc, none⟩, cc, vv⟩ 1 p q s w w7 := by
    rw [← hw7]
    exact HS1.out.field hB6' 0 _ (HS1.out.rb.setM hB6' (hF6.mono (fun i _ hi => HS1.out.fr i (by have : w5.heap.size ≤ i := hi; have := HS1.out.sz; omega)))) ((HS1.out.later hB6').lb.s0 pm2 cm2)
  have K7 : ∀ (a : Addr) (u : Value), a.block < w5.heap.size → a.block ≠ w.heap.size → w5.cell? a = some u → w7.cell? a = some u := fun a u h1 h2 h3 => by
    rw [← hw7]
    exact (World.cell?_of_block (Below.heap_setCell _ _ _ _ h2)).trans ((hB6'.cell h1).trans h3)
  have NE : ∀ i, G' i → i ≠ w.heap.size := fun i hi e => HS1.out.nl (e ▸ hi)
  have cx7 := K7 ⟨ba, oa, none⟩ _ hba5 (NE ba gba) cx5
  have cn7 := K7 ⟨bn, on + q, none⟩ _ hbn (NE bn (by assumption)) cn5
  have ch7 := K7 ⟨bh, oh + j', none⟩ _ hbh (NE bh (by assumption)) ch5
  have cc7 := K7 ⟨bc, oc + j', none⟩ _ hbc (NE bc (by assumption)) cc5
  have l17 := S2.lb.c1
  have l37 := S2.lb.c3
  have l47 := S2.lb.c4
  have m27 := S2.mb.c2
  simp only at l17 l37 l47
  rw [HN2.out] at l37 l47
  have lN7 := S2.lb.lt
  have lM7 := S2.mb.lt
  have s57 : w5.heap.size ≤ w7.heap.size := by rw [← hw7]; have := hB6'.size; simpa [World.setCell] using this
  have hba7 : ba < w7.heap.size := by omega
  have hbn7 : bn < w7.heap.size := by omega
  have hbh7 : bh < w7.heap.size := by omega
  have hbc7 : bc < w7.heap.size := by omega
  have HS2 : Hid (MS w.heap.size G' n be { (M.popB b p q r) with mo := M.upd1 b.mo q (mo + x) } ⟨pm2, cm2, some ⟨bn, on, none⟩, cn, p2, c2, some ⟨bh, oh, none⟩, ch, some ⟨bc, oc, none⟩, cc, vv⟩ 1 p q s w w7) := S2
  obtain ⟨no, hno⟩ : ∃ no, b.no q = no := ⟨_, rfl⟩
  have HNO : Hid (b.no q = no) := hno
  rw [hno] at cn7
  rw [hno] at h0
  have hnd : decide (0 ≤ no) = false := decide_eq_false (by omega)
  have hnl : no < 0 := by omega
  clear h0
  clear S2 K7 NE cx5 cn5 ch5 cc5 cm5 l05 l15 m15 m25 hF6 hB6 hB6' MO HS1 hno hw5 e2 g2 hba5 hbn hbh hbc hbm5
  obtain ⟨FLb, FRb, FBl⟩ := HS2.out.ret HN2.out (G0 := G) BK.out
  have FE : RB G n { b with mo := M.upd1 b.mo q (b.mo q + x), wy := M.upd2 b.wy p q r } ⟨pm2, cm2, some ⟨bn, on, none⟩, cn, p2, c2, some ⟨bh, oh, none⟩, ch, some ⟨bc, oc, none⟩, cc, vv⟩ (cpy w7 (w.heap.size + 1 + 1) n N2 be pm2 cm2 (some ⟨bn, on, none⟩) cn p2 c2 (some ⟨bh, oh, none⟩) ch (some ⟨bc, oc, none⟩) cc) := by rw [HMO.out]; exact FRb
  have F : Hid (LB (w.heap.size + 1 + 1) n be ⟨pm2, cm2, some ⟨bn, on, none⟩, cn, p2, c2, some ⟨bh, oh, none⟩, ch, some ⟨bc, oc, none⟩, cc, vv⟩ (cpy w7 (w.heap.size + 1 + 1) n N2 be pm2 cm2 (some ⟨bn, on, none⟩) cn p2 c2 (some ⟨bh, oh, none⟩) ch (some ⟨bc, oc, none⟩) cc) ∧ RB G n { b with mo := M.upd1 b.mo q (b.mo q + x), wy := M.upd2 b.wy p q r } ⟨pm2, cm2, some ⟨bn, on, none⟩, cn, p2, c2, some ⟨bh, oh, none⟩, ch, some ⟨bc, oc, none⟩, cc, vv⟩ (cpy w7 (w.heap.size + 1 + 1) n N2 be pm2 cm2 (some ⟨bn, on, none⟩) cn p2 c2 (some ⟨bh, oh, none⟩) ch (some ⟨bc, oc, none⟩) cc) ∧ Below w.heap.size w (cpy w7 (w.heap.size + 1 + 1) n N2 be pm2 cm2 (some ⟨bn, on, none⟩) cn p2 c2 (some ⟨bh, oh, none⟩) ch (some ⟨bc, oc, none⟩) cc)) := ⟨FLb, FE, FBl⟩
  have lZ7 := HS2.out.zb.lt
  have l0 := HS2.out.lb.c0
  have l1 := HS2.out.lb.c1
  have l2 := HS2.out.lb.c2
  have l3 := HS2.out.lb.c3
  have l4 := HS2.out.lb.c4
  have l5 := HS2.out.lb.c5
  have z0 := HS2.out.zb.c0
  have z1 := HS2.out.zb.c1
  have z2 := HS2.out.zb.c2
  have z3 := HS2.out.zb.c3
  have z4 := HS2.out.zb.c4
  have z5 := HS2.out.zb.c5
  have f0 := HS2.out.zb.fz 0
  have f1 := HS2.out.zb.fz 1
  have f2 := HS2.out.zb.fz 2
  have f3 := HS2.out.zb.fz 3
  have f4 := HS2.out.zb.fz 4
  have f5 := HS2.out.zb.fz 5
  simp only [v0] at l0 l1 l2 l3 l4 z0 z1 z2 z3 z4
  rw [HN2.out] at l2 l3 l4
  clear FLb FRb FBl FE HS2 HMO HNO
  go_wp2_with fail
  obtain rfl := HN2.out
  exact bodyPost_ret (v := .tuple #[rbV n be ⟨pm2, cm2, some ⟨bn, on, none⟩, cn, p2, c2, some ⟨bh, oh, none⟩, ch, some ⟨bc, oc, none⟩, cc, vv⟩, .int .i64 0]) (results_bank rfl _ _ (w.heap.size + 1 + 1) n be _ 0 rfl rfl F.out.1) rfl ⟨_, rfl, F.out.2.1, F.out.2.2⟩
set_option maxRecDepth 100000 in
set_option maxHeartbeats 2000000 in
theorem rmv_come_heard {G : Nat → Prop} {n : Nat} {b : M.Bk} (be : Bool) (v : RV) (p q : Nat) (x : Int) (r : List Int) (s : Int) (w : World) (hR : RB G n b v w) (hG : ∀ k, w.heap.size ≤ k → G k) (hn5 : n ≤ 5) (hp : p < n) (hq : q < n) (hpq : p ≠ q) (hw : b.wy p q = x :: r) (hx : x ≠ -1) (hx0 : 0 ≤ x) (hx5 : x ≤ 5000) (hm0 : 0 ≤ b.mo q) (hm5 : b.mo q ≤ 5000) (h0 : 0 ≤ b.no q) (hh : b.he q p = true) :
    Calls Tryd.prog 7 #[rbV n be v, mvV 1 p q s] w fun e w' => ∃ v', e = .returned (.tuple #[rbV n be v', .int .i64 0]) ∧ RB G n { b with mo := M.upd1 b.mo q (b.mo q + x), wy := M.upd2 b.wy p q r } v' w' ∧ Below w.heap.size w w' := by
  obtain ⟨W, hW⟩ : ∃ W, (((w.alloc (.cells #[.slice v.pm n v.cm, .slice v.pn n v.cn, .slice v.pw (n * n) v.cw, .slice v.ph (n * n) v.ch, .slice v.pc (n * n) v.cc, .bool be] 27)).alloc (.cells #[.int .i64 1, .int .i64 p, .int .i64 q, .int .i64 s] 38)).alloc (.cells #[.slice none 0 0, .slice none 0 0, .slice none 0 0, .slice none 0 0, .slice none 0 0, .bool false] 27)) = W := ⟨_, rfl⟩
  have S0 := ms_begin be 1 p q s hR hG
  rw [hW] at S0
  have BKG : Hid (∀ j, (G j ∧ j ≠ w.heap.size ∧ j ≠ w.heap.size + 1 ∧ j ≠ w.heap.size + 1 + 1) → G j) := fun j hj => hj.1
  obtain ⟨G', hG'⟩ : ∃ G' : Nat → Prop, (fun j => G j ∧ j ≠ w.heap.size ∧ j ≠ w.heap.size + 1 ∧ j ≠ w.heap.size + 1 + 1) = G' := ⟨_, rfl⟩
  have BK : Hid (∀ j, G' j → G j) := by rw [← hG']; exact BKG
  rw [hG'] at S0
  clear hG' BKG
  obtain ⟨N2, hN2⟩ : ∃ N2, n * n = N2 := ⟨_, rfl⟩
  have HN2 : Hid (n * n = N2) := hN2
  have lN := S0.lb.lt
  have lM := S0.mb.lt
  have lZ := S0.zb.lt
  have l0 := S0.lb.c0
  have l1 := S0.lb.c1
  have l2 := S0.lb.c2
  have l3 := S0.lb.c3
  have l4 := S0.lb.c4
  have l5 := S0.lb.c5
  have m0 := S0.mb.c0
  have m1 := S0.mb.c1
  have m2 := S0.mb.c2
  have m3 := S0.mb.c3
  have z0 := S0.zb.c0
  have z1 := S0.zb.c1
  have z2 := S0.zb.c2
  have z3 := S0.zb.c3
  have z4 := S0.zb.c4
  have z5 := S0.zb.c5
  have f0 := S0.zb.fz 0
  have f1 := S0.zb.fz 1
  have f2 := S0.zb.fz 2
  have f3 := S0.zb.fz 3
  have f4 := S0.zb.fz 4
  have f5 := S0.zb.fz 5
  obtain ⟨m, hm⟩ : ∃ m, p * n = m := ⟨_, rfl⟩
  obtain ⟨j, hj⟩ : ∃ j, m + q = j := ⟨_, rfl⟩
  have hjl : j < N2 := by rw [← hj, ← hm, ← hN2]; exact pair_lt hp hq
  have hN25 : N2 ≤ 25 := by
    have := Nat.mul_le_mul hn5 hn5
    omega
  have hmi : (p : Int) * (n : Int) = (m : Int) := by rw [← hm]; exact (Int.natCast_mul p n).symm
  have hji : (m : Int) + (q : Int) = (j : Int) := by omega
  have hji2 : (j : Int) < (N2 : Int) := by omega
  have hwm : IntKind.i64.wrap (m : Int) = (m : Int) := by rw [IntKind.wrap_i64]; omega
  have hwj : IntKind.i64.wrap (j : Int) = (j : Int) := by rw [IntKind.wrap_i64]; omega
  have HJ : Hid (p * n + q = j) := by show p * n + q = j; rw [hm]; exact hj
  have hne : ((p : Int) == (q : Int)) = false := by simp; omega
  have hne' : (p == q) = false := by simp; omega
  have HPQ : Hid (p ≠ q) := hpq
  obtain ⟨bw, ow, ew, hbw, _, hcw⟩ := S0.rb.wy.at_ (by rw [hN2]; omega)
  have cj : W.cell? ⟨bw, ow + j, none⟩ = some (v.vw j) := hcw j (by rw [hN2]; exact hjl)
  obtain ⟨ad, c1, e1, e2, e3, e4, e5⟩ := S0.rb.wv p q hp hq
  have e1' : v.vw j = .slice ad (b.wy p q).length c1 := by rw [← HJ.out]; exact e1
  rw [e1'] at cj
  obtain ⟨bm, om, em, hbm, _, hcm⟩ := S0.rb.mo.at_ (by omega)
  obtain ⟨l, hll⟩ : ∃ l, b.wy p q = l := ⟨_, rfl⟩
  have HLL : Hid (b.wy p q = l) := hll
  rw [hll] at cj e2 e3 e5 e1'
  have E1 : Hid (v.vw j = .slice ad l.length c1) := e1'
  have E2 : Hid (ad = none → l.length = 0 ∧ c1 = 0) := e2
  have E5 : Hid (FI G' l.length (fun i => .int .i64 (l[i]?.getD 0)) ad W) := e5
  clear hm hj e1 e2 e5 e1' hcw hll hpq
  have hl0 : l = x :: r := by rw [← HLL.out]; exact hw
  subst hl0
  have hr1 : (x :: r).length = r.length + 1 := rfl
  obtain ⟨ba, oa, ea, hba, gba, hca⟩ := E5.out.at_ (by rw [hr1]; omega)
  subst ea
  have cx : W.cell? ⟨ba, oa, none⟩ = some (.int .i64 x) := hca 0 (by rw [hr1]; omega)
  obtain ⟨A, hA, hRW⟩ : ∃ A : Addr, (if c1 = 1 then some (⟨ba, oa, none⟩ : Addr) else some ⟨ba, oa + 1, none⟩) = some A ∧ RW G' r (.slice (some A) ((x :: r).length - 1) (c1 - 1)) W := by
    by_cases h : c1 = 1
    · refine ⟨⟨ba, oa, none⟩, by simp [h], some ⟨ba, oa, none⟩, c1 - 1, by rw [hr1]; rfl, fun e => absurd e (by simp), by omega, by omega, fun i hi => ?_⟩
      rw [hr1] at e3
      omega
    · refine ⟨⟨ba, oa + 1, none⟩, by simp [h], some ⟨ba, oa + 1, none⟩, c1 - 1, by rw [hr1]; rfl, fun e => absurd e (by simp), by omega, by omega, fun i hi => ⟨ba, oa + 1, rfl, hba, gba, ?_⟩⟩
      rw [show oa + 1 + i = oa + (i + 1) by omega, hca (i + 1) (by rw [hr1]; omega)]
      rfl
  obtain ⟨L, hL⟩ : ∃ L, (x :: r).length = L := ⟨_, rfl⟩
  rw [hL] at cj e3 hRW
  have hL0 : 1 ≤ L := by rw [← hL, hr1]; omega
  have hL0' : (1 : Int) ≤ (L : Int) := by omega
  have hL1 : 0 < L := by omega
  have hL1' : (0 : Int) < (L : Int) := by omega
  have hLd : ((L : Int) == 0) = false := by simp; omega
  have hLd' : (L == 0) = false := by simp; omega
  have hLc : L ≤ c1 := e3
  unfold maxLen at e4
  have HRW : Hid (RW G' r (.slice (some A) (L - 1) (c1 - 1)) W) := hRW
  obtain ⟨m', hm'⟩ : ∃ m', q * n = m' := ⟨_, rfl⟩
  obtain ⟨j', hj'⟩ : ∃ j', m' + p = j' := ⟨_, rfl⟩
  have hjl' : j' < N2 := by rw [← hj', ← hm', ← hN2]; exact pair_lt hq hp
  have hmi' : (q : Int) * (n : Int) = (m' : Int) := by rw [← hm']; exact (Int.natCast_mul q n).symm
  have hji' : (m' : Int) + (p : Int) = (j' : Int) := by omega
  have hji2' : (j' : Int) < (N2 : Int) := by omega
  have hwm' : IntKind.i64.wrap (m' : Int) = (m' : Int) := by rw [IntKind.wrap_i64]; omega
  have hwj' : IntKind.i64.wrap (j' : Int) = (j' : Int) := by rw [IntKind.wrap_i64]; omega
  have HJ' : Hid (q * n + p = j') := by show q * n + p = j'; rw [hm']; exact hj'
  have hqi : (q : Int) < n := by omega
  have HS : Hid (MS w.heap.size G' n be b v 1 p q s w W) := S0
  clear hm' hj' hL hr1 hRW hca E5 E1 E2 HLL
  obtain ⟨pm, cm, pn, cn, pw, cw, ph, ch, pc, cc, vw⟩ := v
  have em' : pm = some ⟨bm, om, none⟩ := em
  have ew' : pw = some ⟨bw, ow, none⟩ := ew
  subst em' ew'
  simp only [rbV, v0] at hW l0 l1 l2 l3 l4 z0 z1 z2 z3 z4 ⊢
  rw [hN2] at hW l2 l3 l4 ⊢
  clear S0 hR hN2 hG ew em hcm hw
  have hcap := HS.out.rb.cw
  have hsl := HS.out.rb.slices
  have hwy := HS.out.rb.wy
  simp only at hcap hsl hwy
  rw [HN2.out] at hcap hsl hwy
  have HSL : Hid (∀ j, j < N2 → ∃ a l c, vw j = .slice a l c) := hsl
  have HW : Hid (FI G' N2 vw (some ⟨bw, ow, none⟩) W) := hwy
  clear hsl hwy
  go_enter Tryd.func7, Tryd.ntmps7
  go_wp2_with fail
  refine (in_is 1 0 2 true _ (by decide)).mono ?_
  rintro e w9 ⟨rfl, rfl⟩
  go_wp2_with fail
  refine (in_is (p : Int) 0 ((n : Int) - 1) true _ (inB_true (by omega) (by omega))).mono ?_
  rintro e w9 ⟨rfl, rfl⟩
  go_wp2_with fail
  refine (in_is (q : Int) 0 ((n : Int) - 1) true _ (inB_true (by omega) (by omega))).mono ?_
  rintro e w9 ⟨rfl, rfl⟩
  go_wp2_with fail
  go_still_tail 5, (by kernel_rfl)
  go_wp2_with fail
  refine (rway_ok (G := G') vw N2 j (.slice (some A) (L - 1) (c1 - 1)) (some ⟨bw, ow, none⟩) cw W.drew (by omega) hjl hcap.1 hcap.2 HSL.out ⟨_, _, _, rfl⟩ HW.out).mono ?_
  rintro e w4 ⟨p2, c2, rfl, k1, k2, hF4, hB4⟩
  have hB4' : Below W.heap.size W w4 := (Below.refl _ W).drew.trans hB4
  have e2 := (HS.out.later hB4').lb.c2
  have g2 := (HS.out.later hB4').lb.fz 2
  simp only at e2
  have sz4 := HS.out.sz
  have lN4 := (HS.out.later hB4').lb.lt
  have lM4 := (HS.out.later hB4').mb.lt
  obtain ⟨w5, hw5⟩ : ∃ w5, w4.setCell ⟨w.heap.size, 2, none⟩ (.slice p2 N2 c2) = w5 := ⟨_, rfl⟩
  obtain ⟨vv, hvv⟩ : ∃ vv, M.upd1 vw (p * n + q) (.slice (some A) (L - 1) (c1 - 1)) = vv := ⟨_, rfl⟩
  have S1 : MS w.heap.size G' n be (M.popB b p q r) ⟨some ⟨bm, om, none⟩, cm, pn, cn, p2, c2, ph, ch, pc, cc, vv⟩ 1 p q s w w5 := by
    rw [← hw5, ← hvv]
    refine HS.out.field hB4' 2 _ (HS.out.rb.setW (p := p) (q := q) (u := .slice (some A) (L - 1) (c1 - 1)) (l := r) hB4' hq ?_ (by rw [HN2.out]; exact ⟨k1, k2⟩) (HRW.out.later hB4')) ?_
    · rw [HN2.out, HJ.out]
      exact hF4.mono (fun i _ hi => HS.out.fr i (by have : W.heap.size ≤ i := hi; omega))
    · rw [← HN2.out]; exact (HS.out.later hB4').lb.s2 p2 c2 _
  have cx5 : w5.cell? ⟨ba, oa, none⟩ = some (.int .i64 x) := by
    rw [← hw5]
    exact (World.cell?_of_block (Below.heap_setCell _ _ _ _ (fun e => HS.out.nl (by have e' : ba = w.heap.size := e; rw [← e']; exact gba)))).trans ((hB4'.cell (p := ⟨ba, oa, none⟩) hba).trans cx)
  have hba5 : ba < w5.heap.size := by rw [← hw5]; have := hB4'.size; simp [World.setCell]; omega
  have lN5 := S1.lb.lt
  have lM5 := S1.mb.lt
  have m15 := S1.mb.c1
  have m25 := S1.mb.c2
  have HS1 : Hid (MS w.heap.size G' n be (M.popB b p q r) ⟨some ⟨bm, om, none⟩, cm, pn, cn, p2, c2, ph, ch, pc, cc, vv⟩ 1 p q s w w5) := S1
  clear l0 l1 l2 l3 l4 l5 z0 z1 z2 z3 z4 z5 f0 f1 f2 f3 f4 f5 m0 m1 m2 m3 hW cx cj HS HSL HW hF4 hB4 hB4' HRW k1 k2 hA hvv hba hcap lN lM lZ hbw hbm
  obtain ⟨bn, on, en, hbn, _, hcn⟩ := S1.rb.no.at_ (by omega)
  have en' : pn = some ⟨bn, on, none⟩ := en
  subst en'
  have cn5 : w5.cell? ⟨bn, on + q, none⟩ = some (.int .i64 (b.no q)) := hcn q hq
  have l15 := S1.lb.c1
  simp only at l15
  clear hcn en
  obtain ⟨bh, oh, eh, hbh, _, hch⟩ := S1.rb.he.at_ (by rw [HN2.out]; omega)
  have eh' : ph = some ⟨bh, oh, none⟩ := eh
  subst eh'
  have ch5 : w5.cell? ⟨bh, oh + j', none⟩ = some (.bool (b.he q p)) := by
    have := hch j' (by rw [HN2.out]; exact hjl')
    rw [this, ← HJ'.out, pair_div q hp, pair_mod q hp]
    rfl
  obtain ⟨bc, oc, ec, hbc, _, hcc⟩ := S1.rb.ca.at_ (by rw [HN2.out]; omega)
  have ec' : pc = some ⟨bc, oc, none⟩ := ec
  subst ec'
  have cc5 : w5.cell? ⟨bc, oc + j', none⟩ = some (.int .i64 (b.ca q p)) := by
    have := hcc j' (by rw [HN2.out]; exact hjl')
    rw [this, ← HJ'.out, pair_div q hp, pair_mod q hp]
    rfl
  obtain ⟨bm', om', em9, hbm5, _, hcm5⟩ := S1.rb.mo.at_ (by omega)
  cases em9
  have cm5 : w5.cell? ⟨bm, om + q, none⟩ = some (.int .i64 (b.mo q)) := hcm5 q hq
  have l05 := S1.lb.c0
  simp only at l05
  obtain ⟨mo, hmo⟩ : ∃ mo, b.mo q = mo := ⟨_, rfl⟩
  have HMO : Hid (b.mo q = mo) := hmo
  rw [hmo] at cm5 hm0 hm5
  have hxd : (x == -1) = false := by simp; omega
  have MO : Hid (FI G' n (fun i => .int .i64 (b.mo i)) (some ⟨bm, om, none⟩) w5) := S1.rb.mo
  clear S1 hch hcc hcm5 eh ec hmo
  go_wp2_with fail
  go_still_tail 14, (by kernel_rfl)
  go_wp2_with fail
  refine (with_ok (G := G') b.mo n q (mo + x) (some ⟨bm, om, none⟩) cm w5.drew (by omega) hq MO.out).mono ?_
  rintro e w6 ⟨pm2, cm2, rfl, _, _, hF6, hB6⟩
  have hB6' : Below w5.heap.size w5 w6 := (Below.refl _ w5).drew.trans hB6
  have e0 := (HS1.out.later hB6').lb.c0
  have g0 := (HS1.out.later hB6').lb.fz 0
  simp only at e0
  obtain ⟨w7, hw7⟩ : ∃ w7, w6.setCell ⟨w.heap.size, 0, none⟩ (.slice pm2 n cm2) = w7 := ⟨_, rfl⟩
  have S2 : MS w.heap.size G' n be { (M.popB b p q r) with mo := M.upd1 b.mo q (mo + x) } ⟨pm2, cm2, some ⟨bn, on, none⟩, cn, p2, c2, some ⟨bh, oh, none⟩, ch, some ⟨bc, oc, none⟩, cc, vv⟩ 1 p q s w w7 := by
    rw [← hw7]
    exact HS1.out.field hB6' 0 _ (HS1.out.rb.setM hB6' (hF6.mono (fun i _ hi => HS1.out.fr i (by have : w5.heap.size ≤ i := hi; have := HS1.out.sz; omega)))) ((HS1.out.later hB6').lb.s0 pm2 cm2)
  have K7 : ∀ (a : Addr) (u : Value), a.block < w5.heap.size → a.block ≠ w.heap.size → w5.cell? a = some u → w7.cell? a = some u := fun a u h1 h2 h3 => by
    rw [← hw7]
    exact (World.cell?_of_block (Below.heap_setCell _ _ _ _ h2)).trans ((hB6'.cell h1).trans h3)
  have NE : ∀ i, G' i → i ≠ w.heap.size := fun i hi e => HS1.out.nl (e ▸ hi)
  have cx7 := K7 ⟨ba, oa, none⟩ _ hba5 (NE ba gba) cx5
  have cn7 := K7 ⟨bn, on + q, none⟩ _ hbn (NE bn (by assumption)) cn5
  have ch7 := K7 ⟨bh, oh + j', none⟩ _ hbh (NE bh (by assumption)) ch5
  have cc7 := K7 ⟨bc, oc + j', none⟩ _ hbc (NE bc (by assumption)) cc5
  have l17 := S2.lb.c1
  have l37 := S2.lb.c3
  have l47 := S2.lb.c4
  have m27 := S2.mb.c2
  simp only at l17 l37 l47
  rw [HN2.out] at l37 l47
  have lN7 := S2.lb.lt
  have lM7 := S2.mb.lt
  have s57 : w5.heap.size ≤ w7.heap.size := by rw [← hw7]; have := hB6'.size; simpa [World.setCell] using this
  have hba7 : ba < w7.heap.size := by omega
  have hbn7 : bn < w7.heap.size := by omega
  have hbh7 : bh < w7.heap.size := by omega
  have hbc7 : bc < w7.heap.size := by omega
  have HS2 : Hid (MS w.heap.size G' n be { (M.popB b p q r) with mo := M.upd1 b.mo q (mo + x) } ⟨pm2, cm2, some ⟨bn, on, none⟩, cn, p2, c2, some ⟨bh, oh, none⟩, ch, some ⟨bc, oc, none⟩, cc, vv⟩ 1 p q s w w7) := S2
  obtain ⟨no, hno⟩ : ∃ no, b.no q = no := ⟨_, rfl⟩
  have HNO : Hid (b.no q = no) := hno
  rw [hno] at cn7
  rw [hno] at h0
  have hnd : decide (0 ≤ no) = true := decide_eq_true h0
  rw [hh] at ch7
  clear S2 K7 NE cx5 cn5 ch5 cc5 cm5 l05 l15 m15 m25 hF6 hB6 hB6' MO HS1 hno hw5 e2 g2 hba5 hbn hbh hbc hbm5
  obtain ⟨FLb, FRb, FBl⟩ := HS2.out.ret HN2.out (G0 := G) BK.out
  have FE : RB G n { b with mo := M.upd1 b.mo q (b.mo q + x), wy := M.upd2 b.wy p q r } ⟨pm2, cm2, some ⟨bn, on, none⟩, cn, p2, c2, some ⟨bh, oh, none⟩, ch, some ⟨bc, oc, none⟩, cc, vv⟩ (cpy w7 (w.heap.size + 1 + 1) n N2 be pm2 cm2 (some ⟨bn, on, none⟩) cn p2 c2 (some ⟨bh, oh, none⟩) ch (some ⟨bc, oc, none⟩) cc) := by rw [HMO.out]; exact FRb
  have F : Hid (LB (w.heap.size + 1 + 1) n be ⟨pm2, cm2, some ⟨bn, on, none⟩, cn, p2, c2, some ⟨bh, oh, none⟩, ch, some ⟨bc, oc, none⟩, cc, vv⟩ (cpy w7 (w.heap.size + 1 + 1) n N2 be pm2 cm2 (some ⟨bn, on, none⟩) cn p2 c2 (some ⟨bh, oh, none⟩) ch (some ⟨bc, oc, none⟩) cc) ∧ RB G n { b with mo := M.upd1 b.mo q (b.mo q + x), wy := M.upd2 b.wy p q r } ⟨pm2, cm2, some ⟨bn, on, none⟩, cn, p2, c2, some ⟨bh, oh, none⟩, ch, some ⟨bc, oc, none⟩, cc, vv⟩ (cpy w7 (w.heap.size + 1 + 1) n N2 be pm2 cm2 (some ⟨bn, on, none⟩) cn p2 c2 (some ⟨bh, oh, none⟩) ch (some ⟨bc, oc, none⟩) cc) ∧ Below w.heap.size w (cpy w7 (w.heap.size + 1 + 1) n N2 be pm2 cm2 (some ⟨bn, on, none⟩) cn p2 c2 (some ⟨bh, oh, none⟩) ch (some ⟨bc, oc, none⟩) cc)) := ⟨FLb, FE, FBl⟩
  have lZ7 := HS2.out.zb.lt
  have l0 := HS2.out.lb.c0
  have l1 := HS2.out.lb.c1
  have l2 := HS2.out.lb.c2
  have l3 := HS2.out.lb.c3
  have l4 := HS2.out.lb.c4
  have l5 := HS2.out.lb.c5
  have z0 := HS2.out.zb.c0
  have z1 := HS2.out.zb.c1
  have z2 := HS2.out.zb.c2
  have z3 := HS2.out.zb.c3
  have z4 := HS2.out.zb.c4
  have z5 := HS2.out.zb.c5
  have f0 := HS2.out.zb.fz 0
  have f1 := HS2.out.zb.fz 1
  have f2 := HS2.out.zb.fz 2
  have f3 := HS2.out.zb.fz 3
  have f4 := HS2.out.zb.fz 4
  have f5 := HS2.out.zb.fz 5
  simp only [v0] at l0 l1 l2 l3 l4 z0 z1 z2 z3 z4
  rw [HN2.out] at l2 l3 l4
  clear FLb FRb FBl FE HS2 HMO HNO
  go_wp2_with fail
  obtain rfl := HN2.out
  exact bodyPost_ret (v := .tuple #[rbV n be ⟨pm2, cm2, some ⟨bn, on, none⟩, cn, p2, c2, some ⟨bh, oh, none⟩, ch, some ⟨bc, oc, none⟩, cc, vv⟩, .int .i64 0]) (results_bank rfl _ _ (w.heap.size + 1 + 1) n be _ 0 rfl rfl F.out.1) rfl ⟨_, rfl, F.out.2.1, F.out.2.2⟩
set_option maxRecDepth 100000 in
set_option maxHeartbeats 2000000 in
theorem rmv_come_note {G : Nat → Prop} {n : Nat} {b : M.Bk} (be : Bool) (v : RV) (p q : Nat) (x : Int) (r : List Int) (s : Int) (w : World) (hR : RB G n b v w) (hG : ∀ k, w.heap.size ≤ k → G k) (hn5 : n ≤ 5) (hp : p < n) (hq : q < n) (hpq : p ≠ q) (hw : b.wy p q = x :: r) (hx : x ≠ -1) (hx0 : 0 ≤ x) (hx5 : x ≤ 5000) (hm0 : 0 ≤ b.mo q) (hm5 : b.mo q ≤ 5000) (h0 : 0 ≤ b.no q) (hh : b.he q p = false) (ha0 : 0 ≤ b.ca q p) (ha5 : b.ca q p ≤ 5000) :
    Calls Tryd.prog 7 #[rbV n be v, mvV 1 p q s] w fun e w' => ∃ v', e = .returned (.tuple #[rbV n be v', .int .i64 0]) ∧ RB G n { b with mo := M.upd1 b.mo q (b.mo q + x), wy := M.upd2 b.wy p q r, ca := M.upd2 b.ca q p (b.ca q p + x) } v' w' ∧ Below w.heap.size w w' := by
  obtain ⟨W, hW⟩ : ∃ W, (((w.alloc (.cells #[.slice v.pm n v.cm, .slice v.pn n v.cn, .slice v.pw (n * n) v.cw, .slice v.ph (n * n) v.ch, .slice v.pc (n * n) v.cc, .bool be] 27)).alloc (.cells #[.int .i64 1, .int .i64 p, .int .i64 q, .int .i64 s] 38)).alloc (.cells #[.slice none 0 0, .slice none 0 0, .slice none 0 0, .slice none 0 0, .slice none 0 0, .bool false] 27)) = W := ⟨_, rfl⟩
  have S0 := ms_begin be 1 p q s hR hG
  rw [hW] at S0
  have BKG : Hid (∀ j, (G j ∧ j ≠ w.heap.size ∧ j ≠ w.heap.size + 1 ∧ j ≠ w.heap.size + 1 + 1) → G j) := fun j hj => hj.1
  obtain ⟨G', hG'⟩ : ∃ G' : Nat → Prop, (fun j => G j ∧ j ≠ w.heap.size ∧ j ≠ w.heap.size + 1 ∧ j ≠ w.heap.size + 1 + 1) = G' := ⟨_, rfl⟩
  have BK : Hid (∀ j, G' j → G j) := by rw [← hG']; exact BKG
  rw [hG'] at S0
  clear hG' BKG
  obtain ⟨N2, hN2⟩ : ∃ N2, n * n = N2 := ⟨_, rfl⟩
  have HN2 : Hid (n * n = N2) := hN2
  have lN := S0.lb.lt
  have lM := S0.mb.lt
  have lZ := S0.zb.lt
  have l0 := S0.lb.c0
  have l1 := S0.lb.c1
  have l2 := S0.lb.c2
  have l3 := S0.lb.c3
  have l4 := S0.lb.c4
  have l5 := S0.lb.c5
  have m0 := S0.mb.c0
  have m1 := S0.mb.c1
  have m2 := S0.mb.c2
  have m3 := S0.mb.c3
  have z0 := S0.zb.c0
  have z1 := S0.zb.c1
  have z2 := S0.zb.c2
  have z3 := S0.zb.c3
  have z4 := S0.zb.c4
  have z5 := S0.zb.c5
  have f0 := S0.zb.fz 0
  have f1 := S0.zb.fz 1
  have f2 := S0.zb.fz 2
  have f3 := S0.zb.fz 3
  have f4 := S0.zb.fz 4
  have f5 := S0.zb.fz 5
  obtain ⟨m, hm⟩ : ∃ m, p * n = m := ⟨_, rfl⟩
  obtain ⟨j, hj⟩ : ∃ j, m + q = j := ⟨_, rfl⟩
  have hjl : j < N2 := by rw [← hj, ← hm, ← hN2]; exact pair_lt hp hq
  have hN25 : N2 ≤ 25 := by
    have := Nat.mul_le_mul hn5 hn5
    omega
  have hmi : (p : Int) * (n : Int) = (m : Int) := by rw [← hm]; exact (Int.natCast_mul p n).symm
  have hji : (m : Int) + (q : Int) = (j : Int) := by omega
  have hji2 : (j : Int) < (N2 : Int) := by omega
  have hwm : IntKind.i64.wrap (m : Int) = (m : Int) := by rw [IntKind.wrap_i64]; omega
  have hwj : IntKind.i64.wrap (j : Int) = (j : Int) := by rw [IntKind.wrap_i64]; omega
  have HJ : Hid (p * n + q = j) := by show p * n + q = j; rw [hm]; exact hj
  have hne : ((p : Int) == (q : Int)) = false := by simp; omega
  have hne' : (p == q) = false := by simp; omega
  have HPQ : Hid (p ≠ q) := hpq
  obtain ⟨bw, ow, ew, hbw, _, hcw⟩ := S0.rb.wy.at_ (by rw [hN2]; omega)
  have cj : W.cell? ⟨bw, ow + j, none⟩ = some (v.vw j) := hcw j (by rw [hN2]; exact hjl)
  obtain ⟨ad, c1, e1, e2, e3, e4, e5⟩ := S0.rb.wv p q hp hq
  have e1' : v.vw j = .slice ad (b.wy p q).length c1 := by rw [← HJ.out]; exact e1
  rw [e1'] at cj
  obtain ⟨bm, om, em, hbm, _, hcm⟩ := S0.rb.mo.at_ (by omega)
  obtain ⟨l, hll⟩ : ∃ l, b.wy p q = l := ⟨_, rfl⟩
  have HLL : Hid (b.wy p q = l) := hll
  rw [hll] at cj e2 e3 e5 e1'
  have E1 : Hid (v.vw j = .slice ad l.length c1) := e1'
  have E2 : Hid (ad = none → l.length = 0 ∧ c1 = 0) := e2
  have E5 : Hid (FI G' l.length (fun i => .int .i64 (l[i]?.getD 0)) ad W) := e5
  clear hm hj e1 e2 e5 e1' hcw hll hpq
  have hl0 : l = x :: r := by rw [← HLL.out]; exact hw
  subst hl0
  have hr1 : (x :: r).length = r.length + 1 := rfl
  obtain ⟨ba, oa, ea, hba, gba, hca⟩ := E5.out.at_ (by rw [hr1]; omega)
  subst ea
  have cx : W.cell? ⟨ba, oa, none⟩ = some (.int .i64 x) := hca 0 (by rw [hr1]; omega)
  obtain ⟨A, hA, hRW⟩ : ∃ A : Addr, (if c1 = 1 then some (⟨ba, oa, none⟩ : Addr) else some ⟨ba, oa + 1, none⟩) = some A ∧ RW G' r (.slice (some A) ((x :: r).length - 1) (c1 - 1)) W := by
    by_cases h : c1 = 1
    · refine ⟨⟨ba, oa, none⟩, by simp [h], some ⟨ba, oa, none⟩, c1 - 1, by rw [hr1]; rfl, fun e => absurd e (by simp), by omega, by omega, fun i hi => ?_⟩
      rw [hr1] at e3
      omega
    · refine ⟨⟨ba, oa + 1, none⟩, by simp [h], some ⟨ba, oa + 1, none⟩, c1 - 1, by rw [hr1]; rfl, fun e => absurd e (by simp), by omega, by omega, fun i hi => ⟨ba, oa + 1, rfl, hba, gba, ?_⟩⟩
      rw [show oa + 1 + i = oa + (i + 1) by omega, hca (i + 1) (by rw [hr1]; omega)]
      rfl
  obtain ⟨L, hL⟩ : ∃ L, (x :: r).length = L := ⟨_, rfl⟩
  rw [hL] at cj e3 hRW
  have hL0 : 1 ≤ L := by rw [← hL, hr1]; omega
  have hL0' : (1 : Int) ≤ (L : Int) := by omega
  have hL1 : 0 < L := by omega
  have hL1' : (0 : Int) < (L : Int) := by omega
  have hLd : ((L : Int) == 0) = false := by simp; omega
  have hLd' : (L == 0) = false := by simp; omega
  have hLc : L ≤ c1 := e3
  unfold maxLen at e4
  have HRW : Hid (RW G' r (.slice (some A) (L - 1) (c1 - 1)) W) := hRW
  obtain ⟨m', hm'⟩ : ∃ m', q * n = m' := ⟨_, rfl⟩
  obtain ⟨j', hj'⟩ : ∃ j', m' + p = j' := ⟨_, rfl⟩
  have hjl' : j' < N2 := by rw [← hj', ← hm', ← hN2]; exact pair_lt hq hp
  have hmi' : (q : Int) * (n : Int) = (m' : Int) := by rw [← hm']; exact (Int.natCast_mul q n).symm
  have hji' : (m' : Int) + (p : Int) = (j' : Int) := by omega
  have hji2' : (j' : Int) < (N2 : Int) := by omega
  have hwm' : IntKind.i64.wrap (m' : Int) = (m' : Int) := by rw [IntKind.wrap_i64]; omega
  have hwj' : IntKind.i64.wrap (j' : Int) = (j' : Int) := by rw [IntKind.wrap_i64]; omega
  have HJ' : Hid (q * n + p = j') := by show q * n + p = j'; rw [hm']; exact hj'
  have hqi : (q : Int) < n := by omega
  have HS : Hid (MS w.heap.size G' n be b v 1 p q s w W) := S0
  clear hm' hj' hL hr1 hRW hca E5 E1 E2 HLL
  obtain ⟨pm, cm, pn, cn, pw, cw, ph, ch, pc, cc, vw⟩ := v
  have em' : pm = some ⟨bm, om, none⟩ := em
  have ew' : pw = some ⟨bw, ow, none⟩ := ew
  subst em' ew'
  simp only [rbV, v0] at hW l0 l1 l2 l3 l4 z0 z1 z2 z3 z4 ⊢
  rw [hN2] at hW l2 l3 l4 ⊢
  clear S0 hR hN2 hG ew em hcm hw
  have hcap := HS.out.rb.cw
  have hsl := HS.out.rb.slices
  have hwy := HS.out.rb.wy
  simp only at hcap hsl hwy
  rw [HN2.out] at hcap hsl hwy
  have HSL : Hid (∀ j, j < N2 → ∃ a l c, vw j = .slice a l c) := hsl
  have HW : Hid (FI G' N2 vw (some ⟨bw, ow, none⟩) W) := hwy
  clear hsl hwy
  go_enter Tryd.func7, Tryd.ntmps7
  go_wp2_with fail
  refine (in_is 1 0 2 true _ (by decide)).mono ?_
  rintro e w9 ⟨rfl, rfl⟩
  go_wp2_with fail
  refine (in_is (p : Int) 0 ((n : Int) - 1) true _ (inB_true (by omega) (by omega))).mono ?_
  rintro e w9 ⟨rfl, rfl⟩
  go_wp2_with fail
  refine (in_is (q : Int) 0 ((n : Int) - 1) true _ (inB_true (by omega) (by omega))).mono ?_
  rintro e w9 ⟨rfl, rfl⟩
  go_wp2_with fail
  go_still_tail 5, (by kernel_rfl)
  go_wp2_with fail
  refine (rway_ok (G := G') vw N2 j (.slice (some A) (L - 1) (c1 - 1)) (some ⟨bw, ow, none⟩) cw W.drew (by omega) hjl hcap.1 hcap.2 HSL.out ⟨_, _, _, rfl⟩ HW.out).mono ?_
  rintro e w4 ⟨p2, c2, rfl, k1, k2, hF4, hB4⟩
  have hB4' : Below W.heap.size W w4 := (Below.refl _ W).drew.trans hB4
  have e2 := (HS.out.later hB4').lb.c2
  have g2 := (HS.out.later hB4').lb.fz 2
  simp only at e2
  have sz4 := HS.out.sz
  have lN4 := (HS.out.later hB4').lb.lt
  have lM4 := (HS.out.later hB4').mb.lt
  obtain ⟨w5, hw5⟩ : ∃ w5, w4.setCell ⟨w.heap.size, 2, none⟩ (.slice p2 N2 c2) = w5 := ⟨_, rfl⟩
  obtain ⟨vv, hvv⟩ : ∃ vv, M.upd1 vw (p * n + q) (.slice (some A) (L - 1) (c1 - 1)) = vv := ⟨_, rfl⟩
  have S1 : MS w.heap.size G' n be (M.popB b p q r) ⟨some ⟨bm, om, none⟩, cm, pn, cn, p2, c2, ph, ch, pc, cc, vv⟩ 1 p q s w w5 := by
    rw [← hw5, ← hvv]
    refine HS.out.field hB4' 2 _ (HS.out.rb.setW (p := p) (q := q) (u := .slice (some A) (L - 1) (c1 - 1)) (l := r) hB4' hq ?_ (by rw [HN2.out]; exact ⟨k1, k2⟩) (HRW.out.later hB4')) ?_
    · rw [HN2.out, HJ.out]
      exact hF4.mono (fun i _ hi => HS.out.fr i (by have : W.heap.size ≤ i := hi; omega))
    · rw [← HN2.out]; exact (HS.out.later hB4').lb.s2 p2 c2 _
  have cx5 : w5.cell? ⟨ba, oa, none⟩ = some (.int .i64 x) := by
    rw [← hw5]
    exact (World.cell?_of_block (Below.heap_setCell _ _ _ _ (fun e => HS.out.nl (by have e' : ba = w.heap.size := e; rw [← e']; exact gba)))).trans ((hB4'.cell (p := ⟨ba, oa, none⟩) hba).trans cx)
  have hba5 : ba < w5.heap.size := by rw [← hw5]; have := hB4'.size; simp [World.setCell]; omega
  have lN5 := S1.lb.lt
  have lM5 := S1.mb.lt
  have m15 := S1.mb.c1
  have m25 := S1.mb.c2
  have HS1 : Hid (MS w.heap.size G' n be (M.popB b p q r) ⟨some ⟨bm, om, none⟩, cm, pn, cn, p2, c2, ph, ch, pc, cc, vv⟩ 1 p q s w w5) := S1
  clear l0 l1 l2 l3 l4 l5 z0 z1 z2 z3 z4 z5 f0 f1 f2 f3 f4 f5 m0 m1 m2 m3 hW cx cj HS HSL HW hF4 hB4 hB4' HRW k1 k2 hA hvv hba hcap lN lM lZ hbw hbm
  obtain ⟨bn, on, en, hbn, _, hcn⟩ := S1.rb.no.at_ (by omega)
  have en' : pn = some ⟨bn, on, none⟩ := en
  subst en'
  have cn5 : w5.cell? ⟨bn, on + q, none⟩ = some (.int .i64 (b.no q)) := hcn q hq
  have l15 := S1.lb.c1
  simp only at l15
  clear hcn en
  obtain ⟨bh, oh, eh, hbh, _, hch⟩ := S1.rb.he.at_ (by rw [HN2.out]; omega)
  have eh' : ph = some ⟨bh, oh, none⟩ := eh
  subst eh'
  have ch5 : w5.cell? ⟨bh, oh + j', none⟩ = some (.bool (b.he q p)) := by
    have := hch j' (by rw [HN2.out]; exact hjl')
    rw [this, ← HJ'.out, pair_div q hp, pair_mod q hp]
    rfl
  obtain ⟨bc, oc, ec, hbc, _, hcc⟩ := S1.rb.ca.at_ (by rw [HN2.out]; omega)
  have ec' : pc = some ⟨bc, oc, none⟩ := ec
  subst ec'
  have cc5 : w5.cell? ⟨bc, oc + j', none⟩ = some (.int .i64 (b.ca q p)) := by
    have := hcc j' (by rw [HN2.out]; exact hjl')
    rw [this, ← HJ'.out, pair_div q hp, pair_mod q hp]
    rfl
  obtain ⟨bm', om', em9, hbm5, _, hcm5⟩ := S1.rb.mo.at_ (by omega)
  cases em9
  have cm5 : w5.cell? ⟨bm, om + q, none⟩ = some (.int .i64 (b.mo q)) := hcm5 q hq
  have l05 := S1.lb.c0
  simp only at l05
  obtain ⟨mo, hmo⟩ : ∃ mo, b.mo q = mo := ⟨_, rfl⟩
  have HMO : Hid (b.mo q = mo) := hmo
  rw [hmo] at cm5 hm0 hm5
  have hxd : (x == -1) = false := by simp; omega
  have MO : Hid (FI G' n (fun i => .int .i64 (b.mo i)) (some ⟨bm, om, none⟩) w5) := S1.rb.mo
  clear S1 hch hcc hcm5 eh ec hmo
  go_wp2_with fail
  go_still_tail 14, (by kernel_rfl)
  go_wp2_with fail
  refine (with_ok (G := G') b.mo n q (mo + x) (some ⟨bm, om, none⟩) cm w5.drew (by omega) hq MO.out).mono ?_
  rintro e w6 ⟨pm2, cm2, rfl, _, _, hF6, hB6⟩
  have hB6' : Below w5.heap.size w5 w6 := (Below.refl _ w5).drew.trans hB6
  have e0 := (HS1.out.later hB6').lb.c0
  have g0 := (HS1.out.later hB6').lb.fz 0
  simp only at e0
  obtain ⟨w7, hw7⟩ : ∃ w7, w6.setCell ⟨w.heap.size, 0, none⟩ (.slice pm2 n cm2) = w7 := ⟨_, rfl⟩
  have S2 : MS w.heap.size G' n be { (M.popB b p q r) with mo := M.upd1 b.mo q (mo + x) } ⟨pm2, cm2, some ⟨bn, on, none⟩, cn, p2, c2, some ⟨bh, oh, none⟩, ch, some ⟨bc, oc, none⟩, cc, vv⟩ 1 p q s w w7 := by
    rw [← hw7]
    exact HS1.out.field hB6' 0 _ (HS1.out.rb.setM hB6' (hF6.mono (fun i _ hi => HS1.out.fr i (by have : w5.heap.size ≤ i := hi; have := HS1.out.sz; omega)))) ((HS1.out.later hB6').lb.s0 pm2 cm2)
  have K7 : ∀ (a : Addr) (u : Value), a.block < w5.heap.size → a.block ≠ w.heap.size → w5.cell? a = some u → w7.cell? a = some u := fun a u h1 h2 h3 => by
    rw [← hw7]
    exact (World.cell?_of_block (Below.heap_setCell _ _ _ _ h2)).trans ((hB6'.cell h1).trans h3)
  have NE : ∀ i, G' i → i ≠ w.heap.size := fun i hi e => HS1.out.nl (e ▸ hi)
  have cx7 := K7 ⟨ba, oa, none⟩ _ hba5 (NE ba gba) cx5
  have cn7 := K7 ⟨bn, on + q, none⟩ _ hbn (NE bn (by assumption)) cn5
  have ch7 := K7 ⟨bh, oh + j', none⟩ _ hbh (NE bh (by assumption)) ch5
  have cc7 := K7 ⟨bc, oc + j', none⟩ _ hbc (NE bc (by assumption)) cc5
  have l17 := S2.lb.c1
  have l37 := S2.lb.c3
  have l47 := S2.lb.c4
  have m27 := S2.mb.c2
  simp only at l17 l37 l47
  rw [HN2.out] at l37 l47
  have lN7 := S2.lb.lt
  have lM7 := S2.mb.lt
  have s57 : w5.heap.size ≤ w7.heap.size := by rw [← hw7]; have := hB6'.size; simpa [World.setCell] using this
  have hba7 : ba < w7.heap.size := by omega
  have hbn7 : bn < w7.heap.size := by omega
  have hbh7 : bh < w7.heap.size := by omega
  have hbc7 : bc < w7.heap.size := by omega
  have HS2 : Hid (MS w.heap.size G' n be { (M.popB b p q r) with mo := M.upd1 b.mo q (mo + x) } ⟨pm2, cm2, some ⟨bn, on, none⟩, cn, p2, c2, some ⟨bh, oh, none⟩, ch, some ⟨bc, oc, none⟩, cc, vv⟩ 1 p q s w w7) := S2
  obtain ⟨no, hno⟩ : ∃ no, b.no q = no := ⟨_, rfl⟩
  have HNO : Hid (b.no q = no) := hno
  rw [hno] at cn7
  rw [hno] at h0
  have hnd : decide (0 ≤ no) = true := decide_eq_true h0
  rw [hh] at ch7
  obtain ⟨ca, hca⟩ : ∃ ca, b.ca q p = ca := ⟨_, rfl⟩
  have HCA : Hid (b.ca q p = ca) := hca
  rw [hca] at cc7 ha0 ha5
  clear hca
  clear S2 K7 NE cx5 cn5 ch5 cc5 cm5 l05 l15 m15 m25 hF6 hB6 hB6' MO HS1 hno hw5 e2 g2 hba5 hbn hbh hbc hbm5
  go_wp2_with fail
  have CA : Hid (FI G' N2 (fun i => .int .i64 (b.ca (i / n) (i % n))) (some ⟨bc, oc, none⟩) w7) := by rw [← HN2.out]; exact HS2.out.rb.ca
  go_still_tail 12, (by kernel_rfl)
  go_wp2_with fail
  refine (with_ok (G := G') (fun i => b.ca (i / n) (i % n)) N2 j' (ca + x) (some ⟨bc, oc, none⟩) cc w7.drew (by omega) hjl' CA.out).mono ?_
  rintro e w8 ⟨pc9, cc9, rfl, k1, k2, hF8, hB8⟩
  have hB8' : Below w7.heap.size w7 w8 := (Below.refl _ w7).drew.trans hB8
  have e4' := (HS2.out.later hB8').lb.c4
  have g4 := (HS2.out.later hB8').lb.fz 4
  simp only at e4'
  obtain ⟨w9, hw9⟩ : ∃ w9, w8.setCell ⟨w.heap.size, 4, none⟩ (.slice pc9 N2 cc9) = w9 := ⟨_, rfl⟩
  have S9 : MS w.heap.size G' n be { b with mo := M.upd1 b.mo q (b.mo q + x), wy := M.upd2 b.wy p q r, ca := M.upd2 b.ca q p (b.ca q p + x) } ⟨pm2, cm2, some ⟨bn, on, none⟩, cn, p2, c2, some ⟨bh, oh, none⟩, ch, pc9, cc9, vv⟩ 1 p q s w w9 := by
    rw [← hw9, HMO.out, HCA.out]
    refine HS2.out.field hB8' 4 _ (HS2.out.rb.setC hB8' (by rw [HN2.out]; exact ⟨k1, k2⟩) (f := M.upd2 b.ca q p (ca + x)) ?_) ?_
    · rw [HN2.out]
      refine (hF8.mono (fun i _ hi => HS2.out.fr i (by have : w7.heap.size ≤ i := hi; have := HS2.out.sz; omega))).congr (fun i hi => ?_)
      by_cases e : i = j'
      · subst e
        rw [M.upd1_same, ← HJ'.out, pair_div q hp, pair_mod q hp, M.upd2_same]
      · rw [M.upd1_other _ _ e, M.upd2_other _ _ (fun y => e (by rw [← HJ'.out, ← y.1, ← y.2, Nat.mul_comm, Nat.div_add_mod]))]
    · rw [← HN2.out]; exact (HS2.out.later hB8').lb.s4 pc9 cc9
  clear hF8 hB8 hB8' CA HS2
  have lN9 := S9.lb.lt
  have lZ9 := S9.zb.lt
  have l0 := S9.lb.c0
  have l1 := S9.lb.c1
  have l2 := S9.lb.c2
  have l3 := S9.lb.c3
  have l4 := S9.lb.c4
  have l5 := S9.lb.c5
  have z0 := S9.zb.c0
  have z1 := S9.zb.c1
  have z2 := S9.zb.c2
  have z3 := S9.zb.c3
  have z4 := S9.zb.c4
  have z5 := S9.zb.c5
  have f0 := S9.zb.fz 0
  have f1 := S9.zb.fz 1
  have f2 := S9.zb.fz 2
  have f3 := S9.zb.fz 3
  have f4 := S9.zb.fz 4
  have f5 := S9.zb.fz 5
  simp only [v0] at l0 l1 l2 l3 l4 z0 z1 z2 z3 z4
  rw [HN2.out] at l2 l3 l4
  have FE := S9.ret HN2.out (G0 := G) BK.out
  simp only at FE
  have F : Hid (LB (w.heap.size + 1 + 1) n be _ _ ∧ RB G n _ _ _ ∧ Below w.heap.size w _) := FE
  clear FE
  clear S9
  go_wp2_with fail
  obtain rfl := HN2.out
  exact bodyPost_ret (v := .tuple #[rbV n be ⟨pm2, cm2, some ⟨bn, on, none⟩, cn, p2, c2, some ⟨bh, oh, none⟩, ch, pc9, cc9, vv⟩, .int .i64 0]) (results_bank rfl _ _ (w.heap.size + 1 + 1) n be _ 0 rfl rfl F.out.1) rfl ⟨_, rfl, F.out.2.1, F.out.2.2⟩
end Go.Proofs.YtplplgpfglaajaaDoor
