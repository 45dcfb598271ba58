/- A deed at the document's own store of views (whensteadref3.View); written by mk_refv3.py. -/
import Derived.Test.YtajiichehffaaaaDoorRefV2
import Derived.Test.YtajiichehffaaaaDoorBRf
import Derived.Test.YtajiichehffaaaaDoorAppAny
import Derived.StillTailTactics
import Derived.BigRegion
import Derived.BigQuiet
import Derived.Deep.CutRange
namespace Go.Proofs.YtajiichehffaaaaDoor
open Go.RowKit
theorem infoDe_parts {P : Program} {t : TypeId} {z : Value} {s b : Nat} (h : (P.info? t).map (fun i => (i.zero, i.size, i.bytes)) = some (some z, s, b)) : ∃ i, P.info? t = some i ∧ i.zero = some z ∧ i.size = s ∧ i.bytes = b := by
  obtain ⟨i, hi, e⟩ := Option.map_eq_some_iff.1 h
  simp only [Prod.mk.injEq] at e
  exact ⟨i, hi, e.1, e.2.1, e.2.2⟩
/-- what a step tells, and leaves -/
def StepV (G : Nat → Prop) (s : M.Vw) (D : List Dz) (k t i x : Int) (w : World) (e : Ending) (w' : World) : Prop :=
  ∃ D' st' p' c', e = .returned (.tuple #[rsV st' D' p' c', .int .i64 (vwZ s k t i x).2.1, .int .i64 (((vwZ s k t i x).2.2 : Nat) : Int)]) ∧ RD G D' p' c' w' ∧ VD (vwZ s k t i x).1 D' st' ∧ D'.length ≤ D.length + 1 ∧ Below w.heap.size w w'
theorem StepV.mk {G : Nat → Prop} {s : M.Vw} {D : List Dz} {k t i x : Int} {w w' : World} {D' : List Dz} {st' : Nat} {p' : Option Addr} {c' : Nat} {s' : M.Vw} {z : Int} {cd : Nat} (hv : vwZ s k t i x = (s', z, cd)) (hR : RD G D' p' c' w') (hV : VD s' D' st') (hl : D'.length ≤ D.length + 1) (hB : Below w.heap.size w w') : StepV G s D k t i x w (.returned (.tuple #[rsV st' D' p' c', .int .i64 z, .int .i64 ((cd : Nat) : Int)])) w' := by
  refine ⟨D', st', p', c', ?_, hR, ?_, hl, hB⟩
  · rw [hv]
  · rw [hv]; exact hV
theorem vwz_state {s : M.Vw} {k i x : Int} {t : Nat} (h : vdIn k (t : Nat) i x = true) (hs : s.dg t ≠ (if k = 4 then 0 else 1)) : vwZ s k (t : Nat) i x = (s, 0, 7) := by
  have e1 : vwZ s k (t : Nat) i x = M.vwDo s k.toNat ((t : Nat) : Int).toNat i.toNat x.toNat := if_pos h
  have hk := (vdIn_true h).1
  rw [e1, Int.toNat_natCast]
  refine vw_state ?_
  by_cases c : k = 4
  · rw [if_pos c] at hs; rw [if_pos (by omega)]; exact hs
  · rw [if_neg c] at hs; rw [if_neg (by omega)]; exact hs
theorem vd_beg {s : M.Vw} {D : List Dz} {st t : Nat} {k i x : Int} (hV : VD s D st) (h : vdIn k (t : Nat) i x = true) (hk : k = 4) (hd : s.dg t = 0) : vwZ s k (t : Nat) i x = (M.vBeg s t, -1, 0) ∧ VD (M.vBeg s t) (D ++ [⟨k, (t : Nat), i, x⟩]) st := by
  subst hk
  have ht := (vdIn_true h).2.1
  refine ⟨?_, hV.app h (VStep.beg hV.vi (by omega) hd i x)⟩
  have e1 : vwZ s 4 (t : Nat) i x = M.vwDo s (4 : Int).toNat ((t : Nat) : Int).toNat i.toNat x.toNat := if_pos h
  rw [e1, Int.toNat_natCast]
  exact vw_beg hd
theorem vd_com {s : M.Vw} {D : List Dz} {st t : Nat} {k i x : Int} (hV : VD s D st) (h : vdIn k (t : Nat) i x = true) (hk : k = 5) (hd : s.dg t = 1) (hc : M.clashB s t = false) : vwZ s k (t : Nat) i x = (M.vCom s t, -1, 0) ∧ VD (M.vCom s t) (D ++ [⟨k, (t : Nat), i, x⟩]) st := by
  subst hk
  have ht := (vdIn_true h).2.1
  refine ⟨?_, hV.app h (VStep.com hV.vi (by omega) hd hc i x)⟩
  have e1 : vwZ s 5 (t : Nat) i x = M.vwDo s (5 : Int).toNat ((t : Nat) : Int).toNat i.toNat x.toNat := if_pos h
  rw [e1, Int.toNat_natCast, show (5 : Int).toNat = 5 from rfl, vw_com hd]
  unfold M.cmDo; rw [if_neg (by rw [hc]; simp)]
theorem vd_stop {s : M.Vw} {D : List Dz} {st t : Nat} {k i x : Int} (hV : VD s D st) (h : vdIn k (t : Nat) i x = true) (hk : k = 5) (hd : s.dg t = 1) (hc : M.clashB s t = true) : vwZ s k (t : Nat) i x = (M.vStop s t, 0, 6) ∧ VD (M.vStop s t) D (st ||| 1 <<< t) := by
  subst hk
  have ht := (vdIn_true h).2.1
  refine ⟨?_, hV.stop (by omega) hd⟩
  have e1 : vwZ s 5 (t : Nat) i x = M.vwDo s (5 : Int).toNat ((t : Nat) : Int).toNat i.toNat x.toNat := if_pos h
  rw [e1, Int.toNat_natCast, show (5 : Int).toNat = 5 from rfl, vw_com hd]
  unfold M.cmDo; rw [if_pos hc]
theorem vd_wr {s : M.Vw} {D : List Dz} {st t : Nat} {k i x : Int} (hV : VD s D st) (h : vdIn k (t : Nat) i x = true) (hk : k = 3) (hd : s.dg t = 1) (hx : x = 1) : ∃ s', vwZ s k (t : Nat) i x = (s', -1, 0) ∧ VD s' (D ++ [⟨k, (t : Nat), i, x⟩]) st := by
  subst hk; subst hx
  have hi := (vdIn_true h).2.2 rfl
  obtain ⟨o, rfl⟩ : ∃ n : Nat, i = n := ⟨i.toNat, by omega⟩
  refine ⟨M.vWr s t o, ?_, hV.app h (VStep.wrt hV.vi (by omega) hd)⟩
  have e1 : vwZ s 3 (t : Nat) (o : Nat) 1 = M.vwDo s (3 : Int).toNat ((t : Nat) : Int).toNat ((o : Nat) : Int).toNat (1 : Int).toNat := if_pos h
  rw [e1, Int.toNat_natCast, Int.toNat_natCast]
  exact vw_wr hd
theorem vd_rd {s : M.Vw} {D : List Dz} {st t b : Nat} {k i x : Int} (hV : VD s D st) (h : vdIn k (t : Nat) i x = true) (hk : k = 3) (hd : s.dg t = 1) (hx : x = 0) (hb : whZ D (t : Nat) 4 = ((b : Nat) : Int)) : ∃ s', vwZ s k (t : Nat) i x = (s', if wrZ D (t : Nat) i = true then ((t : Nat) : Int) else laZ D i b, 0) ∧ VD s' (D ++ [⟨k, (t : Nat), i, x⟩]) st := by
  subst hk; subst hx
  have hi := (vdIn_true h).2.2 rfl
  obtain ⟨o, rfl⟩ : ∃ n : Nat, i = n := ⟨i.toNat, by omega⟩
  have e1 : vwZ s 3 (t : Nat) (o : Nat) 0 = M.vwDo s (3 : Int).toNat ((t : Nat) : Int).toNat ((o : Nat) : Int).toNat (0 : Int).toNat := if_pos h
  rw [e1, Int.toNat_natCast, Int.toNat_natCast, show (3 : Int).toNat = 3 from rfl, show (0 : Int).toNat = 0 from rfl, hV.wr]
  cases c : (s.wr t).testBit o with
  | true => exact ⟨s, by rw [vw_own hd c, if_pos rfl], hV.app h (VStep.own hV.vi c)⟩
  | false =>
    refine ⟨M.vRd s t o, ?_, hV.app h (VStep.red hV.vi (by omega) hd c)⟩
    obtain ⟨b', h1, h2, _, h4⟩ := hV.b1 t (by omega)
    obtain rfl : b = b' := by rw [h2] at hb; omega
    rw [vw_rd hd c, if_neg (by simp), hV.la o (Nat.le_of_lt h1), h4]

set_option maxRecDepth 100000 in
set_option maxHeartbeats 8000000 in
theorem rv_bad {G : Nat → Prop} {s : M.Vw} {D : List Dz} {st : Nat} (k t i x : Int) (p : Option Addr) (c : Nat) (w : World) (hR : RD G D p c w) (hG : ∀ j, w.heap.size ≤ j → G j) (hV : VD s D st) (h0 : vdIn k t i x = false) :
    Calls Tryd.prog 16 #[rsV st D p c, dvV k t i x] w (StepV G s D k t i x w) := by
  have hKV := kv_begin (o := ⟨k, t, i, x⟩) (st := st) hR hG
  obtain ⟨N, hN⟩ : ∃ N, w.heap.size = N := ⟨_, rfl⟩
  obtain ⟨G', hG'⟩ : ∃ G' : Nat → Prop, (fun j => G j ∧ j ≠ w.heap.size ∧ j ≠ w.heap.size + 1 ∧ j ≠ w.heap.size + 2) = G' := ⟨_, rfl⟩
  have HGG : Hid (∀ j, G' j → G j) := by rw [← hG']; exact fun j hj => hj.1
  have HNN : Hid (w.heap.size = N) := hN
  rw [hG', hN] at hKV
  obtain ⟨w2, hw2⟩ : ∃ w2, ((w.alloc (.cells #[.slice p D.length c, .int .i64 (st : Nat)] 41)).alloc (.cells #[.int .i64 k, .int .i64 t, .int .i64 i, .int .i64 x] 31)).alloc (.cells #[.slice none 0 0, .int .i64 0] 41) = w2 := ⟨_, rfl⟩
  rw [hw2] at hKV
  have HS2 : Hid (KV N G' ⟨k, t, i, x⟩ D st p c w w2) := hKV
  obtain ⟨L, hLL⟩ : ∃ L, D.length = L := ⟨_, rfl⟩
  have HLL : Hid (D.length = L) := hLL
  simp only [rsV]
  rw [hLL] at hw2 ⊢
  clear hR hG hG' hKV hLL
  have HVZ : Hid (vwZ s k t i x = (s, 0, 1)) := vwZ_bad h0
  have HV : Hid (VD s D st) := hV
  have b1 := fun w' => ink_ok k 3 5 w'
  have b2 := fun w' => ink_ok t 0 4 w'
  have b3 := fun w' => ink_ok i 0 3 w'
  have b4 := fun w' => ink_ok x 0 1 w'
  have HE : Hid (inK k 3 5 = false ∨ (inK k 3 5 = true ∧ inK t 0 4 = false) ∨ (inK k 3 5 = true ∧ inK t 0 4 = true ∧ (k == 3) = true ∧ inK i 0 3 = false) ∨ (inK k 3 5 = true ∧ inK t 0 4 = true ∧ (k == 3) = true ∧ inK i 0 3 = true ∧ inK x 0 1 = false)) := by
    unfold vdIn thingZ at h0
    unfold inK
    simp only [decide_eq_false_iff_not, decide_eq_true_eq, beq_iff_eq]
    by_cases e1 : 3 ≤ k ∧ k ≤ 5
    · right
      by_cases e2 : 0 ≤ t ∧ t ≤ 4
      · right
        have e2' : 0 ≤ t ∧ t < 5 := by omega
        rw [decide_eq_true e1, decide_eq_true e2', Bool.true_and, Bool.true_and, Bool.or_eq_false_iff, Bool.and_eq_false_iff] at h0
        have hk3 : k = 3 := by simpa using h0.1
        by_cases e3 : 0 ≤ i ∧ i ≤ 3
        · right
          refine ⟨e1, e2, hk3, e3, fun e4 => ?_⟩
          rcases h0.2 with h | h
          · rw [decide_eq_false_iff_not] at h; omega
          · rw [decide_eq_false_iff_not] at h; omega
        · exact .inl ⟨e1, e2, hk3, e3⟩
      · exact .inl ⟨e1, e2⟩
    · exact .inl e1
  obtain ⟨q1, hq1⟩ : ∃ q, inK k 3 5 = q := ⟨_, rfl⟩
  obtain ⟨q2, hq2⟩ : ∃ q, inK t 0 4 = q := ⟨_, rfl⟩
  obtain ⟨q3, hq3⟩ : ∃ q, inK i 0 3 = q := ⟨_, rfl⟩
  obtain ⟨q4, hq4⟩ : ∃ q, inK x 0 1 = q := ⟨_, rfl⟩
  rw [hq1] at b1 HE
  rw [hq2] at b2 HE
  rw [hq3] at b3 HE
  rw [hq4] at b4 HE
  clear hq1 hq2 hq3 hq4 h0 hV
  have sz := HS2.out.sz
  have l0 := HS2.out.rs.c0
  rw [HLL.out] at l0
  have l1 := HS2.out.rs.c1
  have f0 := HS2.out.rs.fz 0
  have f1 := HS2.out.rs.fz 1
  have d0 := HS2.out.ab.c0
  have d1 := HS2.out.ab.c1
  have d2 := HS2.out.ab.c2
  have d3 := HS2.out.ab.c3
  simp only [Nat.zero_add] at d0 d1 d2 d3
  have z0 := HS2.out.zb.c0
  have z1 := HS2.out.zb.c1
  have j0 := HS2.out.zb.fz 0
  have j1 := HS2.out.zb.fz 1
  rcases HE.out with rfl | ⟨rfl, rfl⟩ | ⟨rfl, rfl, hk3, rfl⟩ | ⟨rfl, rfl, hk3, rfl, rfl⟩
  · clear HE
    go_enter Tryd.func16, Tryd.ntmps16
    go_wp2_with fail
    refine (b1 _).mono ?_
    rintro e w' ⟨rfl, rfl⟩
    have HRT := HS2.out.ret HGG.out
    rw [HLL.out] at HRT
    have HF : Hid _ := HRT.1
    have HFIN : Hid (StepV G s D k t i x w (.returned (.tuple #[rsV st D p c, .int .i64 0, .int .i64 (((1 : Nat) : Int))])) (cpyS w2 (N + 2) st L p c)) := StepV.mk (s' := s) HVZ.out HRT.2.1 HV.out (by first | omega | (simp; done)) (by rw [HNN.out]; exact HRT.2.2)
    clear HRT
    go_wp2_with fail
    refine bodyPost_ret (v := .tuple #[rsV st D p c, .int .i64 0, .int .i64 (((1 : Nat) : Int))]) (results_rs rfl _ _ (N + 2) st D p c 0 (((1 : Nat) : Int)) rfl rfl rfl (by rw [HLL.out]; exact HF.out)) rfl HFIN.out
  · clear HE
    go_enter Tryd.func16, Tryd.ntmps16
    go_wp2_with fail
    refine (b1 _).mono ?_
    rintro e w' ⟨rfl, rfl⟩
    go_wp2_with fail
    refine (b2 _).mono ?_
    rintro e w' ⟨rfl, rfl⟩
    have HRT := HS2.out.ret HGG.out
    rw [HLL.out] at HRT
    have HF : Hid _ := HRT.1
    have HFIN : Hid (StepV G s D k t i x w (.returned (.tuple #[rsV st D p c, .int .i64 0, .int .i64 (((1 : Nat) : Int))])) (cpyS w2 (N + 2) st L p c)) := StepV.mk (s' := s) HVZ.out HRT.2.1 HV.out (by first | omega | (simp; done)) (by rw [HNN.out]; exact HRT.2.2)
    clear HRT
    go_wp2_with fail
    refine bodyPost_ret (v := .tuple #[rsV st D p c, .int .i64 0, .int .i64 (((1 : Nat) : Int))]) (results_rs rfl _ _ (N + 2) st D p c 0 (((1 : Nat) : Int)) rfl rfl rfl (by rw [HLL.out]; exact HF.out)) rfl HFIN.out
  · clear HE
    go_enter Tryd.func16, Tryd.ntmps16
    go_wp2_with fail
    refine (b1 _).mono ?_
    rintro e w' ⟨rfl, rfl⟩
    go_wp2_with fail
    refine (b2 _).mono ?_
    rintro e w' ⟨rfl, rfl⟩
    go_wp2_with fail
    refine (b3 _).mono ?_
    rintro e w' ⟨rfl, rfl⟩
    have HRT := HS2.out.ret HGG.out
    rw [HLL.out] at HRT
    have HF : Hid _ := HRT.1
    have HFIN : Hid (StepV G s D k t i x w (.returned (.tuple #[rsV st D p c, .int .i64 0, .int .i64 (((1 : Nat) : Int))])) (cpyS w2 (N + 2) st L p c)) := StepV.mk (s' := s) HVZ.out HRT.2.1 HV.out (by first | omega | (simp; done)) (by rw [HNN.out]; exact HRT.2.2)
    clear HRT
    go_wp2_with fail
    refine bodyPost_ret (v := .tuple #[rsV st D p c, .int .i64 0, .int .i64 (((1 : Nat) : Int))]) (results_rs rfl _ _ (N + 2) st D p c 0 (((1 : Nat) : Int)) rfl rfl rfl (by rw [HLL.out]; exact HF.out)) rfl HFIN.out
  · clear HE
    go_enter Tryd.func16, Tryd.ntmps16
    go_wp2_with fail
    refine (b1 _).mono ?_
    rintro e w' ⟨rfl, rfl⟩
    go_wp2_with fail
    refine (b2 _).mono ?_
    rintro e w' ⟨rfl, rfl⟩
    go_wp2_with fail
    refine (b3 _).mono ?_
    rintro e w' ⟨rfl, rfl⟩
    go_wp2_with fail
    refine (b4 _).mono ?_
    rintro e w' ⟨rfl, rfl⟩
    have HRT := HS2.out.ret HGG.out
    rw [HLL.out] at HRT
    have HF : Hid _ := HRT.1
    have HFIN : Hid (StepV G s D k t i x w (.returned (.tuple #[rsV st D p c, .int .i64 0, .int .i64 (((1 : Nat) : Int))])) (cpyS w2 (N + 2) st L p c)) := StepV.mk (s' := s) HVZ.out HRT.2.1 HV.out (by first | omega | (simp; done)) (by rw [HNN.out]; exact HRT.2.2)
    clear HRT
    go_wp2_with fail
    refine bodyPost_ret (v := .tuple #[rsV st D p c, .int .i64 0, .int .i64 (((1 : Nat) : Int))]) (results_rs rfl _ _ (N + 2) st D p c 0 (((1 : Nat) : Int)) rfl rfl rfl (by rw [HLL.out]; exact HF.out)) rfl HFIN.out

set_option maxRecDepth 100000 in
set_option maxHeartbeats 40000000 in
theorem rv_good {G : Nat → Prop} {s : M.Vw} {D : List Dz} {st : Nat} (k i x : Int) (t0 : Nat) (p : Option Addr) (c : Nat) (w : World) (hR : RD G D p c w) (hG : ∀ j, w.heap.size ≤ j → G j) (hV : VD s D st) (hL : D.length ≤ 60) (h0 : vdIn k (t0 : Nat) i x = true) :
    Calls Tryd.prog 16 #[rsV st D p c, dvV k (t0 : Nat) i x] w (StepV G s D k (t0 : Nat) i x w) := by
  obtain ⟨t, ht⟩ : ∃ t : Int, ((t0 : Nat) : Int) = t := ⟨_, rfl⟩
  rw [ht] at h0 ⊢
  have HT : Hid (((t0 : Nat) : Int) = t) := ht
  have hKV := kv_begin (o := ⟨k, t, i, x⟩) (st := st) hR hG
  obtain ⟨N, hN⟩ : ∃ N, w.heap.size = N := ⟨_, rfl⟩
  obtain ⟨G', hG'⟩ : ∃ G' : Nat → Prop, (fun j => G j ∧ j ≠ w.heap.size ∧ j ≠ w.heap.size + 1 ∧ j ≠ w.heap.size + 2) = G' := ⟨_, rfl⟩
  have HGG : Hid (∀ j, G' j → G j) := by rw [← hG']; exact fun j hj => hj.1
  have HNN : Hid (w.heap.size = N) := hN
  rw [hG', hN] at hKV
  obtain ⟨w2, hw2⟩ : ∃ w2, ((w.alloc (.cells #[.slice p D.length c, .int .i64 (st : Nat)] 41)).alloc (.cells #[.int .i64 k, .int .i64 t, .int .i64 i, .int .i64 x] 31)).alloc (.cells #[.slice none 0 0, .int .i64 0] 41) = w2 := ⟨_, rfl⟩
  rw [hw2] at hKV
  have HS2 : Hid (KV N G' ⟨k, t, i, x⟩ D st p c w w2) := hKV
  obtain ⟨L, hLL⟩ : ∃ L, D.length = L := ⟨_, rfl⟩
  have HLL : Hid (D.length = L) := hLL
  simp only [rsV]
  rw [hLL] at hw2 ⊢
  clear hR hG hG' hKV hLL
  have HV : Hid (VD s D st) := hV
  have HL : Hid (L ≤ 60) := by show L ≤ 60; rw [← HLL.out]; exact hL
  have H0 : Hid (vdIn k t i x = true) := h0
  obtain ⟨⟨k3, k5⟩, ⟨t00, t5⟩, hix⟩ := vdIn_true h0
  have HK : Hid (3 ≤ k ∧ k ≤ 5) := ⟨k3, k5⟩
  have HT5 : Hid (t0 < 5) := (by omega : t0 < 5)
  have HIX : Hid (k = 3 → (0 ≤ i ∧ i < 4) ∧ 0 ≤ x ∧ x < 2) := hix
  have b1 : ∀ w', Calls Tryd.prog 29 #[.int .i64 k, .int .i64 3, .int .i64 5] w' fun e w'' => e = .returned (.bool true) ∧ w' = w'' := fun w' => by
    have h := ink_ok k 3 5 w'
    rwa [show inK k 3 5 = true from decide_eq_true (by omega)] at h
  have b2 : ∀ w', Calls Tryd.prog 29 #[.int .i64 t, .int .i64 0, .int .i64 4] w' fun e w'' => e = .returned (.bool true) ∧ w' = w'' := fun w' => by
    have h := ink_ok t 0 4 w'
    rwa [show inK t 0 4 = true from decide_eq_true (by omega)] at h
  have b3 : Hid (k = 3 → ∀ w', Calls Tryd.prog 29 #[.int .i64 i, .int .i64 0, .int .i64 3] w' fun e w'' => e = .returned (.bool true) ∧ w' = w'') := fun hk w' => by
    have h := ink_ok i 0 3 w'
    rwa [show inK i 0 3 = true from decide_eq_true (by have := hix hk; omega)] at h
  have b4 : Hid (k = 3 → ∀ w', Calls Tryd.prog 29 #[.int .i64 x, .int .i64 0, .int .i64 1] w' fun e w'' => e = .returned (.bool true) ∧ w' = w'') := fun hk w' => by
    have h := ink_ok x 0 1 w'
    rwa [show inK x 0 1 = true from decide_eq_true (by have := hix hk; omega)] at h
  clear h0 hV hL ht k3 k5 t00 t5 hix
  have sz := HS2.out.sz
  have l0 := HS2.out.rs.c0
  rw [HLL.out] at l0
  have l1 := HS2.out.rs.c1
  have f0 := HS2.out.rs.fz 0
  have f1 := HS2.out.rs.fz 1
  have d0 := HS2.out.ab.c0
  have d1 := HS2.out.ab.c1
  have d2 := HS2.out.ab.c2
  have d3 := HS2.out.ab.c3
  simp only [Nat.zero_add] at d0 d1 d2 d3
  have z0 := HS2.out.zb.c0
  have z1 := HS2.out.zb.c1
  have j0 := HS2.out.zb.fz 0
  have j1 := HS2.out.zb.fz 1
  go_enter Tryd.func16, Tryd.ntmps16
  go_upto_region 1 with fail
  go_cut [39] from 13 to 39 (fun u w' => u = .bool false ∧ Hid (KV N G' ⟨k, t, i, x⟩ D st p c w w'))
  case first =>
    by_cases hk : k = 3
    · have h3 := b3.out hk
      have h4 := b4.out hk
      have k3b : (k == 3) = true := by simpa using hk
      clear hk
      go_wp2_with fail
      refine (b1 _).mono ?_
      rintro e w' ⟨rfl, rfl⟩
      go_wp2_with fail
      refine (b2 _).mono ?_
      rintro e w' ⟨rfl, rfl⟩
      go_wp2_with fail
      refine (h3 _).mono ?_
      rintro e w' ⟨rfl, rfl⟩
      go_wp2_with fail
      refine (h4 _).mono ?_
      rintro e w' ⟨rfl, rfl⟩
      go_wp2_with fail
      go_meet
      exact ⟨rfl, HS2⟩
    · have k3b : (k == 3) = false := by simpa using hk
      clear hk
      go_wp2_with fail
      refine (b1 _).mono ?_
      rintro e w' ⟨rfl, rfl⟩
      go_wp2_with fail
      refine (b2 _).mono ?_
      rintro e w' ⟨rfl, rfl⟩
      go_wp2_with fail
      go_meet
      exact ⟨rfl, HS2⟩
  case rest =>
    obtain ⟨rfl, HS3⟩ := hcut
    clear l0 l1 f0 f1 d0 d1 d2 d3 z0 z1 j0 j1 sz b1 b2 b3 b4 HS2
    have sz := HS3.out.sz
    have l0 := HS3.out.rs.c0
    rw [HLL.out] at l0
    have l1 := HS3.out.rs.c1
    have f0 := HS3.out.rs.fz 0
    have f1 := HS3.out.rs.fz 1
    have d0 := HS3.out.ab.c0
    have d1 := HS3.out.ab.c1
    have d2 := HS3.out.ab.c2
    have d3 := HS3.out.ab.c3
    simp only [Nat.zero_add] at d0 d1 d2 d3
    have z0 := HS3.out.zb.c0
    have z1 := HS3.out.zb.c1
    have j0 := HS3.out.zb.fz 0
    have j1 := HS3.out.zb.fz 1
    have hwn := HS3.out.when t 4
    rw [HLL.out] at hwn
    go_wp2_with fail
    refine hwn.mono ?_
    rintro e w4 ⟨rfl, HS4⟩
    clear l0 l1 f0 f1 d0 d1 d2 d3 z0 z1 j0 j1 sz hwn
    have sz := HS4.out.sz
    have l0 := HS4.out.rs.c0
    rw [HLL.out] at l0
    have l1 := HS4.out.rs.c1
    have f0 := HS4.out.rs.fz 0
    have f1 := HS4.out.rs.fz 1
    have d0 := HS4.out.ab.c0
    have d1 := HS4.out.ab.c1
    have d2 := HS4.out.ab.c2
    have d3 := HS4.out.ab.c3
    simp only [Nat.zero_add] at d0 d1 d2 d3
    have z0 := HS4.out.zb.c0
    have z1 := HS4.out.zb.c1
    have j0 := HS4.out.zb.fz 0
    have j1 := HS4.out.zb.fz 1
    have hw5 := HS4.out.when t 5
    rw [HLL.out] at hw5
    have hst := HS4.out.zb.lt
    have hbt := fun W : World => bit_any st t0 W (by have := HV.out.lt; omega) (by have := HT5.out; omega)
    rw [HT.out] at hbt
    obtain ⟨bg, hbg⟩ : ∃ bg, whZ D t 4 = bg := ⟨_, rfl⟩
    obtain ⟨cm, hcm⟩ : ∃ cm, whZ D t 5 = cm := ⟨_, rfl⟩
    rw [hcm] at hw5
    simp only [hbg]
    have HBG : Hid (whZ D t 4 = bg) := hbg
    have HBC : Hid ((s.dg t0 = 0 → bg = -1) ∧ (s.dg t0 ≠ 0 → 0 ≤ bg) ∧ (s.dg t0 ≠ 2 → cm = -1) ∧ (s.dg t0 = 2 → 0 ≤ cm)) := by
      refine ⟨fun h => ?_, fun h => ?_, fun h => ?_, fun h => ?_⟩
      · rw [← hbg, ← HT.out]; exact HV.out.b0 t0 h
      · obtain ⟨b, _, e, _⟩ := HV.out.b1 t0 h
        rw [← hbg, ← HT.out, e]; omega
      · rw [← hcm, ← HT.out]; exact HV.out.c0 t0 h
      · obtain ⟨b, _, e, _⟩ := HV.out.c1 t0 h
        rw [← hcm, ← HT.out, e]; omega
    have HSB : Hid (st.testBit t0 = decide (s.dg t0 = 3)) := by show _ = _; rw [Bool.eq_iff_iff, decide_eq_true_eq]; exact HV.out.st t0
    rw [HSB.out] at hbt
    clear hbg hcm hst
    obtain ⟨ob, hob⟩ : ∃ ob, decide (s.dg t0 = 1) = ob := ⟨_, rfl⟩
    have HOB : Hid (decide (s.dg t0 = 1) = ob) := hob
    clear hob
    go_upto_region 4 with fail
    go_cut [8] from 45 to 61 (fun u w' => u = .bool ob ∧ Hid (KV N G' ⟨k, t, i, x⟩ D st p c w w'))
    case first =>
      have hd3 := HV.out.vi.dg t0
      have hd : s.dg t0 = 0 ∨ s.dg t0 = 1 ∨ s.dg t0 = 2 ∨ s.dg t0 = 3 := by omega
      clear hd3
      rcases hd with e | e | e | e
      · obtain rfl := HBC.out.1 e
        have HE : Hid (s.dg t0 = 0) := e
        clear hw5 hbt e
        go_wp2_with fail
        go_meet
        exact ⟨by rw [← HOB.out, HE.out]; rfl, HS4⟩
      · have g1 := HBC.out.2.1 (by omega)
        have g2 := HBC.out.2.2.1 (by omega)
        have gb : decide (0 ≤ bg) = true := decide_eq_true g1
        have HE : Hid (s.dg t0 = 1) := e
        rw [e] at hbt
        rw [g2] at hw5
        rw [show decide ((1 : Nat) = 3) = false from rfl] at hbt
        clear g2 e
        go_wp2_with fail
        refine hw5.mono ?_
        rintro e w5 ⟨rfl, HS5⟩
        clear l0 l1 f0 f1 d0 d1 d2 d3 z0 z1 j0 j1 sz hw5
        have sz := HS5.out.sz
        have l0 := HS5.out.rs.c0
        rw [HLL.out] at l0
        have l1 := HS5.out.rs.c1
        have f0 := HS5.out.rs.fz 0
        have f1 := HS5.out.rs.fz 1
        have d0 := HS5.out.ab.c0
        have d1 := HS5.out.ab.c1
        have d2 := HS5.out.ab.c2
        have d3 := HS5.out.ab.c3
        simp only [Nat.zero_add] at d0 d1 d2 d3
        have z0 := HS5.out.zb.c0
        have z1 := HS5.out.zb.c1
        have j0 := HS5.out.zb.fz 0
        have j1 := HS5.out.zb.fz 1
        go_wp2_with fail
        refine (hbt _).mono ?_
        rintro e w6 ⟨rfl, rfl⟩
        go_wp2_with fail
        go_meet
        exact ⟨by rw [← HOB.out, HE.out]; rfl, HS5⟩
      · have g1 := HBC.out.2.1 (by omega)
        have g2 := HBC.out.2.2.2 e
        have gb : decide (0 ≤ bg) = true := decide_eq_true g1
        have gc : decide (cm < 0) = false := decide_eq_false (by omega)
        have HE : Hid (s.dg t0 = 2) := e
        clear hbt e
        go_wp2_with fail
        refine hw5.mono ?_
        rintro e w5 ⟨rfl, HS5⟩
        clear l0 l1 f0 f1 d0 d1 d2 d3 z0 z1 j0 j1 sz hw5
        have sz := HS5.out.sz
        have l0 := HS5.out.rs.c0
        rw [HLL.out] at l0
        have l1 := HS5.out.rs.c1
        have f0 := HS5.out.rs.fz 0
        have f1 := HS5.out.rs.fz 1
        have d0 := HS5.out.ab.c0
        have d1 := HS5.out.ab.c1
        have d2 := HS5.out.ab.c2
        have d3 := HS5.out.ab.c3
        simp only [Nat.zero_add] at d0 d1 d2 d3
        have z0 := HS5.out.zb.c0
        have z1 := HS5.out.zb.c1
        have j0 := HS5.out.zb.fz 0
        have j1 := HS5.out.zb.fz 1
        go_wp2_with fail
        go_meet
        exact ⟨by rw [← HOB.out, HE.out]; rfl, HS5⟩
      · have g1 := HBC.out.2.1 (by omega)
        have g2 := HBC.out.2.2.1 (by omega)
        have gb : decide (0 ≤ bg) = true := decide_eq_true g1
        have HE : Hid (s.dg t0 = 3) := e
        rw [e] at hbt
        rw [g2] at hw5
        rw [show decide ((3 : Nat) = 3) = true from rfl] at hbt
        clear g2 e
        go_wp2_with fail
        refine hw5.mono ?_
        rintro e w5 ⟨rfl, HS5⟩
        clear l0 l1 f0 f1 d0 d1 d2 d3 z0 z1 j0 j1 sz hw5
        have sz := HS5.out.sz
        have l0 := HS5.out.rs.c0
        rw [HLL.out] at l0
        have l1 := HS5.out.rs.c1
        have f0 := HS5.out.rs.fz 0
        have f1 := HS5.out.rs.fz 1
        have d0 := HS5.out.ab.c0
        have d1 := HS5.out.ab.c1
        have d2 := HS5.out.ab.c2
        have d3 := HS5.out.ab.c3
        simp only [Nat.zero_add] at d0 d1 d2 d3
        have z0 := HS5.out.zb.c0
        have z1 := HS5.out.zb.c1
        have j0 := HS5.out.zb.fz 0
        have j1 := HS5.out.zb.fz 1
        go_wp2_with fail
        refine (hbt _).mono ?_
        rintro e w6 ⟨rfl, rfl⟩
        go_wp2_with fail
        go_meet
        exact ⟨by rw [← HOB.out, HE.out]; rfl, HS5⟩
    case rest =>
      obtain ⟨rfl, HS5⟩ := hcut
      clear l0 l1 f0 f1 d0 d1 d2 d3 z0 z1 j0 j1 sz HS4 HS3
      have sz := HS5.out.sz
      have l0 := HS5.out.rs.c0
      rw [HLL.out] at l0
      have l1 := HS5.out.rs.c1
      have f0 := HS5.out.rs.fz 0
      have f1 := HS5.out.rs.fz 1
      have d0 := HS5.out.ab.c0
      have d1 := HS5.out.ab.c1
      have d2 := HS5.out.ab.c2
      have d3 := HS5.out.ab.c3
      simp only [Nat.zero_add] at d0 d1 d2 d3
      have z0 := HS5.out.zb.c0
      have z1 := HS5.out.zb.c1
      have j0 := HS5.out.zb.fz 0
      have j1 := HS5.out.zb.fz 1
      obtain ⟨i0, hi0, hz0, hz1, hz2⟩ := infoDe_parts infoDe
      by_cases hs : s.dg t0 ≠ (if k = 4 then 0 else 1)
      · have HVZ : Hid (vwZ s k t i x = (s, 0, 7)) := by show _ = _; rw [← HT.out]; exact vwz_state (by rw [HT.out]; exact H0.out) hs
        by_cases hk4 : k = 4
        · have g4 : (k == 4) = true := by simpa using hk4
          have g1 := HBC.out.2.1 (by rw [if_pos hk4] at hs; exact hs)
          have gb : decide (0 ≤ bg) = true := decide_eq_true g1
          clear hs hk4
          have HRT := HS5.out.ret HGG.out
          rw [HLL.out] at HRT
          have HF : Hid _ := HRT.1
          have HFIN : Hid (StepV G s D k t i x w (.returned (.tuple #[rsV st D p c, .int .i64 0, .int .i64 (((7 : Nat) : Int))])) (cpyS wc (N + 2) st L p c)) := StepV.mk (s' := s) HVZ.out HRT.2.1 HV.out (by first | omega | (simp; done)) (by rw [HNN.out]; exact HRT.2.2)
          clear HRT
          go_wp2_with fail
          refine bodyPost_ret (v := .tuple #[rsV st D p c, .int .i64 0, .int .i64 (((7 : Nat) : Int))]) (results_rs rfl _ _ (N + 2) st D p c 0 (((7 : Nat) : Int)) rfl rfl rfl (by rw [HLL.out]; exact HF.out)) rfl HFIN.out
        · have g4 : (k == 4) = false := by simpa using hk4
          have g4n : (k != 4) = true := by simpa using hk4
          obtain rfl : ob = false := by
            rw [if_neg hk4] at hs
            rw [← HOB.out]; exact decide_eq_false hs
          clear hs hk4
          have HRT := HS5.out.ret HGG.out
          rw [HLL.out] at HRT
          have HF : Hid _ := HRT.1
          have HFIN : Hid (StepV G s D k t i x w (.returned (.tuple #[rsV st D p c, .int .i64 0, .int .i64 (((7 : Nat) : Int))])) (cpyS wc (N + 2) st L p c)) := StepV.mk (s' := s) HVZ.out HRT.2.1 HV.out (by first | omega | (simp; done)) (by rw [HNN.out]; exact HRT.2.2)
          clear HRT
          go_wp2_with fail
          refine bodyPost_ret (v := .tuple #[rsV st D p c, .int .i64 0, .int .i64 (((7 : Nat) : Int))]) (results_rs rfl _ _ (N + 2) st D p c 0 (((7 : Nat) : Int)) rfl rfl rfl (by rw [HLL.out]; exact HF.out)) rfl HFIN.out
      have hs' := Classical.not_not.1 hs
      clear hs
      have hk : k = 4 ∨ k = 5 ∨ k = 3 := by have := HK.out; omega
      rcases hk with hk | hk | hk
      · rw [if_pos hk] at hs'
        have HW : Hid (vwZ s k t i x = (M.vBeg s t0, -1, 0) ∧ VD (M.vBeg s t0) (D ++ [⟨k, t, i, x⟩]) st) := by
          have h := vd_beg (k := k) (i := i) (x := x) HV.out (by rw [HT.out]; exact H0.out) hk hs'
          rw [HT.out] at h; exact h
        obtain rfl := HBC.out.1 hs'
        have g4 : (k == 4) = true := by rw [hk]; rfl
        have g4n : (k != 4) = false := by rw [hk]; rfl
        have g5 : (k == 5) = false := by rw [hk]; rfl
        have g3 : (k == 3) = false := by rw [hk]; rfl
        clear hs' hk
        have h1c := dcells_one D
        have hacl : (dcells D).length = L * 4 := by rw [dcells_len, HLL.out]
        obtain ⟨xs, hxs⟩ : ∃ xs, dcells D = xs := ⟨_, rfl⟩
        have HXS : Hid (dcells D = xs) := hxs
        rw [hxs] at h1c hacl
        have hcel : ∀ ad, p = some ad → ∀ j u, xs[j]? = some u → wc.cell? (ad.add j) = some u := by rw [← hxs]; exact HS5.out.rd.cellsP
        have hnil : p = none → L = 0 ∧ c = 0 := by rw [← HLL.out]; exact HS5.out.rd.nil
        have HCB : Hid (∀ w', Below wc.heap.size wc w' → KV N G' ⟨k, t, i, x⟩ D st p c w w') := fun w' hb => HS5.out.later hb
        have hL60 : L ≤ 60 := HL.out
        clear hxs
        go_wp2_with (at_builtin; refine wpList_append_ownAny _ rfl _ _ 22 rfl wc.heap.size 31 i0 (.agg #[.int .i64 0, .int .i64 0, .int .i64 0, .int .i64 0]) 4 32 Tryd.underlying22 hi0 hz0 hz1 hz2 rfl (by decide) (.slice none 0 0) 0 [] rfl (World.ownsRow_nil _ _ _ _) p L c xs rfl hacl hnil hcel h1c (by unfold maxLen; omega) (by omega) (Nat.le_refl _) ?_)
        intro v' wA hownA hgrowA
        have hBA : Below wc.heap.size wc wA := (Below.refl _ wc).grown hgrowA (Nat.le_refl _) (fun k e => by cases e)
        try rw [Nat.zero_add] at hownA
        try rw [List.nil_append] at hownA
        have HSA : Hid _ := HCB.out wA hBA
        have HBA : Hid (Below wc.heap.size wc wA) := hBA
        have szA := hBA.size
        clear l0 l1 f0 f1 d0 d1 d2 d3 z0 z1 j0 j1 sz hgrowA hcel hnil h1c hacl
        have sz := HSA.out.sz
        have l0 := HSA.out.rs.c0
        rw [HLL.out] at l0
        have l1 := HSA.out.rs.c1
        have f0 := HSA.out.rs.fz 0
        have f1 := HSA.out.rs.fz 1
        have d0 := HSA.out.ab.c0
        have d1 := HSA.out.ab.c1
        have d2 := HSA.out.ab.c2
        have d3 := HSA.out.ab.c3
        simp only [Nat.zero_add] at d0 d1 d2 d3
        have z0 := HSA.out.zb.c0
        have z1 := HSA.out.zb.c1
        have j0 := HSA.out.zb.fz 0
        have j1 := HSA.out.zb.fz 1
        obtain ⟨adA, cA, rfl⟩ := owns_slice hownA
        have HOA : Hid (wA.ownsRow wc.heap.size 31 4 (.slice adA L cA) L xs) := hownA
        clear hownA hBA
        go_wp2_with (at_builtin; refine wpList_append_own _ rfl _ _ 22 rfl wc.heap.size 31 i0 (.agg #[.int .i64 0, .int .i64 0, .int .i64 0, .int .i64 0]) 4 32 Tryd.underlying22 hi0 hz0 hz1 hz2 rfl (by decide) _ _ _ rfl (HOA.out.alloc _) ⟨wA.heap.size, 0, none⟩ 1 1 [.int .i64 k, .int .i64 t, .int .i64 i, .int .i64 x] rfl rfl (World.news_of_block (cs := #[.int .i64 k, .int .i64 t, .int .i64 i, .int .i64 x]) (t := 31) (fr := (0, 0)) (heap_alloc_new wA _)) (by simp [Value.oneCell']) (by unfold maxLen; omega) (by omega) (by simp; omega) ?_)
        intro vB wB hownB hgrowB _
        have hBB : Below wc.heap.size wc wB := (bel_al HBA.out _).grown hgrowB (by simp; omega) (fun k e => (HOA.out.lt k e).1)
        obtain ⟨p5, c5, rfl⟩ := owns_slice hownB
        have HLE : Hid ((D ++ [⟨k, t, i, x⟩] : List Dz).length = L + 1) := by show _ = _; rw [List.length_append, HLL.out]; rfl
        have HRB : Hid (RD (fun k => wc.heap.size ≤ k) (D ++ [⟨k, t, i, x⟩]) p5 c5 wB) := rdP_of_owns (n := L + 1) HLE.out (by rw [dcells_snoc, HXS.out]; exact hownB)
        have HSZ : Hid (N + 2 < wc.heap.size) := HS5.out.sz
        have h9 := (HCB.out wB hBB).setA (HRB.out.mono (fun j _ (hj : wc.heap.size ≤ j) => (HCB.out wB hBB).fr j (by have := HSZ.out; omega)))
        rw [HLE.out] at h9
        have q0 := (HCB.out wB hBB).rs.c0
        have qf := (HCB.out wB hBB).rs.fz 0
        rw [HLL.out] at q0
        have szN : N < wB.heap.size := (HCB.out wB hBB).rs.lt
        obtain ⟨wE, hwE⟩ : ∃ wE, wB.setCell ⟨N, 0, none⟩ (.slice p5 (L + 1) c5) = wE := ⟨_, rfl⟩
        rw [hwE] at h9
        have HSE : Hid _ := h9
        clear l0 l1 f0 f1 d0 d1 d2 d3 z0 z1 j0 j1 sz hBB hownB hgrowB szA HCB h9
        have sz := HSE.out.sz
        have l0 := HSE.out.rs.c0
        rw [HLE.out] at l0
        have l1 := HSE.out.rs.c1
        have f0 := HSE.out.rs.fz 0
        have f1 := HSE.out.rs.fz 1
        have d0 := HSE.out.ab.c0
        have d1 := HSE.out.ab.c1
        have d2 := HSE.out.ab.c2
        have d3 := HSE.out.ab.c3
        simp only [Nat.zero_add] at d0 d1 d2 d3
        have z0 := HSE.out.zb.c0
        have z1 := HSE.out.zb.c1
        have j0 := HSE.out.zb.fz 0
        have j1 := HSE.out.zb.fz 1
        have HRT := HSE.out.ret HGG.out
        rw [HLE.out] at HRT
        have HF : Hid _ := HRT.1
        have HFIN : Hid (StepV G s D k t i x w (.returned (.tuple #[rsV st (D ++ [⟨k, t, i, x⟩]) p5 c5, .int .i64 (-1), .int .i64 (((0 : Nat) : Int))])) (cpyS wE (N + 2) st (L + 1) p5 c5)) := StepV.mk (s' := (M.vBeg s t0)) HW.out.1 HRT.2.1 HW.out.2 (by first | omega | (simp; done)) (by rw [HNN.out]; exact HRT.2.2)
        clear HRT
        go_wp2_with fail
        refine bodyPost_ret (v := .tuple #[rsV st (D ++ [⟨k, t, i, x⟩]) p5 c5, .int .i64 (-1), .int .i64 (((0 : Nat) : Int))]) (results_rs rfl _ _ (N + 2) st (D ++ [⟨k, t, i, x⟩]) p5 c5 (-1) (((0 : Nat) : Int)) rfl rfl rfl (by rw [HLE.out]; exact HF.out)) rfl HFIN.out
      · have hk4 : k ≠ 4 := by omega
        rw [if_neg hk4] at hs'
        obtain rfl : ob = true := by rw [← HOB.out]; exact decide_eq_true hs'
        have g4 : (k == 4) = false := by rw [hk]; rfl
        have g4n : (k != 4) = true := by rw [hk]; rfl
        have g5 : (k == 5) = true := by rw [hk]; rfl
        have g3 : (k == 3) = false := by rw [hk]; rfl
        obtain ⟨b, hb1, hb2, _, _⟩ := HV.out.b1 t0 (by omega)
        rw [HT.out, HBG.out] at hb2
        subst hb2
        have hbL : b < L := by rw [← HLL.out]; exact hb1
        have HCL : Hid (M.clashB s t0 = true ↔ ∃ o, o < 4 ∧ wrZ D t (o : Nat) = true ∧ ∃ j, b ≤ j ∧ j < L ∧ (dAt D j).k = 5 ∧ wrZ D (dAt D j).t (o : Nat) = true) := by
          have h := HV.out.clash (u := t0) (b := b) (by omega) (by rw [HT.out]; exact HBG.out)
          rw [HT.out, HLL.out] at h; exact h
        have HST : Hid (M.clashB s t0 = true → vwZ s k t i x = (M.vStop s t0, 0, 6) ∧ VD (M.vStop s t0) D (st ||| 1 <<< t0)) := fun hc => by
          have h := vd_stop (k := k) (i := i) (x := x) HV.out (by rw [HT.out]; exact H0.out) hk hs' hc
          rw [HT.out] at h; exact h
        have HCO : Hid (M.clashB s t0 = false → vwZ s k t i x = (M.vCom s t0, -1, 0) ∧ VD (M.vCom s t0) (D ++ [⟨k, t, i, x⟩]) st) := fun hc => by
          have h := vd_com (k := k) (i := i) (x := x) HV.out (by rw [HT.out]; exact H0.out) hk hs' hc
          rw [HT.out] at h; exact h
        clear hs' hk hk4 hb1
        have HBL : Hid (b < L) := hbL
        go_wp2_with fail
        go_loopw [9] (fun u wr => ∃ m : Nat, u = .int .i64 (m : Nat) ∧ m ≤ 4 ∧ Hid (∀ o, o < m → wrZ D t (o : Nat) = true → ∀ j, b ≤ j → j < L → (dAt D j).k = 5 → wrZ D (dAt D j).t (o : Nat) = false) ∧ Hid (KV N G' ⟨k, t, i, x⟩ D st p c w wr)) (fun u _ => 4 - (intOf u).toNat)
        case atStart => exact ⟨0, rfl, Nat.zero_le _, fun o ho => absurd ho (Nat.not_lt_zero _), HS5⟩
        case round =>
          clear l0 l1 f0 f1 d0 d1 d2 d3 z0 z1 j0 j1 sz HS5
          obtain ⟨m, rfl, hm, HNC, HS6⟩ := hrel
          by_cases hm4 : m < 4
          · have hm4i : (m : Int) < 4 := by omega
            go_wp2_with fail
            go_loopw [10] (fun u wr => ∃ j : Nat, u = .int .i64 (j : Nat) ∧ b ≤ j ∧ j ≤ L ∧ Hid (∀ j', b ≤ j' → j' < j → (dAt D j').k = 5 → wrZ D (dAt D j').t (m : Nat) = false) ∧ Hid (KV N G' ⟨k, t, i, x⟩ D st p c w wr)) (fun u _ => L - (intOf u).toNat)
            case atStart => exact ⟨b, rfl, Nat.le_refl _, Nat.le_of_lt hbL, fun j' h1 h2 => by omega, HS6⟩
            case round =>
              clear HS6
              obtain ⟨j, rfl, hbj, hjL, HNJ, HS7⟩ := hrel
              have hL60 := HL.out
              have sz := HS7.out.sz
              have l0 := HS7.out.rs.c0
              rw [HLL.out] at l0
              have l1 := HS7.out.rs.c1
              have f0 := HS7.out.rs.fz 0
              have f1 := HS7.out.rs.fz 1
              have d0 := HS7.out.ab.c0
              have d1 := HS7.out.ab.c1
              have d2 := HS7.out.ab.c2
              have d3 := HS7.out.ab.c3
              simp only [Nat.zero_add] at d0 d1 d2 d3
              have z0 := HS7.out.zb.c0
              have z1 := HS7.out.zb.c1
              have j0 := HS7.out.zb.fz 0
              have j1 := HS7.out.zb.fz 1
              by_cases hjl : j < L
              case neg =>
                obtain rfl : L = j := by omega
                have HNC2 : Hid (∀ o, o < m + 1 → wrZ D t (o : Nat) = true → ∀ j, b ≤ j → j < L → (dAt D j).k = 5 → wrZ D (dAt D j).t (o : Nat) = false) := fun o ho hw j' h1 h2 h3 => by
                  by_cases e : o = m
                  · subst e; exact HNJ.out j' h1 h2 h3
                  · exact HNC.out o (by omega) hw j' h1 h2 h3
                clear HNC HNJ
                go_wp2_with fail
                go_roundw
                case rel => exact ⟨m + 1, by go_num, by omega, HNC2, HS7⟩
                case measure => simp [intOf]; omega
              have hji : (j : Int) < (L : Int) := by omega
              have hwr := HS7.out.wrote t (m : Nat)
              rw [HLL.out] at hwr
              obtain ⟨q, hq⟩ : ∃ q, wrZ D t (m : Nat) = q := ⟨_, rfl⟩
              have HQ : Hid (wrZ D t (m : Nat) = q) := hq
              rw [hq] at hwr
              clear hq
              cases q with
              | false =>
                have HNC2 : Hid (∀ o, o < m + 1 → wrZ D t (o : Nat) = true → ∀ j, b ≤ j → j < L → (dAt D j).k = 5 → wrZ D (dAt D j).t (o : Nat) = false) := fun o ho hw j' h1 h2 h3 => by
                  by_cases e : o = m
                  · subst e; rw [HQ.out] at hw; cases hw
                  · exact HNC.out o (by omega) hw j' h1 h2 h3
                clear HNC HNJ HQ
                go_wp2_with fail
                refine hwr.mono ?_
                rintro e w8 ⟨rfl, HS8⟩
                clear l0 l1 f0 f1 d0 d1 d2 d3 z0 z1 j0 j1 sz hwr HS7
                go_wp2_with fail
                go_roundw
                case rel => exact ⟨m + 1, by go_num, by omega, HNC2, HS8⟩
                case measure => simp [intOf]; omega
              | true =>
                go_wp2_with fail
                refine hwr.mono ?_
                rintro e w8 ⟨rfl, HS8⟩
                clear l0 l1 f0 f1 d0 d1 d2 d3 z0 z1 j0 j1 sz hwr HS7
                have sz := HS8.out.sz
                have l0 := HS8.out.rs.c0
                rw [HLL.out] at l0
                have l1 := HS8.out.rs.c1
                have f0 := HS8.out.rs.fz 0
                have f1 := HS8.out.rs.fz 1
                have d0 := HS8.out.ab.c0
                have d1 := HS8.out.ab.c1
                have d2 := HS8.out.ab.c2
                have d3 := HS8.out.ab.c3
                simp only [Nat.zero_add] at d0 d1 d2 d3
                have z0 := HS8.out.zb.c0
                have z1 := HS8.out.zb.c1
                have j0 := HS8.out.zb.fz 0
                have j1 := HS8.out.zb.fz 1
                obtain ⟨bb, off, rfl, _, hd⟩ := HS8.out.rd.act j (by rw [HLL.out]; exact hjl)
                obtain ⟨⟨k1, t1, i1, x1⟩, hz⟩ : ∃ d, dAt D j = d := ⟨_, rfl⟩
                rw [hz] at hd
                have k0 := hd.c0
                have k1c := hd.c1
                have lb := hd.lt
                simp only at k0 k1c
                have HZ : Hid (dAt D j = ⟨k1, t1, i1, x1⟩) := hz
                clear hz hd
                cases e1 : (k1 == 5) with
                | false =>
                  have HNJ2 : Hid (∀ j', b ≤ j' → j' < j + 1 → (dAt D j').k = 5 → wrZ D (dAt D j').t (m : Nat) = false) := fun j' h1 h2 h3 => by
                    by_cases e : j' = j
                    · subst e; rw [HZ.out] at h3; rw [show k1 = 5 from h3] at e1; cases e1
                    · exact HNJ.out j' h1 (by omega) h3
                  clear HNJ HZ
                  go_wp2_with fail
                  go_big_quiet (fail)
                  go_wp2_with fail
                  go_roundw
                  case rel => exact ⟨j + 1, by go_num, by omega, by omega, HNJ2, HS8.out.later (below_drewN _ _)⟩
                  case measure => simp [intOf]; omega
                | true =>
                  have e5 : k1 = 5 := by simpa using e1
                  obtain ⟨r, hr⟩ : ∃ r, wrZ D t1 (m : Nat) = r := ⟨_, rfl⟩
                  have HR : Hid (wrZ D t1 (m : Nat) = r ∧ k1 = 5) := ⟨hr, e5⟩
                  have hwc : ∀ W', Below w8.heap.size w8 W' → Calls Tryd.prog 31 #[.agg #[.slice (some ⟨bb, off, none⟩) L c, .int .i64 (st : Nat)], .int .i64 t1, .int .i64 (m : Nat)] W' fun e w' => e = .returned (.bool r) ∧ Hid (KV N G' ⟨k, t, i, x⟩ D st (some ⟨bb, off, none⟩) c w w') ∧ (w'.cell? ⟨N, 0, none⟩ = some (.slice (some ⟨bb, off, none⟩) L c) ∧ w'.cell? ⟨N, 1, none⟩ = some (.int .i64 (st : Nat)) ∧ N + 2 < w'.heap.size ∧ w'.cell? ⟨bb, off + j * 4, none⟩ = some (.int .i64 k1) ∧ w'.cell? ⟨bb, off + j * 4 + 1, none⟩ = some (.int .i64 t1) ∧ bb < w'.heap.size) := fun W' hW => by
                    have h1 := HS8.out.later hW
                    have h2 := h1.wrote t1 (m : Nat)
                    rw [HLL.out, hr] at h2
                    refine h2.mono ?_
                    rintro e w' ⟨rfl, h3⟩
                    obtain ⟨b', off', e', _, hd'⟩ := h3.out.rd.act j (by rw [HLL.out]; exact hjl)
                    cases e'
                    rw [HZ.out] at hd'
                    exact ⟨rfl, h3, by rw [← HLL.out]; exact h3.out.rs.c0, h3.out.rs.c1, h3.out.sz, hd'.c0, hd'.c1, hd'.lt⟩
                  clear hr e5
                  go_upto_region 14 with fail
                  go_cut [118] from 101 to 118 (fun u w' => u = .bool r ∧ Hid (KV N G' ⟨k, t, i, x⟩ D st (some ⟨bb, off, none⟩) c w w'))
                  case first =>
                    go_region_with (go_at_call 31; refine (hwc _ (by repeat first | exact Below.refl _ _ | apply Below.drew)).mono ?_; rintro e w9 ⟨rfl, hQ9, y0, y1, y2, y3, y4, y5⟩)
                    all_goals (go_wp2_with fail; go_meet)
                    all_goals first | exact ⟨rfl, hQ9⟩ | exact ⟨rfl, hQ9.out.later (Below.refl _ _).drew⟩
                  case rest =>
                    obtain ⟨rfl, HS9⟩ := hcut
                    clear l0 l1 f0 f1 d0 d1 d2 d3 z0 z1 j0 j1 sz hwc HS8 k0 k1c lb
                    have sz := HS9.out.sz
                    have l0 := HS9.out.rs.c0
                    rw [HLL.out] at l0
                    have l1 := HS9.out.rs.c1
                    have f0 := HS9.out.rs.fz 0
                    have f1 := HS9.out.rs.fz 1
                    have d0 := HS9.out.ab.c0
                    have d1 := HS9.out.ab.c1
                    have d2 := HS9.out.ab.c2
                    have d3 := HS9.out.ab.c3
                    simp only [Nat.zero_add] at d0 d1 d2 d3
                    have z0 := HS9.out.zb.c0
                    have z1 := HS9.out.zb.c1
                    have j0 := HS9.out.zb.fz 0
                    have j1 := HS9.out.zb.fz 1
                    cases r with
                    | false =>
                      have HNJ2 : Hid (∀ j', b ≤ j' → j' < j + 1 → (dAt D j').k = 5 → wrZ D (dAt D j').t (m : Nat) = false) := fun j' h1 h2 h3 => by
                        by_cases e : j' = j
                        · subst e; rw [HZ.out]; exact HR.out.1
                        · exact HNJ.out j' h1 (by omega) h3
                      clear HNJ HZ HR
                      go_wp2_with fail
                      go_roundw
                      case rel => exact ⟨j + 1, by go_num, by omega, by omega, HNJ2, HS9⟩
                      case measure => simp [intOf]; omega
                    | true =>
                      have HSP := HST.out (HCL.out.2 ⟨m, hm4, HQ.out, j, hbj, hjl, by rw [HZ.out]; exact HR.out.2, by rw [HZ.out]; exact HR.out.1⟩)
                      have HSPH : Hid (vwZ s k t i x = (M.vStop s t0, 0, 6) ∧ VD (M.vStop s t0) D (st ||| 1 <<< t0)) := HSP
                      have hwi := fun W : World => with_any st t0 W (by have := HV.out.lt; omega) (by have := HT5.out; omega)
                      rw [HT.out] at hwi
                      have HS10 := HS9.out.setT (st ||| 1 <<< t0)
                      obtain ⟨st', hst'⟩ : ∃ st', st ||| 1 <<< t0 = st' := ⟨_, rfl⟩
                      rw [hst'] at HSPH HS10
                      simp only [hst'] at hwi
                      obtain ⟨wz, hwz⟩ : ∃ wz, wc.setCell ⟨N, 1, none⟩ (.int .i64 (st' : Nat)) = wz := ⟨_, rfl⟩
                      rw [hwz] at HS10
                      have HS11 : Hid _ := HS10
                      have szN : N < wc.heap.size := by omega
                      have HCL0 : Hid (wc.cell? ⟨N, 1, none⟩ = some (.int .i64 (st : Nat))) := l1
                      clear HSP HS10 HNJ HNC HZ HR hst' HQ
                      clear z0 z1 j0 j1 l0 d0 d2 d3
                      have l0' := HS11.out.rs.c0
                      rw [HLL.out] at l0'
                      have l1' := HS11.out.rs.c1
                      have z0 := HS11.out.zb.c0
                      have z1 := HS11.out.zb.c1
                      have j0 := HS11.out.zb.fz 0
                      have j1 := HS11.out.zb.fz 1
                      have szz := HS11.out.sz
                      go_wp2_with fail
                      refine (hwi _).mono ?_
                      rintro e w' ⟨rfl, rfl⟩
                      clear hwi
                      have HRT := HS11.out.ret HGG.out
                      rw [HLL.out] at HRT
                      have HF : Hid _ := HRT.1
                      have HFIN : Hid (StepV G s D k t i x w (.returned (.tuple #[rsV st' D (some ⟨bb, off, none⟩) c, .int .i64 0, .int .i64 (((6 : Nat) : Int))])) (cpyS wz (N + 2) st' L (some ⟨bb, off, none⟩) c)) := StepV.mk (s' := (M.vStop s t0)) HSPH.out.1 HRT.2.1 HSPH.out.2 (by first | omega | (simp; done)) (by rw [HNN.out]; exact HRT.2.2)
                      clear HRT
                      go_wp2_with fail
                      refine bodyPost_ret (v := .tuple #[rsV st' D (some ⟨bb, off, none⟩) c, .int .i64 0, .int .i64 (((6 : Nat) : Int))]) (results_rs rfl _ _ (N + 2) st' D (some ⟨bb, off, none⟩) c 0 (((6 : Nat) : Int)) rfl rfl rfl (by rw [HLL.out]; exact HF.out)) rfl HFIN.out
          · obtain rfl : m = 4 := by omega
            have HW : Hid (vwZ s k t i x = (M.vCom s t0, -1, 0) ∧ VD (M.vCom s t0) (D ++ [⟨k, t, i, x⟩]) st) := by
              refine HCO.out ?_
              cases hc : M.clashB s t0 with
              | false => rfl
              | true =>
                obtain ⟨o, o1, o2, j, j1, j2, j3, j4⟩ := HCL.out.1 hc
                rw [HNC.out o o1 o2 j j1 j2 j3] at j4
                cases j4
            clear HNC HCO HST HCL
            have sz := HS6.out.sz
            have l0 := HS6.out.rs.c0
            rw [HLL.out] at l0
            have l1 := HS6.out.rs.c1
            have f0 := HS6.out.rs.fz 0
            have f1 := HS6.out.rs.fz 1
            have d0 := HS6.out.ab.c0
            have d1 := HS6.out.ab.c1
            have d2 := HS6.out.ab.c2
            have d3 := HS6.out.ab.c3
            simp only [Nat.zero_add] at d0 d1 d2 d3
            have z0 := HS6.out.zb.c0
            have z1 := HS6.out.zb.c1
            have j0 := HS6.out.zb.fz 0
            have j1 := HS6.out.zb.fz 1
            have h1c := dcells_one D
            have hacl : (dcells D).length = L * 4 := by rw [dcells_len, HLL.out]
            obtain ⟨xs, hxs⟩ : ∃ xs, dcells D = xs := ⟨_, rfl⟩
            have HXS : Hid (dcells D = xs) := hxs
            rw [hxs] at h1c hacl
            have hcel : ∀ ad, p = some ad → ∀ j u, xs[j]? = some u → wr.cell? (ad.add j) = some u := by rw [← hxs]; exact HS6.out.rd.cellsP
            have hnil : p = none → L = 0 ∧ c = 0 := by rw [← HLL.out]; exact HS6.out.rd.nil
            have HCB : Hid (∀ w', Below wr.heap.size wr w' → KV N G' ⟨k, t, i, x⟩ D st p c w w') := fun w' hb => HS6.out.later hb
            have hL60 : L ≤ 60 := HL.out
            clear hxs
            go_wp2_with (at_builtin; refine wpList_append_ownAny _ rfl _ _ 22 rfl wr.heap.size 31 i0 (.agg #[.int .i64 0, .int .i64 0, .int .i64 0, .int .i64 0]) 4 32 Tryd.underlying22 hi0 hz0 hz1 hz2 rfl (by decide) (.slice none 0 0) 0 [] rfl (World.ownsRow_nil _ _ _ _) p L c xs rfl hacl hnil hcel h1c (by unfold maxLen; omega) (by omega) (Nat.le_refl _) ?_)
            intro v' wA hownA hgrowA
            have hBA : Below wr.heap.size wr wA := (Below.refl _ wr).grown hgrowA (Nat.le_refl _) (fun k e => by cases e)
            try rw [Nat.zero_add] at hownA
            try rw [List.nil_append] at hownA
            have HSA : Hid _ := HCB.out wA hBA
            have HBA : Hid (Below wr.heap.size wr wA) := hBA
            have szA := hBA.size
            clear l0 l1 f0 f1 d0 d1 d2 d3 z0 z1 j0 j1 sz hgrowA hcel hnil h1c hacl
            have sz := HSA.out.sz
            have l0 := HSA.out.rs.c0
            rw [HLL.out] at l0
            have l1 := HSA.out.rs.c1
            have f0 := HSA.out.rs.fz 0
            have f1 := HSA.out.rs.fz 1
            have d0 := HSA.out.ab.c0
            have d1 := HSA.out.ab.c1
            have d2 := HSA.out.ab.c2
            have d3 := HSA.out.ab.c3
            simp only [Nat.zero_add] at d0 d1 d2 d3
            have z0 := HSA.out.zb.c0
            have z1 := HSA.out.zb.c1
            have j0 := HSA.out.zb.fz 0
            have j1 := HSA.out.zb.fz 1
            obtain ⟨adA, cA, rfl⟩ := owns_slice hownA
            have HOA : Hid (wA.ownsRow wr.heap.size 31 4 (.slice adA L cA) L xs) := hownA
            clear hownA hBA
            go_wp2_with (at_builtin; refine wpList_append_own _ rfl _ _ 22 rfl wr.heap.size 31 i0 (.agg #[.int .i64 0, .int .i64 0, .int .i64 0, .int .i64 0]) 4 32 Tryd.underlying22 hi0 hz0 hz1 hz2 rfl (by decide) _ _ _ rfl (HOA.out.alloc _) ⟨wA.heap.size, 0, none⟩ 1 1 [.int .i64 k, .int .i64 t, .int .i64 i, .int .i64 x] rfl rfl (World.news_of_block (cs := #[.int .i64 k, .int .i64 t, .int .i64 i, .int .i64 x]) (t := 31) (fr := (0, 0)) (heap_alloc_new wA _)) (by simp [Value.oneCell']) (by unfold maxLen; omega) (by omega) (by simp; omega) ?_)
            intro vB wB hownB hgrowB _
            have hBB : Below wr.heap.size wr wB := (bel_al HBA.out _).grown hgrowB (by simp; omega) (fun k e => (HOA.out.lt k e).1)
            obtain ⟨p5, c5, rfl⟩ := owns_slice hownB
            have HLE : Hid ((D ++ [⟨k, t, i, x⟩] : List Dz).length = L + 1) := by show _ = _; rw [List.length_append, HLL.out]; rfl
            have HRB : Hid (RD (fun k => wr.heap.size ≤ k) (D ++ [⟨k, t, i, x⟩]) p5 c5 wB) := rdP_of_owns (n := L + 1) HLE.out (by rw [dcells_snoc, HXS.out]; exact hownB)
            have HSZ : Hid (N + 2 < wr.heap.size) := HS6.out.sz
            have h9 := (HCB.out wB hBB).setA (HRB.out.mono (fun j _ (hj : wr.heap.size ≤ j) => (HCB.out wB hBB).fr j (by have := HSZ.out; omega)))
            rw [HLE.out] at h9
            have q0 := (HCB.out wB hBB).rs.c0
            have qf := (HCB.out wB hBB).rs.fz 0
            rw [HLL.out] at q0
            have szN : N < wB.heap.size := (HCB.out wB hBB).rs.lt
            obtain ⟨wE, hwE⟩ : ∃ wE, wB.setCell ⟨N, 0, none⟩ (.slice p5 (L + 1) c5) = wE := ⟨_, rfl⟩
            rw [hwE] at h9
            have HSE : Hid _ := h9
            clear l0 l1 f0 f1 d0 d1 d2 d3 z0 z1 j0 j1 sz hBB hownB hgrowB szA HCB h9
            have sz := HSE.out.sz
            have l0 := HSE.out.rs.c0
            rw [HLE.out] at l0
            have l1 := HSE.out.rs.c1
            have f0 := HSE.out.rs.fz 0
            have f1 := HSE.out.rs.fz 1
            have d0 := HSE.out.ab.c0
            have d1 := HSE.out.ab.c1
            have d2 := HSE.out.ab.c2
            have d3 := HSE.out.ab.c3
            simp only [Nat.zero_add] at d0 d1 d2 d3
            have z0 := HSE.out.zb.c0
            have z1 := HSE.out.zb.c1
            have j0 := HSE.out.zb.fz 0
            have j1 := HSE.out.zb.fz 1
            have HRT := HSE.out.ret HGG.out
            rw [HLE.out] at HRT
            have HF : Hid _ := HRT.1
            have HFIN : Hid (StepV G s D k t i x w (.returned (.tuple #[rsV st (D ++ [⟨k, t, i, x⟩]) p5 c5, .int .i64 (-1), .int .i64 (((0 : Nat) : Int))])) (cpyS wE (N + 2) st (L + 1) p5 c5)) := StepV.mk (s' := (M.vCom s t0)) HW.out.1 HRT.2.1 HW.out.2 (by first | omega | (simp; done)) (by rw [HNN.out]; exact HRT.2.2)
            clear HRT
            go_wp2_with fail
            refine bodyPost_ret (v := .tuple #[rsV st (D ++ [⟨k, t, i, x⟩]) p5 c5, .int .i64 (-1), .int .i64 (((0 : Nat) : Int))]) (results_rs rfl _ _ (N + 2) st (D ++ [⟨k, t, i, x⟩]) p5 c5 (-1) (((0 : Nat) : Int)) rfl rfl rfl (by rw [HLE.out]; exact HF.out)) rfl HFIN.out
      · have hk4 : k ≠ 4 := by omega
        rw [if_neg hk4] at hs'
        obtain rfl : ob = true := by rw [← HOB.out]; exact decide_eq_true hs'
        have g4 : (k == 4) = false := by rw [hk]; rfl
        have g4n : (k != 4) = true := by rw [hk]; rfl
        have g5 : (k == 5) = false := by rw [hk]; rfl
        have g3 : (k == 3) = true := by rw [hk]; rfl
        have hx : x = 1 ∨ x = 0 := by have := HIX.out hk; omega
        rcases hx with hx | hx
        · obtain ⟨s', hs1, hs2⟩ := vd_wr (k := k) (i := i) (x := x) HV.out (by rw [HT.out]; exact H0.out) hk hs' hx
          rw [HT.out] at hs1 hs2
          have HW : Hid (vwZ s k t i x = (s', -1, 0) ∧ VD s' (D ++ [⟨k, t, i, x⟩]) st) := ⟨hs1, hs2⟩
          have gx : (x == 0) = false := by rw [hx]; rfl
          clear hs' hk hk4 hx hs1 hs2
          have h1c := dcells_one D
          have hacl : (dcells D).length = L * 4 := by rw [dcells_len, HLL.out]
          obtain ⟨xs, hxs⟩ : ∃ xs, dcells D = xs := ⟨_, rfl⟩
          have HXS : Hid (dcells D = xs) := hxs
          rw [hxs] at h1c hacl
          have hcel : ∀ ad, p = some ad → ∀ j u, xs[j]? = some u → wc.cell? (ad.add j) = some u := by rw [← hxs]; exact HS5.out.rd.cellsP
          have hnil : p = none → L = 0 ∧ c = 0 := by rw [← HLL.out]; exact HS5.out.rd.nil
          have HCB : Hid (∀ w', Below wc.heap.size wc w' → KV N G' ⟨k, t, i, x⟩ D st p c w w') := fun w' hb => HS5.out.later hb
          have hL60 : L ≤ 60 := HL.out
          clear hxs
          go_wp2_with (at_builtin; refine wpList_append_ownAny _ rfl _ _ 22 rfl wc.heap.size 31 i0 (.agg #[.int .i64 0, .int .i64 0, .int .i64 0, .int .i64 0]) 4 32 Tryd.underlying22 hi0 hz0 hz1 hz2 rfl (by decide) (.slice none 0 0) 0 [] rfl (World.ownsRow_nil _ _ _ _) p L c xs rfl hacl hnil hcel h1c (by unfold maxLen; omega) (by omega) (Nat.le_refl _) ?_)
          intro v' wA hownA hgrowA
          have hBA : Below wc.heap.size wc wA := (Below.refl _ wc).grown hgrowA (Nat.le_refl _) (fun k e => by cases e)
          try rw [Nat.zero_add] at hownA
          try rw [List.nil_append] at hownA
          have HSA : Hid _ := HCB.out wA hBA
          have HBA : Hid (Below wc.heap.size wc wA) := hBA
          have szA := hBA.size
          clear l0 l1 f0 f1 d0 d1 d2 d3 z0 z1 j0 j1 sz hgrowA hcel hnil h1c hacl
          have sz := HSA.out.sz
          have l0 := HSA.out.rs.c0
          rw [HLL.out] at l0
          have l1 := HSA.out.rs.c1
          have f0 := HSA.out.rs.fz 0
          have f1 := HSA.out.rs.fz 1
          have d0 := HSA.out.ab.c0
          have d1 := HSA.out.ab.c1
          have d2 := HSA.out.ab.c2
          have d3 := HSA.out.ab.c3
          simp only [Nat.zero_add] at d0 d1 d2 d3
          have z0 := HSA.out.zb.c0
          have z1 := HSA.out.zb.c1
          have j0 := HSA.out.zb.fz 0
          have j1 := HSA.out.zb.fz 1
          obtain ⟨adA, cA, rfl⟩ := owns_slice hownA
          have HOA : Hid (wA.ownsRow wc.heap.size 31 4 (.slice adA L cA) L xs) := hownA
          clear hownA hBA
          go_wp2_with (at_builtin; refine wpList_append_own _ rfl _ _ 22 rfl wc.heap.size 31 i0 (.agg #[.int .i64 0, .int .i64 0, .int .i64 0, .int .i64 0]) 4 32 Tryd.underlying22 hi0 hz0 hz1 hz2 rfl (by decide) _ _ _ rfl (HOA.out.alloc _) ⟨wA.heap.size, 0, none⟩ 1 1 [.int .i64 k, .int .i64 t, .int .i64 i, .int .i64 x] rfl rfl (World.news_of_block (cs := #[.int .i64 k, .int .i64 t, .int .i64 i, .int .i64 x]) (t := 31) (fr := (0, 0)) (heap_alloc_new wA _)) (by simp [Value.oneCell']) (by unfold maxLen; omega) (by omega) (by simp; omega) ?_)
          intro vB wB hownB hgrowB _
          have hBB : Below wc.heap.size wc wB := (bel_al HBA.out _).grown hgrowB (by simp; omega) (fun k e => (HOA.out.lt k e).1)
          obtain ⟨p5, c5, rfl⟩ := owns_slice hownB
          have HLE : Hid ((D ++ [⟨k, t, i, x⟩] : List Dz).length = L + 1) := by show _ = _; rw [List.length_append, HLL.out]; rfl
          have HRB : Hid (RD (fun k => wc.heap.size ≤ k) (D ++ [⟨k, t, i, x⟩]) p5 c5 wB) := rdP_of_owns (n := L + 1) HLE.out (by rw [dcells_snoc, HXS.out]; exact hownB)
          have HSZ : Hid (N + 2 < wc.heap.size) := HS5.out.sz
          have h9 := (HCB.out wB hBB).setA (HRB.out.mono (fun j _ (hj : wc.heap.size ≤ j) => (HCB.out wB hBB).fr j (by have := HSZ.out; omega)))
          rw [HLE.out] at h9
          have q0 := (HCB.out wB hBB).rs.c0
          have qf := (HCB.out wB hBB).rs.fz 0
          rw [HLL.out] at q0
          have szN : N < wB.heap.size := (HCB.out wB hBB).rs.lt
          obtain ⟨wE, hwE⟩ : ∃ wE, wB.setCell ⟨N, 0, none⟩ (.slice p5 (L + 1) c5) = wE := ⟨_, rfl⟩
          rw [hwE] at h9
          have HSE : Hid _ := h9
          clear l0 l1 f0 f1 d0 d1 d2 d3 z0 z1 j0 j1 sz hBB hownB hgrowB szA HCB h9
          have sz := HSE.out.sz
          have l0 := HSE.out.rs.c0
          rw [HLE.out] at l0
          have l1 := HSE.out.rs.c1
          have f0 := HSE.out.rs.fz 0
          have f1 := HSE.out.rs.fz 1
          have d0 := HSE.out.ab.c0
          have d1 := HSE.out.ab.c1
          have d2 := HSE.out.ab.c2
          have d3 := HSE.out.ab.c3
          simp only [Nat.zero_add] at d0 d1 d2 d3
          have z0 := HSE.out.zb.c0
          have z1 := HSE.out.zb.c1
          have j0 := HSE.out.zb.fz 0
          have j1 := HSE.out.zb.fz 1
          have HRT := HSE.out.ret HGG.out
          rw [HLE.out] at HRT
          have HF : Hid _ := HRT.1
          have HFIN : Hid (StepV G s D k t i x w (.returned (.tuple #[rsV st (D ++ [⟨k, t, i, x⟩]) p5 c5, .int .i64 (-1), .int .i64 (((0 : Nat) : Int))])) (cpyS wE (N + 2) st (L + 1) p5 c5)) := StepV.mk (s' := s') HW.out.1 HRT.2.1 HW.out.2 (by first | omega | (simp; done)) (by rw [HNN.out]; exact HRT.2.2)
          clear HRT
          go_wp2_with fail
          refine bodyPost_ret (v := .tuple #[rsV st (D ++ [⟨k, t, i, x⟩]) p5 c5, .int .i64 (-1), .int .i64 (((0 : Nat) : Int))]) (results_rs rfl _ _ (N + 2) st (D ++ [⟨k, t, i, x⟩]) p5 c5 (-1) (((0 : Nat) : Int)) rfl rfl rfl (by rw [HLE.out]; exact HF.out)) rfl HFIN.out
        · obtain ⟨b, hb1, hb2, _, _⟩ := HV.out.b1 t0 (by omega)
          obtain ⟨s', hs1, hs2⟩ := vd_rd (k := k) (i := i) (x := x) HV.out (by rw [HT.out]; exact H0.out) hk hs' hx hb2
          rw [HT.out] at hs1 hs2 hb2
          rw [HBG.out] at hb2
          subst hb2
          have gx : (x == 0) = true := by rw [hx]; rfl
          have hla := HS5.out.last i b (Nat.le_of_lt hb1)
          rw [HLL.out] at hla
          have HW0 : Hid (vwZ s k t i x = (s', if wrZ D t i = true then t else laZ D i b, 0) ∧ VD s' (D ++ [⟨k, t, i, x⟩]) st) := ⟨hs1, hs2⟩
          clear hs' hk hk4 hx hs1 hs2 hb1
          obtain ⟨z, hz⟩ : ∃ z, laZ D i b = z := ⟨_, rfl⟩
          rw [hz] at hla HW0
          clear hz
          go_wp2_with fail
          refine hla.mono ?_
          rintro e w6 ⟨rfl, HS6⟩
          clear l0 l1 f0 f1 d0 d1 d2 d3 z0 z1 j0 j1 sz hla HS5
          have sz := HS6.out.sz
          have l0 := HS6.out.rs.c0
          rw [HLL.out] at l0
          have l1 := HS6.out.rs.c1
          have f0 := HS6.out.rs.fz 0
          have f1 := HS6.out.rs.fz 1
          have d0 := HS6.out.ab.c0
          have d1 := HS6.out.ab.c1
          have d2 := HS6.out.ab.c2
          have d3 := HS6.out.ab.c3
          simp only [Nat.zero_add] at d0 d1 d2 d3
          have z0 := HS6.out.zb.c0
          have z1 := HS6.out.zb.c1
          have j0 := HS6.out.zb.fz 0
          have j1 := HS6.out.zb.fz 1
          have hwr := HS6.out.wrote t i
          rw [HLL.out] at hwr
          obtain ⟨q, hq⟩ : ∃ q, wrZ D t i = q := ⟨_, rfl⟩
          rw [hq] at hwr HW0
          clear hq
          cases q with
          | true =>
            have HW : Hid (vwZ s k t i x = (s', t, 0) ∧ VD s' (D ++ [⟨k, t, i, x⟩]) st) := by have := HW0.out; rwa [if_pos rfl] at this
            clear HW0
            go_wp2_with fail
            refine hwr.mono ?_
            rintro e w7 ⟨rfl, HS7⟩
            clear l0 l1 f0 f1 d0 d1 d2 d3 z0 z1 j0 j1 sz hwr HS6
            have sz := HS7.out.sz
            have l0 := HS7.out.rs.c0
            rw [HLL.out] at l0
            have l1 := HS7.out.rs.c1
            have f0 := HS7.out.rs.fz 0
            have f1 := HS7.out.rs.fz 1
            have d0 := HS7.out.ab.c0
            have d1 := HS7.out.ab.c1
            have d2 := HS7.out.ab.c2
            have d3 := HS7.out.ab.c3
            simp only [Nat.zero_add] at d0 d1 d2 d3
            have z0 := HS7.out.zb.c0
            have z1 := HS7.out.zb.c1
            have j0 := HS7.out.zb.fz 0
            have j1 := HS7.out.zb.fz 1
            have h1c := dcells_one D
            have hacl : (dcells D).length = L * 4 := by rw [dcells_len, HLL.out]
            obtain ⟨xs, hxs⟩ : ∃ xs, dcells D = xs := ⟨_, rfl⟩
            have HXS : Hid (dcells D = xs) := hxs
            rw [hxs] at h1c hacl
            have hcel : ∀ ad, p = some ad → ∀ j u, xs[j]? = some u → w7.cell? (ad.add j) = some u := by rw [← hxs]; exact HS7.out.rd.cellsP
            have hnil : p = none → L = 0 ∧ c = 0 := by rw [← HLL.out]; exact HS7.out.rd.nil
            have HCB : Hid (∀ w', Below w7.heap.size w7 w' → KV N G' ⟨k, t, i, x⟩ D st p c w w') := fun w' hb => HS7.out.later hb
            have hL60 : L ≤ 60 := HL.out
            clear hxs
            go_wp2_with (at_builtin; refine wpList_append_ownAny _ rfl _ _ 22 rfl w7.heap.size 31 i0 (.agg #[.int .i64 0, .int .i64 0, .int .i64 0, .int .i64 0]) 4 32 Tryd.underlying22 hi0 hz0 hz1 hz2 rfl (by decide) (.slice none 0 0) 0 [] rfl (World.ownsRow_nil _ _ _ _) p L c xs rfl hacl hnil hcel h1c (by unfold maxLen; omega) (by omega) (Nat.le_refl _) ?_)
            intro v' wA hownA hgrowA
            have hBA : Below w7.heap.size w7 wA := (Below.refl _ w7).grown hgrowA (Nat.le_refl _) (fun k e => by cases e)
            try rw [Nat.zero_add] at hownA
            try rw [List.nil_append] at hownA
            have HSA : Hid _ := HCB.out wA hBA
            have HBA : Hid (Below w7.heap.size w7 wA) := hBA
            have szA := hBA.size
            clear l0 l1 f0 f1 d0 d1 d2 d3 z0 z1 j0 j1 sz hgrowA hcel hnil h1c hacl
            have sz := HSA.out.sz
            have l0 := HSA.out.rs.c0
            rw [HLL.out] at l0
            have l1 := HSA.out.rs.c1
            have f0 := HSA.out.rs.fz 0
            have f1 := HSA.out.rs.fz 1
            have d0 := HSA.out.ab.c0
            have d1 := HSA.out.ab.c1
            have d2 := HSA.out.ab.c2
            have d3 := HSA.out.ab.c3
            simp only [Nat.zero_add] at d0 d1 d2 d3
            have z0 := HSA.out.zb.c0
            have z1 := HSA.out.zb.c1
            have j0 := HSA.out.zb.fz 0
            have j1 := HSA.out.zb.fz 1
            obtain ⟨adA, cA, rfl⟩ := owns_slice hownA
            have HOA : Hid (wA.ownsRow w7.heap.size 31 4 (.slice adA L cA) L xs) := hownA
            clear hownA hBA
            go_wp2_with (at_builtin; refine wpList_append_own _ rfl _ _ 22 rfl w7.heap.size 31 i0 (.agg #[.int .i64 0, .int .i64 0, .int .i64 0, .int .i64 0]) 4 32 Tryd.underlying22 hi0 hz0 hz1 hz2 rfl (by decide) _ _ _ rfl (HOA.out.alloc _) ⟨wA.heap.size, 0, none⟩ 1 1 [.int .i64 k, .int .i64 t, .int .i64 i, .int .i64 x] rfl rfl (World.news_of_block (cs := #[.int .i64 k, .int .i64 t, .int .i64 i, .int .i64 x]) (t := 31) (fr := (0, 0)) (heap_alloc_new wA _)) (by simp [Value.oneCell']) (by unfold maxLen; omega) (by omega) (by simp; omega) ?_)
            intro vB wB hownB hgrowB _
            have hBB : Below w7.heap.size w7 wB := (bel_al HBA.out _).grown hgrowB (by simp; omega) (fun k e => (HOA.out.lt k e).1)
            obtain ⟨p5, c5, rfl⟩ := owns_slice hownB
            have HLE : Hid ((D ++ [⟨k, t, i, x⟩] : List Dz).length = L + 1) := by show _ = _; rw [List.length_append, HLL.out]; rfl
            have HRB : Hid (RD (fun k => w7.heap.size ≤ k) (D ++ [⟨k, t, i, x⟩]) p5 c5 wB) := rdP_of_owns (n := L + 1) HLE.out (by rw [dcells_snoc, HXS.out]; exact hownB)
            have HSZ : Hid (N + 2 < w7.heap.size) := HS7.out.sz
            have h9 := (HCB.out wB hBB).setA (HRB.out.mono (fun j _ (hj : w7.heap.size ≤ j) => (HCB.out wB hBB).fr j (by have := HSZ.out; omega)))
            rw [HLE.out] at h9
            have q0 := (HCB.out wB hBB).rs.c0
            have qf := (HCB.out wB hBB).rs.fz 0
            rw [HLL.out] at q0
            have szN : N < wB.heap.size := (HCB.out wB hBB).rs.lt
            obtain ⟨wE, hwE⟩ : ∃ wE, wB.setCell ⟨N, 0, none⟩ (.slice p5 (L + 1) c5) = wE := ⟨_, rfl⟩
            rw [hwE] at h9
            have HSE : Hid _ := h9
            clear l0 l1 f0 f1 d0 d1 d2 d3 z0 z1 j0 j1 sz hBB hownB hgrowB szA HCB h9
            have sz := HSE.out.sz
            have l0 := HSE.out.rs.c0
            rw [HLE.out] at l0
            have l1 := HSE.out.rs.c1
            have f0 := HSE.out.rs.fz 0
            have f1 := HSE.out.rs.fz 1
            have d0 := HSE.out.ab.c0
            have d1 := HSE.out.ab.c1
            have d2 := HSE.out.ab.c2
            have d3 := HSE.out.ab.c3
            simp only [Nat.zero_add] at d0 d1 d2 d3
            have z0 := HSE.out.zb.c0
            have z1 := HSE.out.zb.c1
            have j0 := HSE.out.zb.fz 0
            have j1 := HSE.out.zb.fz 1
            have HRT := HSE.out.ret HGG.out
            rw [HLE.out] at HRT
            have HF : Hid _ := HRT.1
            have HFIN : Hid (StepV G s D k t i x w (.returned (.tuple #[rsV st (D ++ [⟨k, t, i, x⟩]) p5 c5, .int .i64 t, .int .i64 (((0 : Nat) : Int))])) (cpyS wE (N + 2) st (L + 1) p5 c5)) := StepV.mk (s' := s') HW.out.1 HRT.2.1 HW.out.2 (by first | omega | (simp; done)) (by rw [HNN.out]; exact HRT.2.2)
            clear HRT
            go_wp2_with fail
            refine bodyPost_ret (v := .tuple #[rsV st (D ++ [⟨k, t, i, x⟩]) p5 c5, .int .i64 t, .int .i64 (((0 : Nat) : Int))]) (results_rs rfl _ _ (N + 2) st (D ++ [⟨k, t, i, x⟩]) p5 c5 t (((0 : Nat) : Int)) rfl rfl rfl (by rw [HLE.out]; exact HF.out)) rfl HFIN.out
          | false =>
            have HW : Hid (vwZ s k t i x = (s', z, 0) ∧ VD s' (D ++ [⟨k, t, i, x⟩]) st) := by have := HW0.out; rwa [if_neg (by simp)] at this
            clear HW0
            go_wp2_with fail
            refine hwr.mono ?_
            rintro e w7 ⟨rfl, HS7⟩
            clear l0 l1 f0 f1 d0 d1 d2 d3 z0 z1 j0 j1 sz hwr HS6
            have sz := HS7.out.sz
            have l0 := HS7.out.rs.c0
            rw [HLL.out] at l0
            have l1 := HS7.out.rs.c1
            have f0 := HS7.out.rs.fz 0
            have f1 := HS7.out.rs.fz 1
            have d0 := HS7.out.ab.c0
            have d1 := HS7.out.ab.c1
            have d2 := HS7.out.ab.c2
            have d3 := HS7.out.ab.c3
            simp only [Nat.zero_add] at d0 d1 d2 d3
            have z0 := HS7.out.zb.c0
            have z1 := HS7.out.zb.c1
            have j0 := HS7.out.zb.fz 0
            have j1 := HS7.out.zb.fz 1
            have h1c := dcells_one D
            have hacl : (dcells D).length = L * 4 := by rw [dcells_len, HLL.out]
            obtain ⟨xs, hxs⟩ : ∃ xs, dcells D = xs := ⟨_, rfl⟩
            have HXS : Hid (dcells D = xs) := hxs
            rw [hxs] at h1c hacl
            have hcel : ∀ ad, p = some ad → ∀ j u, xs[j]? = some u → w7.cell? (ad.add j) = some u := by rw [← hxs]; exact HS7.out.rd.cellsP
            have hnil : p = none → L = 0 ∧ c = 0 := by rw [← HLL.out]; exact HS7.out.rd.nil
            have HCB : Hid (∀ w', Below w7.heap.size w7 w' → KV N G' ⟨k, t, i, x⟩ D st p c w w') := fun w' hb => HS7.out.later hb
            have hL60 : L ≤ 60 := HL.out
            clear hxs
            go_wp2_with (at_builtin; refine wpList_append_ownAny _ rfl _ _ 22 rfl w7.heap.size 31 i0 (.agg #[.int .i64 0, .int .i64 0, .int .i64 0, .int .i64 0]) 4 32 Tryd.underlying22 hi0 hz0 hz1 hz2 rfl (by decide) (.slice none 0 0) 0 [] rfl (World.ownsRow_nil _ _ _ _) p L c xs rfl hacl hnil hcel h1c (by unfold maxLen; omega) (by omega) (Nat.le_refl _) ?_)
            intro v' wA hownA hgrowA
            have hBA : Below w7.heap.size w7 wA := (Below.refl _ w7).grown hgrowA (Nat.le_refl _) (fun k e => by cases e)
            try rw [Nat.zero_add] at hownA
            try rw [List.nil_append] at hownA
            have HSA : Hid _ := HCB.out wA hBA
            have HBA : Hid (Below w7.heap.size w7 wA) := hBA
            have szA := hBA.size
            clear l0 l1 f0 f1 d0 d1 d2 d3 z0 z1 j0 j1 sz hgrowA hcel hnil h1c hacl
            have sz := HSA.out.sz
            have l0 := HSA.out.rs.c0
            rw [HLL.out] at l0
            have l1 := HSA.out.rs.c1
            have f0 := HSA.out.rs.fz 0
            have f1 := HSA.out.rs.fz 1
            have d0 := HSA.out.ab.c0
            have d1 := HSA.out.ab.c1
            have d2 := HSA.out.ab.c2
            have d3 := HSA.out.ab.c3
            simp only [Nat.zero_add] at d0 d1 d2 d3
            have z0 := HSA.out.zb.c0
            have z1 := HSA.out.zb.c1
            have j0 := HSA.out.zb.fz 0
            have j1 := HSA.out.zb.fz 1
            obtain ⟨adA, cA, rfl⟩ := owns_slice hownA
            have HOA : Hid (wA.ownsRow w7.heap.size 31 4 (.slice adA L cA) L xs) := hownA
            clear hownA hBA
            go_wp2_with (at_builtin; refine wpList_append_own _ rfl _ _ 22 rfl w7.heap.size 31 i0 (.agg #[.int .i64 0, .int .i64 0, .int .i64 0, .int .i64 0]) 4 32 Tryd.underlying22 hi0 hz0 hz1 hz2 rfl (by decide) _ _ _ rfl (HOA.out.alloc _) ⟨wA.heap.size, 0, none⟩ 1 1 [.int .i64 k, .int .i64 t, .int .i64 i, .int .i64 x] rfl rfl (World.news_of_block (cs := #[.int .i64 k, .int .i64 t, .int .i64 i, .int .i64 x]) (t := 31) (fr := (0, 0)) (heap_alloc_new wA _)) (by simp [Value.oneCell']) (by unfold maxLen; omega) (by omega) (by simp; omega) ?_)
            intro vB wB hownB hgrowB _
            have hBB : Below w7.heap.size w7 wB := (bel_al HBA.out _).grown hgrowB (by simp; omega) (fun k e => (HOA.out.lt k e).1)
            obtain ⟨p5, c5, rfl⟩ := owns_slice hownB
            have HLE : Hid ((D ++ [⟨k, t, i, x⟩] : List Dz).length = L + 1) := by show _ = _; rw [List.length_append, HLL.out]; rfl
            have HRB : Hid (RD (fun k => w7.heap.size ≤ k) (D ++ [⟨k, t, i, x⟩]) p5 c5 wB) := rdP_of_owns (n := L + 1) HLE.out (by rw [dcells_snoc, HXS.out]; exact hownB)
            have HSZ : Hid (N + 2 < w7.heap.size) := HS7.out.sz
            have h9 := (HCB.out wB hBB).setA (HRB.out.mono (fun j _ (hj : w7.heap.size ≤ j) => (HCB.out wB hBB).fr j (by have := HSZ.out; omega)))
            rw [HLE.out] at h9
            have q0 := (HCB.out wB hBB).rs.c0
            have qf := (HCB.out wB hBB).rs.fz 0
            rw [HLL.out] at q0
            have szN : N < wB.heap.size := (HCB.out wB hBB).rs.lt
            obtain ⟨wE, hwE⟩ : ∃ wE, wB.setCell ⟨N, 0, none⟩ (.slice p5 (L + 1) c5) = wE := ⟨_, rfl⟩
            rw [hwE] at h9
            have HSE : Hid _ := h9
            clear l0 l1 f0 f1 d0 d1 d2 d3 z0 z1 j0 j1 sz hBB hownB hgrowB szA HCB h9
            have sz := HSE.out.sz
            have l0 := HSE.out.rs.c0
            rw [HLE.out] at l0
            have l1 := HSE.out.rs.c1
            have f0 := HSE.out.rs.fz 0
            have f1 := HSE.out.rs.fz 1
            have d0 := HSE.out.ab.c0
            have d1 := HSE.out.ab.c1
            have d2 := HSE.out.ab.c2
            have d3 := HSE.out.ab.c3
            simp only [Nat.zero_add] at d0 d1 d2 d3
            have z0 := HSE.out.zb.c0
            have z1 := HSE.out.zb.c1
            have j0 := HSE.out.zb.fz 0
            have j1 := HSE.out.zb.fz 1
            have HRT := HSE.out.ret HGG.out
            rw [HLE.out] at HRT
            have HF : Hid _ := HRT.1
            have HFIN : Hid (StepV G s D k t i x w (.returned (.tuple #[rsV st (D ++ [⟨k, t, i, x⟩]) p5 c5, .int .i64 z, .int .i64 (((0 : Nat) : Int))])) (cpyS wE (N + 2) st (L + 1) p5 c5)) := StepV.mk (s' := s') HW.out.1 HRT.2.1 HW.out.2 (by first | omega | (simp; done)) (by rw [HNN.out]; exact HRT.2.2)
            clear HRT
            go_wp2_with fail
            refine bodyPost_ret (v := .tuple #[rsV st (D ++ [⟨k, t, i, x⟩]) p5 c5, .int .i64 z, .int .i64 (((0 : Nat) : Int))]) (results_rs rfl _ _ (N + 2) st (D ++ [⟨k, t, i, x⟩]) p5 c5 z (((0 : Nat) : Int)) rfl rfl rfl (by rw [HLE.out]; exact HF.out)) rfl HFIN.out

end Go.Proofs.YtajiichehffaaaaDoor
