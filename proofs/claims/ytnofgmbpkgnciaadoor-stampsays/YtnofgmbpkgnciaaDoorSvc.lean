/- Vectors of a trace (package stamp, Vectors): of each event how many of each process happened before it, itself counted; what lay in memory lies as it lay. -/
import Derived.Test.YtnofgmbpkgnciaaDoorSvh
namespace Go.Proofs.YtnofgmbpkgnciaaDoor
open Go.RowKit

set_option maxRecDepth 100000 in
set_option maxHeartbeats 8000000 in
theorem vectors_ok (P : Nat) (T : List (Int × Int)) (p : Option Addr) (n cap : Nat) (w : World) (hl : T.length = n) (hmax : n ≤ maxLen) (hc : HasE T p w) (h0 : M.tcode P T = 0) :
    Calls Tryd.prog 19 #[trV P p n cap] w fun e w' => ∃ A N, e = .returned (.tuple #[.slice (some ⟨A, 0, none⟩) n n, .nilIface]) ∧ VRows T P n n N A w' ∧ w.heap.size ≤ A ∧ A < N ∧ Below w.heap.size w w' := by
  have hok := M.tcode_zero.1 h0
  have hn : n ≤ 24 := hl ▸ hok.len
  have hP1 := hok.p1
  have hP5 := hok.p5
  have hB0 : Below w.heap.size w (w.alloc (.cells #[.int .i64 P, .slice p n cap] 24)) := (Below.refl _ _).alloc (Nat.le_refl _) _
  have hcb := hc.later hB0
  have hmk0 := run_make_row' (P := Tryd.prog) 41 30 (.slice none 0 0) 24 Tryd.underlying41 infoSl rfl .i64 .i64 n (by omega) (by omega)
  have hmk1 := make_vecs n hn
  go_enter Tryd.func19, Tryd.ntmps19
  go_wp2_with fail
  refine (check_tr P T p n cap _ hl hmax hcb).mono ?_
  rw [h0, terr_zero]
  rintro e w1 ⟨rfl, hB1⟩
  have hbox : TBox w1 w.heap.size P p n cap := (tbox_new w P p n cap).later hB1 (by simp)
  have hC1 := bel_on hB0 hB1
  have hc1 := hc.later hC1
  have hk1 := hbox.procs
  have hk2 := hbox.events
  have hbl := hbox.lt
  clear hB0 hB1 hcb hc
  obtain ⟨wx, hwx⟩ : ∃ wx, w1.alloc (.cells (madeCells #[.slice none 0 0] n) 30) = wx := ⟨_, rfl⟩
  obtain ⟨wy, hwy⟩ : ∃ wy, wx.alloc (.cells (madeCells #[.int .i64 0, .int .i64 0, .int .i64 0, .int .i64 0, .int .i64 0] (n * 5)) 59) = wy := ⟨_, rfl⟩
  obtain ⟨wz, hwz⟩ : ∃ wz, wy.alloc (.cells #[.int .i64 0, .int .i64 0, .int .i64 0, .int .i64 0, .int .i64 0, .int .i64 0, .int .i64 0, .int .i64 0, .int .i64 0, .int .i64 0, .int .i64 0, .int .i64 0, .int .i64 0, .int .i64 0, .int .i64 0, .int .i64 0, .int .i64 0, .int .i64 0, .int .i64 0, .int .i64 0, .int .i64 0, .int .i64 0, .int .i64 0, .int .i64 0, .int .i64 0] 60) = wz := ⟨_, rfl⟩
  have sx : wx.heap.size = w1.heap.size + 1 := by subst hwx; simp
  have sy : wy.heap.size = w1.heap.size + 1 + 1 := by subst hwy; simp [sx]
  have sz : wz.heap.size = w1.heap.size + 1 + 1 + 1 := by subst hwz; simp [sy]
  have kx : wx.cell? ⟨w.heap.size, 1, none⟩ = some (.slice p n cap) := by rw [← hwx]; exact ((bel_al (Below.refl _ _) _).cell (p := ⟨w.heap.size, 1, none⟩) hbl).trans hk2
  have ky : wy.cell? ⟨w.heap.size, 1, none⟩ = some (.slice p n cap) := by rw [← hwy]; exact ((bel_al (Below.refl _ _) _).cell (p := ⟨w.heap.size, 1, none⟩) (show w.heap.size < wx.heap.size by omega)).trans kx
  have kz : wz.cell? ⟨w.heap.size, 1, none⟩ = some (.slice p n cap) := by rw [← hwz]; exact ((bel_al (Below.refl _ _) _).cell (p := ⟨w.heap.size, 1, none⟩) (show w.heap.size < wy.heap.size by omega)).trans ky
  have rA : VRows T P n 0 (w1.heap.size + 1 + 1 + 1) w1.heap.size wz := by
    refine ⟨madeCells #[.slice none 0 0] n, ?_, by simp [madeCells], fun j hj => absurd hj (Nat.not_lt_zero _)⟩
    have h1 : wx.heap[w1.heap.size]? = some (.cells (madeCells #[.slice none 0 0] n) 30 (0, 0)) := by subst hwx; rw [World.alloc_heap_new]
    have h2 := (bel_al (Below.refl _ wx) (.cells (madeCells #[.int .i64 0, .int .i64 0, .int .i64 0, .int .i64 0, .int .i64 0] (n * 5)) 59)).block w1.heap.size (by omega)
    have h3 := (bel_al (Below.refl _ wy) (.cells #[.int .i64 0, .int .i64 0, .int .i64 0, .int .i64 0, .int .i64 0, .int .i64 0, .int .i64 0, .int .i64 0, .int .i64 0, .int .i64 0, .int .i64 0, .int .i64 0, .int .i64 0, .int .i64 0, .int .i64 0, .int .i64 0, .int .i64 0, .int .i64 0, .int .i64 0, .int .i64 0, .int .i64 0, .int .i64 0, .int .i64 0, .int .i64 0, .int .i64 0] 60)).block w1.heap.size (by omega)
    rw [hwy] at h2
    rw [hwz] at h3
    exact h3.trans (h2.trans h1)
  have rC : RowAt 59 wz (w1.heap.size + 1) (M.cvl T n 0) := by
    have h1 : RowAt 59 wy (w1.heap.size + 1) (M.cvl T n 0) := by subst hwy; unfold RowAt; rw [← sx, World.alloc_heap_new, made_vecs, M.cvl_zero]
    have := h1.alloc (.cells #[.int .i64 0, .int .i64 0, .int .i64 0, .int .i64 0, .int .i64 0, .int .i64 0, .int .i64 0, .int .i64 0, .int .i64 0, .int .i64 0, .int .i64 0, .int .i64 0, .int .i64 0, .int .i64 0, .int .i64 0, .int .i64 0, .int .i64 0, .int .i64 0, .int .i64 0, .int .i64 0, .int .i64 0, .int .i64 0, .int .i64 0, .int .i64 0, .int .i64 0] 60)
    rw [hwz] at this
    exact this
  have rK : RowAt 60 wz (w1.heap.size + 1 + 1) (M.kvl T 0) := by subst hwz; unfold RowAt; rw [← sy, World.alloc_heap_new]; rfl
  have hBz : Below w1.heap.size w1 wz := by rw [← hwz, ← hwy, ← hwx]; exact bel_al (bel_al (bel_al (Below.refl _ _) _) _) _
  go_wp2_with fail
  go_loopw [27] (fun v wr => ∃ i : Nat, v = .int .i64 i ∧ i ≤ n ∧ VRows T P n i (w1.heap.size + 1 + 1 + 1) w1.heap.size wr ∧ RowAt 59 wr (w1.heap.size + 1) (M.cvl T n i) ∧ RowAt 60 wr (w1.heap.size + 1 + 1) (M.kvl T i) ∧ Below w1.heap.size w1 wr) (fun v _ => n - (intOf v).toNat)
  case atStart => exact ⟨0, rfl, Nat.zero_le _, rA, rC, rK, hBz⟩
  case round =>
    clear hk1 hk2 kx ky kz rA rC rK hBz hwx hwy hwz sx sy sz hmk0 hmk1
    obtain ⟨i, rfl, hi, hA, hC, hK, hB⟩ := hrel
    have hbr := hbox.later hB hbl
    by_cases hlt : i < n
    · obtain ⟨b, off, rfl, hb, hp1, hp2⟩ := (hc1.later hB) i (by omega)
      have hT : i < T.length := by omega
      have ha0 := hok.pr0 i hT
      have haP := hok.prP i hT
      have hf0 := hok.fm0 i hT
      have hfI := hok.fmI i hT
      obtain ⟨a, ha⟩ : ∃ a : Nat, M.pr T i = a := ⟨(M.pr T i).toNat, by omega⟩
      have ha5 : a < 5 := by omega
      rw [ha] at hp1
      have HA : Hid (M.pr T i = (a : Nat)) := ha
      have hai : (a : Int) < 5 := by omega
      clear ha ha0 haP
      have hS : (w1.heap.size + 1 + 1) < wr.heap.size := hK.lt
      by_cases hfm : M.fm T i = -1
      · rw [hfm] at hp2
        obtain ⟨wa, hwa⟩ : ∃ wa, wr.alloc (.cells #[.int .i64 (a : Nat), .int .i64 (-1)] 50) = wa := ⟨_, rfl⟩
        have sa : wa.heap.size = wr.heap.size + 1 := by subst hwa; simp
        have hKa : RowAt 60 wa (w1.heap.size + 1 + 1) _ := hwa ▸ hK.alloc _
        have hEa : wa.cell? ⟨wr.heap.size, 0, none⟩ = some (.int .i64 (a : Nat)) := hwa ▸ ev_cell0 rfl _ _
        have k0 := hKa.cell (k := a * 5) (by rw [M.kvl_length]; omega)
        have k1 := hKa.cell (k := a * 5 + 1) (by rw [M.kvl_length]; omega)
        have k2 := hKa.cell (k := a * 5 + 2) (by rw [M.kvl_length]; omega)
        have k3 := hKa.cell (k := a * 5 + 3) (by rw [M.kvl_length]; omega)
        have k4 := hKa.cell (k := a * 5 + 4) (by rw [M.kvl_length]; omega)
        rw [show M.row (M.kvl T i) (a * 5) = M.row (M.kvl T i) (a * 5 + 0) from rfl, M.kvl_at T i ha5 (by omega)] at k0
        rw [M.kvl_at T i ha5 (by omega)] at k1
        rw [M.kvl_at T i ha5 (by omega)] at k2
        rw [M.kvl_at T i ha5 (by omega)] at k3
        rw [M.kvl_at T i ha5 (by omega)] at k4
        obtain ⟨x0, hx0⟩ : ∃ x, M.kv T (a : Int) ((0 : Nat) : Int) i = x := ⟨_, rfl⟩
        have X0 : Hid (M.kv T (a : Int) 0 i = x0) := hx0
        have xb0 : x0 ≤ 24 := by have := M.kv_le T (a : Int) ((0 : Nat) : Int) i; omega
        rw [hx0] at k0
        clear hx0
        obtain ⟨x1, hx1⟩ : ∃ x, M.kv T (a : Int) ((1 : Nat) : Int) i = x := ⟨_, rfl⟩
        have X1 : Hid (M.kv T (a : Int) 1 i = x1) := hx1
        have xb1 : x1 ≤ 24 := by have := M.kv_le T (a : Int) ((1 : Nat) : Int) i; omega
        rw [hx1] at k1
        clear hx1
        obtain ⟨x2, hx2⟩ : ∃ x, M.kv T (a : Int) ((2 : Nat) : Int) i = x := ⟨_, rfl⟩
        have X2 : Hid (M.kv T (a : Int) 2 i = x2) := hx2
        have xb2 : x2 ≤ 24 := by have := M.kv_le T (a : Int) ((2 : Nat) : Int) i; omega
        rw [hx2] at k2
        clear hx2
        obtain ⟨x3, hx3⟩ : ∃ x, M.kv T (a : Int) ((3 : Nat) : Int) i = x := ⟨_, rfl⟩
        have X3 : Hid (M.kv T (a : Int) 3 i = x3) := hx3
        have xb3 : x3 ≤ 24 := by have := M.kv_le T (a : Int) ((3 : Nat) : Int) i; omega
        rw [hx3] at k3
        clear hx3
        obtain ⟨x4, hx4⟩ : ∃ x, M.kv T (a : Int) ((4 : Nat) : Int) i = x := ⟨_, rfl⟩
        have X4 : Hid (M.kv T (a : Int) 4 i = x4) := hx4
        have xb4 : x4 ≤ 24 := by have := M.kv_le T (a : Int) ((4 : Nat) : Int) i; omega
        rw [hx4] at k4
        clear hx4
        obtain ⟨wb, hwb⟩ : ∃ wb, wa.alloc (.cells #[.int .i64 (x0 : Nat), .int .i64 (x1 : Nat), .int .i64 (x2 : Nat), .int .i64 (x3 : Nat), .int .i64 (x4 : Nat)] 59) = wb := ⟨_, rfl⟩
        have sb : wb.heap.size = wr.heap.size + 1 + 1 := by subst hwb; simp [sa]
        have hVb : RowAt 59 wb (wr.heap.size + 1) [x0, x1, x2, x3, x4] := by subst hwb; unfold RowAt; rw [← sa, World.alloc_heap_new]; rfl
        have hBab : Below wr.heap.size wr wb := by rw [← hwb, ← hwa]; exact bel_al (bel_al (Below.refl _ _) _) _
        have hE0 : wb.cell? ⟨wr.heap.size, 0, none⟩ = some (.int .i64 (a : Nat)) := by rw [← hwb, ← hwa]; exact ((bel_al (Below.refl _ _) _).cell (p := ⟨wr.heap.size, 0, none⟩) (by simp)).trans (ev_cell0 rfl _ _)
        have hE1 : wb.cell? ⟨wr.heap.size, 1, none⟩ = some (.int .i64 (-1)) := by rw [← hwb, ← hwa]; exact ((bel_al (Below.refl _ _) _).cell (p := ⟨wr.heap.size, 1, none⟩) (by simp)).trans (ev_cell1 rfl _ _)
        go_wp2_with fail
        refine (heard_bel _ _ false _ rfl).mono ?_
        rintro e w3 ⟨rfl, hB3⟩
        have hB03 : Below wr.heap.size wr w3 := bel_on hBab hB3
        have hV3 : RowAt 59 w3 (wr.heap.size + 1) _ := hVb.below hB3 (by omega)
        have hF0 := (hB3.cell (p := ⟨wr.heap.size, 0, none⟩) (show wr.heap.size < wb.heap.size by omega)).trans hE0
        have hF1 := (hB3.cell (p := ⟨wr.heap.size, 1, none⟩) (show wr.heap.size < wb.heap.size by omega)).trans hE1
        have s3 : wr.heap.size + 1 < w3.heap.size := by have := hB3.size; omega
        clear hEa hwa hwb hKa hVb hE0 hE1 hB3 k0 k1 k2 k3 k4 hp1 hp2
        obtain ⟨wS, hwS⟩ : ∃ wS, w3 = wS := ⟨_, rfl⟩
        subst hwS
        have hVS := hV3
        have hBS := hB03
        have hGS := hF0
        have sS := s3
        obtain ⟨v0, hv0⟩ : ∃ v, M.vc T i 0 = v := ⟨_, rfl⟩
        have V0 : v0 = x0 + if a = 0 then 1 else 0 := by rw [← hv0, M.vc_none (by omega), HA.out, X0.out]; split <;> split <;> omega
        obtain ⟨v1, hv1⟩ : ∃ v, M.vc T i 1 = v := ⟨_, rfl⟩
        have V1 : v1 = x1 + if a = 1 then 1 else 0 := by rw [← hv1, M.vc_none (by omega), HA.out, X1.out]; split <;> split <;> omega
        obtain ⟨v2, hv2⟩ : ∃ v, M.vc T i 2 = v := ⟨_, rfl⟩
        have V2 : v2 = x2 + if a = 2 then 1 else 0 := by rw [← hv2, M.vc_none (by omega), HA.out, X2.out]; split <;> split <;> omega
        obtain ⟨v3, hv3⟩ : ∃ v, M.vc T i 3 = v := ⟨_, rfl⟩
        have V3 : v3 = x3 + if a = 3 then 1 else 0 := by rw [← hv3, M.vc_none (by omega), HA.out, X3.out]; split <;> split <;> omega
        obtain ⟨v4, hv4⟩ : ∃ v, M.vc T i 4 = v := ⟨_, rfl⟩
        have V4 : v4 = x4 + if a = 4 then 1 else 0 := by rw [← hv4, M.vc_none (by omega), HA.out, X4.out]; split <;> split <;> omega
        have HV : M.vl T i = [v0, v1, v2, v3, v4] := by unfold M.vl; rw [hv0, hv1, hv2, hv3, hv4]
        have hua : M.row [x0, x1, x2, x3, x4] a ≤ 24 := row5_le ha5 xb0 xb1 xb2 xb3 xb4
        have hcu := hVS.cell (k := a) ha5
        have hfu := hVS.frozen a
        obtain ⟨ua, hue⟩ : ∃ z, M.row [x0, x1, x2, x3, x4] a = z := ⟨_, rfl⟩
        obtain ⟨x, hx⟩ : ∃ x, ua + 1 = x := ⟨_, rfl⟩
        have hxi : (ua : Int) + 1 = (x : Int) := by omega
        have hin := M.inc_set (x := x) ha5 (by rw [hue]; exact hx) V0 V1 V2 V3 V4
        rw [hue] at hcu hua
        clear hue hx hv0 V0 hv1 V1 hv2 V2 hv3 V3 hv4 V4
        obtain ⟨w6, hw6⟩ : ∃ w6, w3.setCell ⟨(wr.heap.size + 1), a, none⟩ (.int .i64 (x : Nat)) = w6 := ⟨_, rfl⟩
        have hV6 : RowAt 59 w6 (wr.heap.size + 1) [v0, v1, v2, v3, v4] := by
          have := hVS.set a x
          rw [hin, hw6] at this
          exact this
        have hC6 : RowAt 59 w6 (w1.heap.size + 1) _ := hw6 ▸ (hC.below hBS hC.lt).other (a := ⟨(wr.heap.size + 1), a, none⟩) (show (w1.heap.size + 1) ≠ (wr.heap.size + 1) by omega) (.int .i64 (x : Nat))
        have hK6 : RowAt 60 w6 (w1.heap.size + 1 + 1) _ := hw6 ▸ (hK.below hBS hK.lt).other (a := ⟨(wr.heap.size + 1), a, none⟩) (show (w1.heap.size + 1 + 1) ≠ (wr.heap.size + 1) by omega) (.int .i64 (x : Nat))
        have hG6 : w6.cell? ⟨wr.heap.size, 0, none⟩ = some (.int .i64 (a : Nat)) := by rw [← hw6]; exact (cell_of_heap (p := ⟨wr.heap.size, 0, none⟩) (Below.heap_setCell _ ⟨(wr.heap.size + 1), a, none⟩ _ wr.heap.size (show wr.heap.size ≠ (wr.heap.size + 1) by omega))).trans hGS
        have hB6 : Below w1.heap.size w1 w6 := hw6 ▸ (hB.trans (hBS.mono hB.size)).setCell (p := ⟨(wr.heap.size + 1), a, none⟩) (show w1.heap.size ≤ (wr.heap.size + 1) by omega) _
        have hP6 : Kp (w1.heap.size + 1 + 1 + 1) wr w6 := hw6 ▸ ((Kp.refl _ _).below hBS).set (a := ⟨(wr.heap.size + 1), a, none⟩) (.inr (show wr.heap.size ≤ (wr.heap.size + 1) by omega)) _
        have hR6 : w6.heap[w1.heap.size]? = wr.heap[w1.heap.size]? := by rw [← hw6]; exact (Below.heap_setCell _ ⟨(wr.heap.size + 1), a, none⟩ _ w1.heap.size (show w1.heap.size ≠ (wr.heap.size + 1) by omega)).trans (hBS.block w1.heap.size (by omega))
        have g0 := hV6.cell (k := 0) (by simp)
        change w6.cell? _ = some (.int .i64 (v0 : Nat)) at g0
        have g1 := hV6.cell (k := 1) (by simp)
        change w6.cell? _ = some (.int .i64 (v1 : Nat)) at g1
        have g2 := hV6.cell (k := 2) (by simp)
        change w6.cell? _ = some (.int .i64 (v2 : Nat)) at g2
        have g3 := hV6.cell (k := 3) (by simp)
        change w6.cell? _ = some (.int .i64 (v3 : Nat)) at g3
        have g4 := hV6.cell (k := 4) (by simp)
        change w6.cell? _ = some (.int .i64 (v4 : Nat)) at g4
        have z0 := hC6.cell (k := i * 5) (by rw [M.cvl_length]; omega)
        have z1 := hC6.cell (k := i * 5 + 1) (by rw [M.cvl_length]; omega)
        have z2 := hC6.cell (k := i * 5 + 2) (by rw [M.cvl_length]; omega)
        have z3 := hC6.cell (k := i * 5 + 3) (by rw [M.cvl_length]; omega)
        have z4 := hC6.cell (k := i * 5 + 4) (by rw [M.cvl_length]; omega)
        have zf0 := hC6.frozen (i * 5)
        have zf1 := hC6.frozen (i * 5 + 1)
        have zf2 := hC6.frozen (i * 5 + 2)
        have zf3 := hC6.frozen (i * 5 + 3)
        have zf4 := hC6.frozen (i * 5 + 4)
        obtain ⟨zz0, hzz0⟩ : ∃ z, M.row (M.cvl T n i) (i * 5) = z := ⟨_, rfl⟩
        rw [hzz0] at z0
        clear hzz0
        obtain ⟨zz1, hzz1⟩ : ∃ z, M.row (M.cvl T n i) (i * 5 + 1) = z := ⟨_, rfl⟩
        rw [hzz1] at z1
        clear hzz1
        obtain ⟨zz2, hzz2⟩ : ∃ z, M.row (M.cvl T n i) (i * 5 + 2) = z := ⟨_, rfl⟩
        rw [hzz2] at z2
        clear hzz2
        obtain ⟨zz3, hzz3⟩ : ∃ z, M.row (M.cvl T n i) (i * 5 + 3) = z := ⟨_, rfl⟩
        rw [hzz3] at z3
        clear hzz3
        obtain ⟨zz4, hzz4⟩ : ∃ z, M.row (M.cvl T n i) (i * 5 + 4) = z := ⟨_, rfl⟩
        rw [hzz4] at z4
        clear hzz4
        obtain ⟨w7, hw7⟩ : ∃ w7, (((((w6.setCell ⟨(w1.heap.size + 1), i * 5, none⟩ (.int .i64 (v0 : Nat))).setCell ⟨(w1.heap.size + 1), i * 5 + 1, none⟩ (.int .i64 (v1 : Nat))).setCell ⟨(w1.heap.size + 1), i * 5 + 2, none⟩ (.int .i64 (v2 : Nat))).setCell ⟨(w1.heap.size + 1), i * 5 + 3, none⟩ (.int .i64 (v3 : Nat))).setCell ⟨(w1.heap.size + 1), i * 5 + 4, none⟩ (.int .i64 (v4 : Nat))) = w7 := ⟨_, rfl⟩
        have hC7 : RowAt 59 w7 (w1.heap.size + 1) (M.cvl T n (i + 1)) := by
          have : RowAt 59 (((((w6.setCell ⟨(w1.heap.size + 1), i * 5, none⟩ (.int .i64 (v0 : Nat))).setCell ⟨(w1.heap.size + 1), i * 5 + 1, none⟩ (.int .i64 (v1 : Nat))).setCell ⟨(w1.heap.size + 1), i * 5 + 2, none⟩ (.int .i64 (v2 : Nat))).setCell ⟨(w1.heap.size + 1), i * 5 + 3, none⟩ (.int .i64 (v3 : Nat))).setCell ⟨(w1.heap.size + 1), i * 5 + 4, none⟩ (.int .i64 (v4 : Nat))) (w1.heap.size + 1) (M.set5 (M.cvl T n i) (i * 5) v0 v1 v2 v3 v4) := (((((hC6.set (i * 5) v0).set (i * 5 + 1) v1).set (i * 5 + 2) v2).set (i * 5 + 3) v3).set (i * 5 + 4) v4)
          rw [M.cvl_set HV, hw7] at this
          exact this
        have hV7 : RowAt 59 w7 (wr.heap.size + 1) [v0, v1, v2, v3, v4] := hw7 ▸ (((((hV6.other (a := ⟨(w1.heap.size + 1), i * 5, none⟩) (show (wr.heap.size + 1) ≠ (w1.heap.size + 1) by omega) (.int .i64 (v0 : Nat))).other (a := ⟨(w1.heap.size + 1), i * 5 + 1, none⟩) (show (wr.heap.size + 1) ≠ (w1.heap.size + 1) by omega) (.int .i64 (v1 : Nat))).other (a := ⟨(w1.heap.size + 1), i * 5 + 2, none⟩) (show (wr.heap.size + 1) ≠ (w1.heap.size + 1) by omega) (.int .i64 (v2 : Nat))).other (a := ⟨(w1.heap.size + 1), i * 5 + 3, none⟩) (show (wr.heap.size + 1) ≠ (w1.heap.size + 1) by omega) (.int .i64 (v3 : Nat))).other (a := ⟨(w1.heap.size + 1), i * 5 + 4, none⟩) (show (wr.heap.size + 1) ≠ (w1.heap.size + 1) by omega) (.int .i64 (v4 : Nat)))
        have hK7 : RowAt 60 w7 (w1.heap.size + 1 + 1) _ := hw7 ▸ (((((hK6.other (a := ⟨(w1.heap.size + 1), i * 5, none⟩) (show (w1.heap.size + 1 + 1) ≠ (w1.heap.size + 1) by omega) (.int .i64 (v0 : Nat))).other (a := ⟨(w1.heap.size + 1), i * 5 + 1, none⟩) (show (w1.heap.size + 1 + 1) ≠ (w1.heap.size + 1) by omega) (.int .i64 (v1 : Nat))).other (a := ⟨(w1.heap.size + 1), i * 5 + 2, none⟩) (show (w1.heap.size + 1 + 1) ≠ (w1.heap.size + 1) by omega) (.int .i64 (v2 : Nat))).other (a := ⟨(w1.heap.size + 1), i * 5 + 3, none⟩) (show (w1.heap.size + 1 + 1) ≠ (w1.heap.size + 1) by omega) (.int .i64 (v3 : Nat))).other (a := ⟨(w1.heap.size + 1), i * 5 + 4, none⟩) (show (w1.heap.size + 1 + 1) ≠ (w1.heap.size + 1) by omega) (.int .i64 (v4 : Nat)))
        have hG7 : w7.cell? ⟨wr.heap.size, 0, none⟩ = some (.int .i64 (a : Nat)) := by rw [← hw7]; exact (cell_of_heap (p := ⟨wr.heap.size, 0, none⟩) ((Below.heap_setCell ((((w6.setCell ⟨(w1.heap.size + 1), i * 5, none⟩ (.int .i64 (v0 : Nat))).setCell ⟨(w1.heap.size + 1), i * 5 + 1, none⟩ (.int .i64 (v1 : Nat))).setCell ⟨(w1.heap.size + 1), i * 5 + 2, none⟩ (.int .i64 (v2 : Nat))).setCell ⟨(w1.heap.size + 1), i * 5 + 3, none⟩ (.int .i64 (v3 : Nat))) ⟨(w1.heap.size + 1), i * 5 + 4, none⟩ (.int .i64 (v4 : Nat)) (wr.heap.size) (show wr.heap.size ≠ (w1.heap.size + 1) by omega)).trans ((Below.heap_setCell (((w6.setCell ⟨(w1.heap.size + 1), i * 5, none⟩ (.int .i64 (v0 : Nat))).setCell ⟨(w1.heap.size + 1), i * 5 + 1, none⟩ (.int .i64 (v1 : Nat))).setCell ⟨(w1.heap.size + 1), i * 5 + 2, none⟩ (.int .i64 (v2 : Nat))) ⟨(w1.heap.size + 1), i * 5 + 3, none⟩ (.int .i64 (v3 : Nat)) (wr.heap.size) (show wr.heap.size ≠ (w1.heap.size + 1) by omega)).trans ((Below.heap_setCell ((w6.setCell ⟨(w1.heap.size + 1), i * 5, none⟩ (.int .i64 (v0 : Nat))).setCell ⟨(w1.heap.size + 1), i * 5 + 1, none⟩ (.int .i64 (v1 : Nat))) ⟨(w1.heap.size + 1), i * 5 + 2, none⟩ (.int .i64 (v2 : Nat)) (wr.heap.size) (show wr.heap.size ≠ (w1.heap.size + 1) by omega)).trans ((Below.heap_setCell (w6.setCell ⟨(w1.heap.size + 1), i * 5, none⟩ (.int .i64 (v0 : Nat))) ⟨(w1.heap.size + 1), i * 5 + 1, none⟩ (.int .i64 (v1 : Nat)) (wr.heap.size) (show wr.heap.size ≠ (w1.heap.size + 1) by omega)).trans (Below.heap_setCell w6 ⟨(w1.heap.size + 1), i * 5, none⟩ (.int .i64 (v0 : Nat)) (wr.heap.size) (show wr.heap.size ≠ (w1.heap.size + 1) by omega))))))).trans hG6
        have hB7 : Below w1.heap.size w1 w7 := hw7 ▸ (((((hB6.setCell (p := ⟨(w1.heap.size + 1), i * 5, none⟩) (show w1.heap.size ≤ (w1.heap.size + 1) by omega) _).setCell (p := ⟨(w1.heap.size + 1), i * 5 + 1, none⟩) (show w1.heap.size ≤ (w1.heap.size + 1) by omega) _).setCell (p := ⟨(w1.heap.size + 1), i * 5 + 2, none⟩) (show w1.heap.size ≤ (w1.heap.size + 1) by omega) _).setCell (p := ⟨(w1.heap.size + 1), i * 5 + 3, none⟩) (show w1.heap.size ≤ (w1.heap.size + 1) by omega) _).setCell (p := ⟨(w1.heap.size + 1), i * 5 + 4, none⟩) (show w1.heap.size ≤ (w1.heap.size + 1) by omega) _)
        have hP7 : Kp (w1.heap.size + 1 + 1 + 1) wr w7 := hw7 ▸ (((((hP6.set (a := ⟨(w1.heap.size + 1), i * 5, none⟩) (.inl (show (w1.heap.size + 1) < (w1.heap.size + 1 + 1 + 1) by omega)) _).set (a := ⟨(w1.heap.size + 1), i * 5 + 1, none⟩) (.inl (show (w1.heap.size + 1) < (w1.heap.size + 1 + 1 + 1) by omega)) _).set (a := ⟨(w1.heap.size + 1), i * 5 + 2, none⟩) (.inl (show (w1.heap.size + 1) < (w1.heap.size + 1 + 1 + 1) by omega)) _).set (a := ⟨(w1.heap.size + 1), i * 5 + 3, none⟩) (.inl (show (w1.heap.size + 1) < (w1.heap.size + 1 + 1 + 1) by omega)) _).set (a := ⟨(w1.heap.size + 1), i * 5 + 4, none⟩) (.inl (show (w1.heap.size + 1) < (w1.heap.size + 1 + 1 + 1) by omega)) _)
        have hR7 : w7.heap[w1.heap.size]? = wr.heap[w1.heap.size]? := by rw [← hw7]; exact ((Below.heap_setCell ((((w6.setCell ⟨(w1.heap.size + 1), i * 5, none⟩ (.int .i64 (v0 : Nat))).setCell ⟨(w1.heap.size + 1), i * 5 + 1, none⟩ (.int .i64 (v1 : Nat))).setCell ⟨(w1.heap.size + 1), i * 5 + 2, none⟩ (.int .i64 (v2 : Nat))).setCell ⟨(w1.heap.size + 1), i * 5 + 3, none⟩ (.int .i64 (v3 : Nat))) ⟨(w1.heap.size + 1), i * 5 + 4, none⟩ (.int .i64 (v4 : Nat)) (w1.heap.size) (show w1.heap.size ≠ (w1.heap.size + 1) by omega)).trans ((Below.heap_setCell (((w6.setCell ⟨(w1.heap.size + 1), i * 5, none⟩ (.int .i64 (v0 : Nat))).setCell ⟨(w1.heap.size + 1), i * 5 + 1, none⟩ (.int .i64 (v1 : Nat))).setCell ⟨(w1.heap.size + 1), i * 5 + 2, none⟩ (.int .i64 (v2 : Nat))) ⟨(w1.heap.size + 1), i * 5 + 3, none⟩ (.int .i64 (v3 : Nat)) (w1.heap.size) (show w1.heap.size ≠ (w1.heap.size + 1) by omega)).trans ((Below.heap_setCell ((w6.setCell ⟨(w1.heap.size + 1), i * 5, none⟩ (.int .i64 (v0 : Nat))).setCell ⟨(w1.heap.size + 1), i * 5 + 1, none⟩ (.int .i64 (v1 : Nat))) ⟨(w1.heap.size + 1), i * 5 + 2, none⟩ (.int .i64 (v2 : Nat)) (w1.heap.size) (show w1.heap.size ≠ (w1.heap.size + 1) by omega)).trans ((Below.heap_setCell (w6.setCell ⟨(w1.heap.size + 1), i * 5, none⟩ (.int .i64 (v0 : Nat))) ⟨(w1.heap.size + 1), i * 5 + 1, none⟩ (.int .i64 (v1 : Nat)) (w1.heap.size) (show w1.heap.size ≠ (w1.heap.size + 1) by omega)).trans (Below.heap_setCell w6 ⟨(w1.heap.size + 1), i * 5, none⟩ (.int .i64 (v0 : Nat)) (w1.heap.size) (show w1.heap.size ≠ (w1.heap.size + 1) by omega)))))).trans hR6
        have l0 := hV7.cell (k := 0) (by simp)
        change w7.cell? _ = some (.int .i64 (v0 : Nat)) at l0
        have l1 := hV7.cell (k := 1) (by simp)
        change w7.cell? _ = some (.int .i64 (v1 : Nat)) at l1
        have l2 := hV7.cell (k := 2) (by simp)
        change w7.cell? _ = some (.int .i64 (v2 : Nat)) at l2
        have l3 := hV7.cell (k := 3) (by simp)
        change w7.cell? _ = some (.int .i64 (v3 : Nat)) at l3
        have l4 := hV7.cell (k := 4) (by simp)
        change w7.cell? _ = some (.int .i64 (v4 : Nat)) at l4
        have o0 := hK7.cell (k := a * 5) (by rw [M.kvl_length]; omega)
        have o1 := hK7.cell (k := a * 5 + 1) (by rw [M.kvl_length]; omega)
        have o2 := hK7.cell (k := a * 5 + 2) (by rw [M.kvl_length]; omega)
        have o3 := hK7.cell (k := a * 5 + 3) (by rw [M.kvl_length]; omega)
        have o4 := hK7.cell (k := a * 5 + 4) (by rw [M.kvl_length]; omega)
        have of0 := hK7.frozen (a * 5)
        have of1 := hK7.frozen (a * 5 + 1)
        have of2 := hK7.frozen (a * 5 + 2)
        have of3 := hK7.frozen (a * 5 + 3)
        have of4 := hK7.frozen (a * 5 + 4)
        obtain ⟨oo0, hoo0⟩ : ∃ z, M.row (M.kvl T i) (a * 5) = z := ⟨_, rfl⟩
        rw [hoo0] at o0
        clear hoo0
        obtain ⟨oo1, hoo1⟩ : ∃ z, M.row (M.kvl T i) (a * 5 + 1) = z := ⟨_, rfl⟩
        rw [hoo1] at o1
        clear hoo1
        obtain ⟨oo2, hoo2⟩ : ∃ z, M.row (M.kvl T i) (a * 5 + 2) = z := ⟨_, rfl⟩
        rw [hoo2] at o2
        clear hoo2
        obtain ⟨oo3, hoo3⟩ : ∃ z, M.row (M.kvl T i) (a * 5 + 3) = z := ⟨_, rfl⟩
        rw [hoo3] at o3
        clear hoo3
        obtain ⟨oo4, hoo4⟩ : ∃ z, M.row (M.kvl T i) (a * 5 + 4) = z := ⟨_, rfl⟩
        rw [hoo4] at o4
        clear hoo4
        obtain ⟨w8, hw8⟩ : ∃ w8, (((((w7.setCell ⟨(w1.heap.size + 1 + 1), a * 5, none⟩ (.int .i64 (v0 : Nat))).setCell ⟨(w1.heap.size + 1 + 1), a * 5 + 1, none⟩ (.int .i64 (v1 : Nat))).setCell ⟨(w1.heap.size + 1 + 1), a * 5 + 2, none⟩ (.int .i64 (v2 : Nat))).setCell ⟨(w1.heap.size + 1 + 1), a * 5 + 3, none⟩ (.int .i64 (v3 : Nat))).setCell ⟨(w1.heap.size + 1 + 1), a * 5 + 4, none⟩ (.int .i64 (v4 : Nat))) = w8 := ⟨_, rfl⟩
        have hK8 : RowAt 60 w8 (w1.heap.size + 1 + 1) (M.kvl T (i + 1)) := by
          have : RowAt 60 (((((w7.setCell ⟨(w1.heap.size + 1 + 1), a * 5, none⟩ (.int .i64 (v0 : Nat))).setCell ⟨(w1.heap.size + 1 + 1), a * 5 + 1, none⟩ (.int .i64 (v1 : Nat))).setCell ⟨(w1.heap.size + 1 + 1), a * 5 + 2, none⟩ (.int .i64 (v2 : Nat))).setCell ⟨(w1.heap.size + 1 + 1), a * 5 + 3, none⟩ (.int .i64 (v3 : Nat))).setCell ⟨(w1.heap.size + 1 + 1), a * 5 + 4, none⟩ (.int .i64 (v4 : Nat))) (w1.heap.size + 1 + 1) (M.set5 (M.kvl T i) (a * 5) v0 v1 v2 v3 v4) := (((((hK7.set (a * 5) v0).set (a * 5 + 1) v1).set (a * 5 + 2) v2).set (a * 5 + 3) v3).set (a * 5 + 4) v4)
          rw [M.kvl_set HA.out HV, hw8] at this
          exact this
        have hV8 : RowAt 59 w8 (wr.heap.size + 1) [v0, v1, v2, v3, v4] := hw8 ▸ (((((hV7.other (a := ⟨(w1.heap.size + 1 + 1), a * 5, none⟩) (show (wr.heap.size + 1) ≠ (w1.heap.size + 1 + 1) by omega) (.int .i64 (v0 : Nat))).other (a := ⟨(w1.heap.size + 1 + 1), a * 5 + 1, none⟩) (show (wr.heap.size + 1) ≠ (w1.heap.size + 1 + 1) by omega) (.int .i64 (v1 : Nat))).other (a := ⟨(w1.heap.size + 1 + 1), a * 5 + 2, none⟩) (show (wr.heap.size + 1) ≠ (w1.heap.size + 1 + 1) by omega) (.int .i64 (v2 : Nat))).other (a := ⟨(w1.heap.size + 1 + 1), a * 5 + 3, none⟩) (show (wr.heap.size + 1) ≠ (w1.heap.size + 1 + 1) by omega) (.int .i64 (v3 : Nat))).other (a := ⟨(w1.heap.size + 1 + 1), a * 5 + 4, none⟩) (show (wr.heap.size + 1) ≠ (w1.heap.size + 1 + 1) by omega) (.int .i64 (v4 : Nat)))
        have hC8 : RowAt 59 w8 (w1.heap.size + 1) _ := hw8 ▸ (((((hC7.other (a := ⟨(w1.heap.size + 1 + 1), a * 5, none⟩) (show (w1.heap.size + 1) ≠ (w1.heap.size + 1 + 1) by omega) (.int .i64 (v0 : Nat))).other (a := ⟨(w1.heap.size + 1 + 1), a * 5 + 1, none⟩) (show (w1.heap.size + 1) ≠ (w1.heap.size + 1 + 1) by omega) (.int .i64 (v1 : Nat))).other (a := ⟨(w1.heap.size + 1 + 1), a * 5 + 2, none⟩) (show (w1.heap.size + 1) ≠ (w1.heap.size + 1 + 1) by omega) (.int .i64 (v2 : Nat))).other (a := ⟨(w1.heap.size + 1 + 1), a * 5 + 3, none⟩) (show (w1.heap.size + 1) ≠ (w1.heap.size + 1 + 1) by omega) (.int .i64 (v3 : Nat))).other (a := ⟨(w1.heap.size + 1 + 1), a * 5 + 4, none⟩) (show (w1.heap.size + 1) ≠ (w1.heap.size + 1 + 1) by omega) (.int .i64 (v4 : Nat)))
        have hB8 : Below w1.heap.size w1 w8 := hw8 ▸ (((((hB7.setCell (p := ⟨(w1.heap.size + 1 + 1), a * 5, none⟩) (show w1.heap.size ≤ (w1.heap.size + 1 + 1) by omega) _).setCell (p := ⟨(w1.heap.size + 1 + 1), a * 5 + 1, none⟩) (show w1.heap.size ≤ (w1.heap.size + 1 + 1) by omega) _).setCell (p := ⟨(w1.heap.size + 1 + 1), a * 5 + 2, none⟩) (show w1.heap.size ≤ (w1.heap.size + 1 + 1) by omega) _).setCell (p := ⟨(w1.heap.size + 1 + 1), a * 5 + 3, none⟩) (show w1.heap.size ≤ (w1.heap.size + 1 + 1) by omega) _).setCell (p := ⟨(w1.heap.size + 1 + 1), a * 5 + 4, none⟩) (show w1.heap.size ≤ (w1.heap.size + 1 + 1) by omega) _)
        have hP8 : Kp (w1.heap.size + 1 + 1 + 1) wr w8 := hw8 ▸ (((((hP7.set (a := ⟨(w1.heap.size + 1 + 1), a * 5, none⟩) (.inl (show (w1.heap.size + 1 + 1) < (w1.heap.size + 1 + 1 + 1) by omega)) _).set (a := ⟨(w1.heap.size + 1 + 1), a * 5 + 1, none⟩) (.inl (show (w1.heap.size + 1 + 1) < (w1.heap.size + 1 + 1 + 1) by omega)) _).set (a := ⟨(w1.heap.size + 1 + 1), a * 5 + 2, none⟩) (.inl (show (w1.heap.size + 1 + 1) < (w1.heap.size + 1 + 1 + 1) by omega)) _).set (a := ⟨(w1.heap.size + 1 + 1), a * 5 + 3, none⟩) (.inl (show (w1.heap.size + 1 + 1) < (w1.heap.size + 1 + 1 + 1) by omega)) _).set (a := ⟨(w1.heap.size + 1 + 1), a * 5 + 4, none⟩) (.inl (show (w1.heap.size + 1 + 1) < (w1.heap.size + 1 + 1 + 1) by omega)) _)
        have hR8 : w8.heap[w1.heap.size]? = wr.heap[w1.heap.size]? := by rw [← hw8]; exact ((Below.heap_setCell ((((w7.setCell ⟨(w1.heap.size + 1 + 1), a * 5, none⟩ (.int .i64 (v0 : Nat))).setCell ⟨(w1.heap.size + 1 + 1), a * 5 + 1, none⟩ (.int .i64 (v1 : Nat))).setCell ⟨(w1.heap.size + 1 + 1), a * 5 + 2, none⟩ (.int .i64 (v2 : Nat))).setCell ⟨(w1.heap.size + 1 + 1), a * 5 + 3, none⟩ (.int .i64 (v3 : Nat))) ⟨(w1.heap.size + 1 + 1), a * 5 + 4, none⟩ (.int .i64 (v4 : Nat)) (w1.heap.size) (show w1.heap.size ≠ (w1.heap.size + 1 + 1) by omega)).trans ((Below.heap_setCell (((w7.setCell ⟨(w1.heap.size + 1 + 1), a * 5, none⟩ (.int .i64 (v0 : Nat))).setCell ⟨(w1.heap.size + 1 + 1), a * 5 + 1, none⟩ (.int .i64 (v1 : Nat))).setCell ⟨(w1.heap.size + 1 + 1), a * 5 + 2, none⟩ (.int .i64 (v2 : Nat))) ⟨(w1.heap.size + 1 + 1), a * 5 + 3, none⟩ (.int .i64 (v3 : Nat)) (w1.heap.size) (show w1.heap.size ≠ (w1.heap.size + 1 + 1) by omega)).trans ((Below.heap_setCell ((w7.setCell ⟨(w1.heap.size + 1 + 1), a * 5, none⟩ (.int .i64 (v0 : Nat))).setCell ⟨(w1.heap.size + 1 + 1), a * 5 + 1, none⟩ (.int .i64 (v1 : Nat))) ⟨(w1.heap.size + 1 + 1), a * 5 + 2, none⟩ (.int .i64 (v2 : Nat)) (w1.heap.size) (show w1.heap.size ≠ (w1.heap.size + 1 + 1) by omega)).trans ((Below.heap_setCell (w7.setCell ⟨(w1.heap.size + 1 + 1), a * 5, none⟩ (.int .i64 (v0 : Nat))) ⟨(w1.heap.size + 1 + 1), a * 5 + 1, none⟩ (.int .i64 (v1 : Nat)) (w1.heap.size) (show w1.heap.size ≠ (w1.heap.size + 1 + 1) by omega)).trans (Below.heap_setCell w7 ⟨(w1.heap.size + 1 + 1), a * 5, none⟩ (.int .i64 (v0 : Nat)) (w1.heap.size) (show w1.heap.size ≠ (w1.heap.size + 1 + 1) by omega)))))).trans hR7
        have hpr8 := (hbox.later hB8 hbl).procs
        have hA8 := hA.kept hR8 hP8
        have s8 : (w1.heap.size + 1 + 1 + 1) ≤ w8.heap.size := by have := hP8.size; omega
        have hcl := clone_ok (M.vcs T i P) (wr.heap.size + 1) 0 P 5 w8 (M.vcs_length T i (by omega)) (by omega) hV8.lt (fun k hk => by
          rw [Nat.zero_add, ints_get, M.vcs_row T i (by omega) hk, ← M.vl_row T i (by omega), HV]
          exact hV8.cell (k := k) (by simp; omega))
        have HH : Hid (VRows T P n i (w1.heap.size + 1 + 1 + 1) w1.heap.size w8 ∧ RowAt 59 w8 (w1.heap.size + 1) (M.cvl T n (i + 1)) ∧ RowAt 60 w8 (w1.heap.size + 1 + 1) (M.kvl T (i + 1))) := ⟨hA8, hC8, hK8⟩
        clear hA8 hC8 hK8 hV8 hV7 hC7 hK7 hV6 hC6 hK6 hVS hP6 hP7 hR6 hR7 hR8 hB6 hB7 HV hin
        have hPn : (P : Int) ≤ 5 := hP5
        have hPn' : P ≤ 5 := by omega
        go_wp2_with fail
        refine hcl.mono ?_
        rintro e w9 ⟨p9, c9, rfl, ho9, hB9⟩
        clear g0 z0 zf0 l0 o0 of0 g1 z1 zf1 l1 o1 of1 g2 z2 zf2 l2 o2 of2 g3 z3 zf3 l3 o3 of3 g4 z4 zf4 l4 o4 of4 hw6 hw7 hw8  hcl
        obtain ⟨hA8, hC8, hK8⟩ := HH.out
        have hA9 := hA8.kept (hB9.block w1.heap.size (by omega)) ((Kp.refl _ _).below hB9)
        obtain ⟨v9, hv9, hf9⟩ := hA9.cell hlt
        have hAe : Hid _ := hA9.put hlt (show w1.heap.size < (w1.heap.size + 1 + 1 + 1) by omega) (owns_more ho9 s8)
        have hCe : Hid _ := (hC8.below hB9 (show (w1.heap.size + 1) < w8.heap.size by omega)).other (a := ⟨w1.heap.size, i, none⟩) (show (w1.heap.size + 1) ≠ w1.heap.size by omega) (.slice p9 P c9)
        have hKe : Hid _ := (hK8.below hB9 (show (w1.heap.size + 1 + 1) < w8.heap.size by omega)).other (a := ⟨w1.heap.size, i, none⟩) (show (w1.heap.size + 1 + 1) ≠ w1.heap.size by omega) (.slice p9 P c9)
        have hBe : Hid _ := (hB8.trans (hB9.mono hB8.size)).setCell (p := ⟨w1.heap.size, i, none⟩) (Nat.le_refl _) (.slice p9 P c9)
        clear hA8 hC8 hK8 hA9 ho9 HH hA hC hK
        go_wp2_with fail
        go_roundw
        case rel => exact ⟨i + 1, by go_num, by omega, hAe.out, hCe.out, hKe.out, hBe.out⟩
        case measure => simp [intOf]; omega
      · obtain ⟨j, hj⟩ : ∃ j : Nat, M.fm T i = j := ⟨(M.fm T i).toNat, by omega⟩
        rw [hj] at hp2
        have hji : j < i := by omega
        have e2 : (((j : Nat) : Int) != -1) = true := by simp
        have HJ : Hid (M.fm T i = (j : Nat)) := hj
        clear hfm hj
        obtain ⟨wa, hwa⟩ : ∃ wa, wr.alloc (.cells #[.int .i64 (a : Nat), .int .i64 (j : Nat)] 50) = wa := ⟨_, rfl⟩
        have sa : wa.heap.size = wr.heap.size + 1 := by subst hwa; simp
        have hKa : RowAt 60 wa (w1.heap.size + 1 + 1) _ := hwa ▸ hK.alloc _
        have hEa : wa.cell? ⟨wr.heap.size, 0, none⟩ = some (.int .i64 (a : Nat)) := hwa ▸ ev_cell0 rfl _ _
        have k0 := hKa.cell (k := a * 5) (by rw [M.kvl_length]; omega)
        have k1 := hKa.cell (k := a * 5 + 1) (by rw [M.kvl_length]; omega)
        have k2 := hKa.cell (k := a * 5 + 2) (by rw [M.kvl_length]; omega)
        have k3 := hKa.cell (k := a * 5 + 3) (by rw [M.kvl_length]; omega)
        have k4 := hKa.cell (k := a * 5 + 4) (by rw [M.kvl_length]; omega)
        rw [show M.row (M.kvl T i) (a * 5) = M.row (M.kvl T i) (a * 5 + 0) from rfl, M.kvl_at T i ha5 (by omega)] at k0
        rw [M.kvl_at T i ha5 (by omega)] at k1
        rw [M.kvl_at T i ha5 (by omega)] at k2
        rw [M.kvl_at T i ha5 (by omega)] at k3
        rw [M.kvl_at T i ha5 (by omega)] at k4
        obtain ⟨x0, hx0⟩ : ∃ x, M.kv T (a : Int) ((0 : Nat) : Int) i = x := ⟨_, rfl⟩
        have X0 : Hid (M.kv T (a : Int) 0 i = x0) := hx0
        have xb0 : x0 ≤ 24 := by have := M.kv_le T (a : Int) ((0 : Nat) : Int) i; omega
        rw [hx0] at k0
        clear hx0
        obtain ⟨x1, hx1⟩ : ∃ x, M.kv T (a : Int) ((1 : Nat) : Int) i = x := ⟨_, rfl⟩
        have X1 : Hid (M.kv T (a : Int) 1 i = x1) := hx1
        have xb1 : x1 ≤ 24 := by have := M.kv_le T (a : Int) ((1 : Nat) : Int) i; omega
        rw [hx1] at k1
        clear hx1
        obtain ⟨x2, hx2⟩ : ∃ x, M.kv T (a : Int) ((2 : Nat) : Int) i = x := ⟨_, rfl⟩
        have X2 : Hid (M.kv T (a : Int) 2 i = x2) := hx2
        have xb2 : x2 ≤ 24 := by have := M.kv_le T (a : Int) ((2 : Nat) : Int) i; omega
        rw [hx2] at k2
        clear hx2
        obtain ⟨x3, hx3⟩ : ∃ x, M.kv T (a : Int) ((3 : Nat) : Int) i = x := ⟨_, rfl⟩
        have X3 : Hid (M.kv T (a : Int) 3 i = x3) := hx3
        have xb3 : x3 ≤ 24 := by have := M.kv_le T (a : Int) ((3 : Nat) : Int) i; omega
        rw [hx3] at k3
        clear hx3
        obtain ⟨x4, hx4⟩ : ∃ x, M.kv T (a : Int) ((4 : Nat) : Int) i = x := ⟨_, rfl⟩
        have X4 : Hid (M.kv T (a : Int) 4 i = x4) := hx4
        have xb4 : x4 ≤ 24 := by have := M.kv_le T (a : Int) ((4 : Nat) : Int) i; omega
        rw [hx4] at k4
        clear hx4
        obtain ⟨wb, hwb⟩ : ∃ wb, wa.alloc (.cells #[.int .i64 (x0 : Nat), .int .i64 (x1 : Nat), .int .i64 (x2 : Nat), .int .i64 (x3 : Nat), .int .i64 (x4 : Nat)] 59) = wb := ⟨_, rfl⟩
        have sb : wb.heap.size = wr.heap.size + 1 + 1 := by subst hwb; simp [sa]
        have hVb : RowAt 59 wb (wr.heap.size + 1) [x0, x1, x2, x3, x4] := by subst hwb; unfold RowAt; rw [← sa, World.alloc_heap_new]; rfl
        have hBab : Below wr.heap.size wr wb := by rw [← hwb, ← hwa]; exact bel_al (bel_al (Below.refl _ _) _) _
        have hE0 : wb.cell? ⟨wr.heap.size, 0, none⟩ = some (.int .i64 (a : Nat)) := by rw [← hwb, ← hwa]; exact ((bel_al (Below.refl _ _) _).cell (p := ⟨wr.heap.size, 0, none⟩) (by simp)).trans (ev_cell0 rfl _ _)
        have hE1 : wb.cell? ⟨wr.heap.size, 1, none⟩ = some (.int .i64 (j : Nat)) := by rw [← hwb, ← hwa]; exact ((bel_al (Below.refl _ _) _).cell (p := ⟨wr.heap.size, 1, none⟩) (by simp)).trans (ev_cell1 rfl _ _)
        go_wp2_with fail
        refine (heard_bel _ _ true _ e2).mono ?_
        rintro e w3 ⟨rfl, hB3⟩
        have hB03 : Below wr.heap.size wr w3 := bel_on hBab hB3
        have hV3 : RowAt 59 w3 (wr.heap.size + 1) _ := hVb.below hB3 (by omega)
        have hF0 := (hB3.cell (p := ⟨wr.heap.size, 0, none⟩) (show wr.heap.size < wb.heap.size by omega)).trans hE0
        have hF1 := (hB3.cell (p := ⟨wr.heap.size, 1, none⟩) (show wr.heap.size < wb.heap.size by omega)).trans hE1
        have s3 : wr.heap.size + 1 < w3.heap.size := by have := hB3.size; omega
        clear hEa hwa hwb hKa hVb hE0 hE1 hB3 k0 k1 k2 k3 k4 hp1 hp2
        have hC3 : RowAt 59 w3 (w1.heap.size + 1) _ := hC.below hB03 hC.lt
        have c0 := hC3.cell (k := j * 5) (by rw [M.cvl_length]; omega)
        have c1 := hC3.cell (k := j * 5 + 1) (by rw [M.cvl_length]; omega)
        have c2 := hC3.cell (k := j * 5 + 2) (by rw [M.cvl_length]; omega)
        have c3 := hC3.cell (k := j * 5 + 3) (by rw [M.cvl_length]; omega)
        have c4 := hC3.cell (k := j * 5 + 4) (by rw [M.cvl_length]; omega)
        rw [show M.row (M.cvl T n i) (j * 5) = M.row (M.cvl T n i) (j * 5 + 0) from rfl, M.cvl_at T hji (by omega) (by omega)] at c0
        rw [M.cvl_at T hji (by omega) (by omega)] at c1
        rw [M.cvl_at T hji (by omega) (by omega)] at c2
        rw [M.cvl_at T hji (by omega) (by omega)] at c3
        rw [M.cvl_at T hji (by omega) (by omega)] at c4
        obtain ⟨y0, hy0⟩ : ∃ x, M.vc T j ((0 : Nat) : Int) = x := ⟨_, rfl⟩
        have Y0 : Hid (M.vc T j 0 = y0) := hy0
        have yb0 : y0 ≤ 24 := by have := M.vc_le T j ((0 : Nat) : Int); omega
        rw [hy0] at c0
        clear hy0
        obtain ⟨y1, hy1⟩ : ∃ x, M.vc T j ((1 : Nat) : Int) = x := ⟨_, rfl⟩
        have Y1 : Hid (M.vc T j 1 = y1) := hy1
        have yb1 : y1 ≤ 24 := by have := M.vc_le T j ((1 : Nat) : Int); omega
        rw [hy1] at c1
        clear hy1
        obtain ⟨y2, hy2⟩ : ∃ x, M.vc T j ((2 : Nat) : Int) = x := ⟨_, rfl⟩
        have Y2 : Hid (M.vc T j 2 = y2) := hy2
        have yb2 : y2 ≤ 24 := by have := M.vc_le T j ((2 : Nat) : Int); omega
        rw [hy2] at c2
        clear hy2
        obtain ⟨y3, hy3⟩ : ∃ x, M.vc T j ((3 : Nat) : Int) = x := ⟨_, rfl⟩
        have Y3 : Hid (M.vc T j 3 = y3) := hy3
        have yb3 : y3 ≤ 24 := by have := M.vc_le T j ((3 : Nat) : Int); omega
        rw [hy3] at c3
        clear hy3
        obtain ⟨y4, hy4⟩ : ∃ x, M.vc T j ((4 : Nat) : Int) = x := ⟨_, rfl⟩
        have Y4 : Hid (M.vc T j 4 = y4) := hy4
        have yb4 : y4 ≤ 24 := by have := M.vc_le T j ((4 : Nat) : Int); omega
        rw [hy4] at c4
        clear hy4
        have d0 := hV3.cell (k := 0) (by simp)
        have d1 := hV3.cell (k := 1) (by simp)
        have d2 := hV3.cell (k := 2) (by simp)
        have d3 := hV3.cell (k := 3) (by simp)
        have d4 := hV3.cell (k := 4) (by simp)
        change w3.cell? _ = some (.int .i64 (x0 : Nat)) at d0
        change w3.cell? _ = some (.int .i64 (x1 : Nat)) at d1
        change w3.cell? _ = some (.int .i64 (x2 : Nat)) at d2
        change w3.cell? _ = some (.int .i64 (x3 : Nat)) at d3
        change w3.cell? _ = some (.int .i64 (x4 : Nat)) at d4
        have hjn : (j : Int) < (n : Int) := by omega
        have hjn' : j < n := by omega
        go_wp2_with fail
        go_still_tail 6, (by kernel_rfl)
        go_wp2_with fail
        have hj5 := joined_ok x0 x1 x2 x3 x4 y0 y1 y2 y3 y4
        obtain ⟨u0, hu0⟩ : ∃ u, Nat.max x0 y0 = u := ⟨_, rfl⟩
        have ub0 : u0 ≤ 24 := by rw [← hu0]; exact Nat.max_le.2 ⟨xb0, yb0⟩
        obtain ⟨u1, hu1⟩ : ∃ u, Nat.max x1 y1 = u := ⟨_, rfl⟩
        have ub1 : u1 ≤ 24 := by rw [← hu1]; exact Nat.max_le.2 ⟨xb1, yb1⟩
        obtain ⟨u2, hu2⟩ : ∃ u, Nat.max x2 y2 = u := ⟨_, rfl⟩
        have ub2 : u2 ≤ 24 := by rw [← hu2]; exact Nat.max_le.2 ⟨xb2, yb2⟩
        obtain ⟨u3, hu3⟩ : ∃ u, Nat.max x3 y3 = u := ⟨_, rfl⟩
        have ub3 : u3 ≤ 24 := by rw [← hu3]; exact Nat.max_le.2 ⟨xb3, yb3⟩
        obtain ⟨u4, hu4⟩ : ∃ u, Nat.max x4 y4 = u := ⟨_, rfl⟩
        have ub4 : u4 ≤ 24 := by rw [← hu4]; exact Nat.max_le.2 ⟨xb4, yb4⟩
        rw [hu0, hu1, hu2, hu3, hu4] at hj5
        refine (hj5 _).mono ?_
        rintro e w4 ⟨rfl, hB4'⟩
        have hB4 : Below w3.heap.size w3 w4 := bel_on (Below.refl _ w3).drew hB4'
        have hV4 : RowAt 59 w4 (wr.heap.size + 1) _ := hV3.below hB4 s3
        have hG0 := (hB4.cell (p := ⟨wr.heap.size, 0, none⟩) (show wr.heap.size < w3.heap.size by omega)).trans hF0
        clear c0 c1 c2 c3 c4 d0 d1 d2 d3 d4 hB4' hj5
        have t0 := hV4.cell (k := 0) (by simp)
        change w4.cell? _ = some (.int .i64 (x0 : Nat)) at t0
        have tf0 := hV4.frozen 0
        have t1 := hV4.cell (k := 1) (by simp)
        change w4.cell? _ = some (.int .i64 (x1 : Nat)) at t1
        have tf1 := hV4.frozen 1
        have t2 := hV4.cell (k := 2) (by simp)
        change w4.cell? _ = some (.int .i64 (x2 : Nat)) at t2
        have tf2 := hV4.frozen 2
        have t3 := hV4.cell (k := 3) (by simp)
        change w4.cell? _ = some (.int .i64 (x3 : Nat)) at t3
        have tf3 := hV4.frozen 3
        have t4 := hV4.cell (k := 4) (by simp)
        change w4.cell? _ = some (.int .i64 (x4 : Nat)) at t4
        have tf4 := hV4.frozen 4
        obtain ⟨wS, hwS⟩ : ∃ wS, (((((w4.setCell ⟨(wr.heap.size + 1), 0, none⟩ (.int .i64 (u0 : Nat))).setCell ⟨(wr.heap.size + 1), 1, none⟩ (.int .i64 (u1 : Nat))).setCell ⟨(wr.heap.size + 1), 2, none⟩ (.int .i64 (u2 : Nat))).setCell ⟨(wr.heap.size + 1), 3, none⟩ (.int .i64 (u3 : Nat))).setCell ⟨(wr.heap.size + 1), 4, none⟩ (.int .i64 (u4 : Nat))) = wS := ⟨_, rfl⟩
        have hVS : RowAt 59 wS (wr.heap.size + 1) [u0, u1, u2, u3, u4] := by
          have := (((((hV4.set 0 u0).set 1 u1).set 2 u2).set 3 u3).set 4 u4)
          rw [hwS] at this
          exact this
        have hBS : Below wr.heap.size wr wS := by
          have h4 := bel_on hB03 hB4
          rw [← hwS]
          exact (((((h4.setCell (p := ⟨(wr.heap.size + 1), 0, none⟩) (show wr.heap.size ≤ wr.heap.size + 1 by omega) _).setCell (p := ⟨(wr.heap.size + 1), 1, none⟩) (show wr.heap.size ≤ wr.heap.size + 1 by omega) _).setCell (p := ⟨(wr.heap.size + 1), 2, none⟩) (show wr.heap.size ≤ wr.heap.size + 1 by omega) _).setCell (p := ⟨(wr.heap.size + 1), 3, none⟩) (show wr.heap.size ≤ wr.heap.size + 1 by omega) _).setCell (p := ⟨(wr.heap.size + 1), 4, none⟩) (show wr.heap.size ≤ wr.heap.size + 1 by omega) _)
        have hGS : wS.cell? ⟨wr.heap.size, 0, none⟩ = some (.int .i64 (a : Nat)) := by
          rw [← hwS]
          exact (cell_of_heap (p := ⟨wr.heap.size, 0, none⟩) ((Below.heap_setCell ((((w4.setCell ⟨(wr.heap.size + 1), 0, none⟩ (.int .i64 (u0 : Nat))).setCell ⟨(wr.heap.size + 1), 1, none⟩ (.int .i64 (u1 : Nat))).setCell ⟨(wr.heap.size + 1), 2, none⟩ (.int .i64 (u2 : Nat))).setCell ⟨(wr.heap.size + 1), 3, none⟩ (.int .i64 (u3 : Nat))) ⟨(wr.heap.size + 1), 4, none⟩ (.int .i64 (u4 : Nat)) (wr.heap.size) (show wr.heap.size ≠ wr.heap.size + 1 by omega)).trans ((Below.heap_setCell (((w4.setCell ⟨(wr.heap.size + 1), 0, none⟩ (.int .i64 (u0 : Nat))).setCell ⟨(wr.heap.size + 1), 1, none⟩ (.int .i64 (u1 : Nat))).setCell ⟨(wr.heap.size + 1), 2, none⟩ (.int .i64 (u2 : Nat))) ⟨(wr.heap.size + 1), 3, none⟩ (.int .i64 (u3 : Nat)) (wr.heap.size) (show wr.heap.size ≠ wr.heap.size + 1 by omega)).trans ((Below.heap_setCell ((w4.setCell ⟨(wr.heap.size + 1), 0, none⟩ (.int .i64 (u0 : Nat))).setCell ⟨(wr.heap.size + 1), 1, none⟩ (.int .i64 (u1 : Nat))) ⟨(wr.heap.size + 1), 2, none⟩ (.int .i64 (u2 : Nat)) (wr.heap.size) (show wr.heap.size ≠ wr.heap.size + 1 by omega)).trans ((Below.heap_setCell (w4.setCell ⟨(wr.heap.size + 1), 0, none⟩ (.int .i64 (u0 : Nat))) ⟨(wr.heap.size + 1), 1, none⟩ (.int .i64 (u1 : Nat)) (wr.heap.size) (show wr.heap.size ≠ wr.heap.size + 1 by omega)).trans (Below.heap_setCell w4 ⟨(wr.heap.size + 1), 0, none⟩ (.int .i64 (u0 : Nat)) (wr.heap.size) (show wr.heap.size ≠ wr.heap.size + 1 by omega))))))).trans hG0
        have sS : wr.heap.size + 1 < wS.heap.size := by have := hVS.lt; omega
        obtain ⟨v0, hv0⟩ : ∃ v, M.vc T i 0 = v := ⟨_, rfl⟩
        have V0 : v0 = u0 + if a = 0 then 1 else 0 := by rw [← hv0, M.vc_heard hji HJ.out, HA.out, X0.out, Y0.out, hu0]; split <;> split <;> omega
        obtain ⟨v1, hv1⟩ : ∃ v, M.vc T i 1 = v := ⟨_, rfl⟩
        have V1 : v1 = u1 + if a = 1 then 1 else 0 := by rw [← hv1, M.vc_heard hji HJ.out, HA.out, X1.out, Y1.out, hu1]; split <;> split <;> omega
        obtain ⟨v2, hv2⟩ : ∃ v, M.vc T i 2 = v := ⟨_, rfl⟩
        have V2 : v2 = u2 + if a = 2 then 1 else 0 := by rw [← hv2, M.vc_heard hji HJ.out, HA.out, X2.out, Y2.out, hu2]; split <;> split <;> omega
        obtain ⟨v3, hv3⟩ : ∃ v, M.vc T i 3 = v := ⟨_, rfl⟩
        have V3 : v3 = u3 + if a = 3 then 1 else 0 := by rw [← hv3, M.vc_heard hji HJ.out, HA.out, X3.out, Y3.out, hu3]; split <;> split <;> omega
        obtain ⟨v4, hv4⟩ : ∃ v, M.vc T i 4 = v := ⟨_, rfl⟩
        have V4 : v4 = u4 + if a = 4 then 1 else 0 := by rw [← hv4, M.vc_heard hji HJ.out, HA.out, X4.out, Y4.out, hu4]; split <;> split <;> omega
        clear hu0 hu1 hu2 hu3 hu4
        have HV : M.vl T i = [v0, v1, v2, v3, v4] := by unfold M.vl; rw [hv0, hv1, hv2, hv3, hv4]
        have hua : M.row [u0, u1, u2, u3, u4] a ≤ 24 := row5_le ha5 ub0 ub1 ub2 ub3 ub4
        have hcu := hVS.cell (k := a) ha5
        have hfu := hVS.frozen a
        obtain ⟨ua, hue⟩ : ∃ z, M.row [u0, u1, u2, u3, u4] a = z := ⟨_, rfl⟩
        obtain ⟨x, hx⟩ : ∃ x, ua + 1 = x := ⟨_, rfl⟩
        have hxi : (ua : Int) + 1 = (x : Int) := by omega
        have hin := M.inc_set (x := x) ha5 (by rw [hue]; exact hx) V0 V1 V2 V3 V4
        rw [hue] at hcu hua
        clear hue hx hv0 V0 hv1 V1 hv2 V2 hv3 V3 hv4 V4
        obtain ⟨w6, hw6⟩ : ∃ w6, wS.setCell ⟨(wr.heap.size + 1), a, none⟩ (.int .i64 (x : Nat)) = w6 := ⟨_, rfl⟩
        have hV6 : RowAt 59 w6 (wr.heap.size + 1) [v0, v1, v2, v3, v4] := by
          have := hVS.set a x
          rw [hin, hw6] at this
          exact this
        have hC6 : RowAt 59 w6 (w1.heap.size + 1) _ := hw6 ▸ (hC.below hBS hC.lt).other (a := ⟨(wr.heap.size + 1), a, none⟩) (show (w1.heap.size + 1) ≠ (wr.heap.size + 1) by omega) (.int .i64 (x : Nat))
        have hK6 : RowAt 60 w6 (w1.heap.size + 1 + 1) _ := hw6 ▸ (hK.below hBS hK.lt).other (a := ⟨(wr.heap.size + 1), a, none⟩) (show (w1.heap.size + 1 + 1) ≠ (wr.heap.size + 1) by omega) (.int .i64 (x : Nat))
        have hG6 : w6.cell? ⟨wr.heap.size, 0, none⟩ = some (.int .i64 (a : Nat)) := by rw [← hw6]; exact (cell_of_heap (p := ⟨wr.heap.size, 0, none⟩) (Below.heap_setCell _ ⟨(wr.heap.size + 1), a, none⟩ _ wr.heap.size (show wr.heap.size ≠ (wr.heap.size + 1) by omega))).trans hGS
        have hB6 : Below w1.heap.size w1 w6 := hw6 ▸ (hB.trans (hBS.mono hB.size)).setCell (p := ⟨(wr.heap.size + 1), a, none⟩) (show w1.heap.size ≤ (wr.heap.size + 1) by omega) _
        have hP6 : Kp (w1.heap.size + 1 + 1 + 1) wr w6 := hw6 ▸ ((Kp.refl _ _).below hBS).set (a := ⟨(wr.heap.size + 1), a, none⟩) (.inr (show wr.heap.size ≤ (wr.heap.size + 1) by omega)) _
        have hR6 : w6.heap[w1.heap.size]? = wr.heap[w1.heap.size]? := by rw [← hw6]; exact (Below.heap_setCell _ ⟨(wr.heap.size + 1), a, none⟩ _ w1.heap.size (show w1.heap.size ≠ (wr.heap.size + 1) by omega)).trans (hBS.block w1.heap.size (by omega))
        have g0 := hV6.cell (k := 0) (by simp)
        change w6.cell? _ = some (.int .i64 (v0 : Nat)) at g0
        have g1 := hV6.cell (k := 1) (by simp)
        change w6.cell? _ = some (.int .i64 (v1 : Nat)) at g1
        have g2 := hV6.cell (k := 2) (by simp)
        change w6.cell? _ = some (.int .i64 (v2 : Nat)) at g2
        have g3 := hV6.cell (k := 3) (by simp)
        change w6.cell? _ = some (.int .i64 (v3 : Nat)) at g3
        have g4 := hV6.cell (k := 4) (by simp)
        change w6.cell? _ = some (.int .i64 (v4 : Nat)) at g4
        have z0 := hC6.cell (k := i * 5) (by rw [M.cvl_length]; omega)
        have z1 := hC6.cell (k := i * 5 + 1) (by rw [M.cvl_length]; omega)
        have z2 := hC6.cell (k := i * 5 + 2) (by rw [M.cvl_length]; omega)
        have z3 := hC6.cell (k := i * 5 + 3) (by rw [M.cvl_length]; omega)
        have z4 := hC6.cell (k := i * 5 + 4) (by rw [M.cvl_length]; omega)
        have zf0 := hC6.frozen (i * 5)
        have zf1 := hC6.frozen (i * 5 + 1)
        have zf2 := hC6.frozen (i * 5 + 2)
        have zf3 := hC6.frozen (i * 5 + 3)
        have zf4 := hC6.frozen (i * 5 + 4)
        obtain ⟨zz0, hzz0⟩ : ∃ z, M.row (M.cvl T n i) (i * 5) = z := ⟨_, rfl⟩
        rw [hzz0] at z0
        clear hzz0
        obtain ⟨zz1, hzz1⟩ : ∃ z, M.row (M.cvl T n i) (i * 5 + 1) = z := ⟨_, rfl⟩
        rw [hzz1] at z1
        clear hzz1
        obtain ⟨zz2, hzz2⟩ : ∃ z, M.row (M.cvl T n i) (i * 5 + 2) = z := ⟨_, rfl⟩
        rw [hzz2] at z2
        clear hzz2
        obtain ⟨zz3, hzz3⟩ : ∃ z, M.row (M.cvl T n i) (i * 5 + 3) = z := ⟨_, rfl⟩
        rw [hzz3] at z3
        clear hzz3
        obtain ⟨zz4, hzz4⟩ : ∃ z, M.row (M.cvl T n i) (i * 5 + 4) = z := ⟨_, rfl⟩
        rw [hzz4] at z4
        clear hzz4
        obtain ⟨w7, hw7⟩ : ∃ w7, (((((w6.setCell ⟨(w1.heap.size + 1), i * 5, none⟩ (.int .i64 (v0 : Nat))).setCell ⟨(w1.heap.size + 1), i * 5 + 1, none⟩ (.int .i64 (v1 : Nat))).setCell ⟨(w1.heap.size + 1), i * 5 + 2, none⟩ (.int .i64 (v2 : Nat))).setCell ⟨(w1.heap.size + 1), i * 5 + 3, none⟩ (.int .i64 (v3 : Nat))).setCell ⟨(w1.heap.size + 1), i * 5 + 4, none⟩ (.int .i64 (v4 : Nat))) = w7 := ⟨_, rfl⟩
        have hC7 : RowAt 59 w7 (w1.heap.size + 1) (M.cvl T n (i + 1)) := by
          have : RowAt 59 (((((w6.setCell ⟨(w1.heap.size + 1), i * 5, none⟩ (.int .i64 (v0 : Nat))).setCell ⟨(w1.heap.size + 1), i * 5 + 1, none⟩ (.int .i64 (v1 : Nat))).setCell ⟨(w1.heap.size + 1), i * 5 + 2, none⟩ (.int .i64 (v2 : Nat))).setCell ⟨(w1.heap.size + 1), i * 5 + 3, none⟩ (.int .i64 (v3 : Nat))).setCell ⟨(w1.heap.size + 1), i * 5 + 4, none⟩ (.int .i64 (v4 : Nat))) (w1.heap.size + 1) (M.set5 (M.cvl T n i) (i * 5) v0 v1 v2 v3 v4) := (((((hC6.set (i * 5) v0).set (i * 5 + 1) v1).set (i * 5 + 2) v2).set (i * 5 + 3) v3).set (i * 5 + 4) v4)
          rw [M.cvl_set HV, hw7] at this
          exact this
        have hV7 : RowAt 59 w7 (wr.heap.size + 1) [v0, v1, v2, v3, v4] := hw7 ▸ (((((hV6.other (a := ⟨(w1.heap.size + 1), i * 5, none⟩) (show (wr.heap.size + 1) ≠ (w1.heap.size + 1) by omega) (.int .i64 (v0 : Nat))).other (a := ⟨(w1.heap.size + 1), i * 5 + 1, none⟩) (show (wr.heap.size + 1) ≠ (w1.heap.size + 1) by omega) (.int .i64 (v1 : Nat))).other (a := ⟨(w1.heap.size + 1), i * 5 + 2, none⟩) (show (wr.heap.size + 1) ≠ (w1.heap.size + 1) by omega) (.int .i64 (v2 : Nat))).other (a := ⟨(w1.heap.size + 1), i * 5 + 3, none⟩) (show (wr.heap.size + 1) ≠ (w1.heap.size + 1) by omega) (.int .i64 (v3 : Nat))).other (a := ⟨(w1.heap.size + 1), i * 5 + 4, none⟩) (show (wr.heap.size + 1) ≠ (w1.heap.size + 1) by omega) (.int .i64 (v4 : Nat)))
        have hK7 : RowAt 60 w7 (w1.heap.size + 1 + 1) _ := hw7 ▸ (((((hK6.other (a := ⟨(w1.heap.size + 1), i * 5, none⟩) (show (w1.heap.size + 1 + 1) ≠ (w1.heap.size + 1) by omega) (.int .i64 (v0 : Nat))).other (a := ⟨(w1.heap.size + 1), i * 5 + 1, none⟩) (show (w1.heap.size + 1 + 1) ≠ (w1.heap.size + 1) by omega) (.int .i64 (v1 : Nat))).other (a := ⟨(w1.heap.size + 1), i * 5 + 2, none⟩) (show (w1.heap.size + 1 + 1) ≠ (w1.heap.size + 1) by omega) (.int .i64 (v2 : Nat))).other (a := ⟨(w1.heap.size + 1), i * 5 + 3, none⟩) (show (w1.heap.size + 1 + 1) ≠ (w1.heap.size + 1) by omega) (.int .i64 (v3 : Nat))).other (a := ⟨(w1.heap.size + 1), i * 5 + 4, none⟩) (show (w1.heap.size + 1 + 1) ≠ (w1.heap.size + 1) by omega) (.int .i64 (v4 : Nat)))
        have hG7 : w7.cell? ⟨wr.heap.size, 0, none⟩ = some (.int .i64 (a : Nat)) := by rw [← hw7]; exact (cell_of_heap (p := ⟨wr.heap.size, 0, none⟩) ((Below.heap_setCell ((((w6.setCell ⟨(w1.heap.size + 1), i * 5, none⟩ (.int .i64 (v0 : Nat))).setCell ⟨(w1.heap.size + 1), i * 5 + 1, none⟩ (.int .i64 (v1 : Nat))).setCell ⟨(w1.heap.size + 1), i * 5 + 2, none⟩ (.int .i64 (v2 : Nat))).setCell ⟨(w1.heap.size + 1), i * 5 + 3, none⟩ (.int .i64 (v3 : Nat))) ⟨(w1.heap.size + 1), i * 5 + 4, none⟩ (.int .i64 (v4 : Nat)) (wr.heap.size) (show wr.heap.size ≠ (w1.heap.size + 1) by omega)).trans ((Below.heap_setCell (((w6.setCell ⟨(w1.heap.size + 1), i * 5, none⟩ (.int .i64 (v0 : Nat))).setCell ⟨(w1.heap.size + 1), i * 5 + 1, none⟩ (.int .i64 (v1 : Nat))).setCell ⟨(w1.heap.size + 1), i * 5 + 2, none⟩ (.int .i64 (v2 : Nat))) ⟨(w1.heap.size + 1), i * 5 + 3, none⟩ (.int .i64 (v3 : Nat)) (wr.heap.size) (show wr.heap.size ≠ (w1.heap.size + 1) by omega)).trans ((Below.heap_setCell ((w6.setCell ⟨(w1.heap.size + 1), i * 5, none⟩ (.int .i64 (v0 : Nat))).setCell ⟨(w1.heap.size + 1), i * 5 + 1, none⟩ (.int .i64 (v1 : Nat))) ⟨(w1.heap.size + 1), i * 5 + 2, none⟩ (.int .i64 (v2 : Nat)) (wr.heap.size) (show wr.heap.size ≠ (w1.heap.size + 1) by omega)).trans ((Below.heap_setCell (w6.setCell ⟨(w1.heap.size + 1), i * 5, none⟩ (.int .i64 (v0 : Nat))) ⟨(w1.heap.size + 1), i * 5 + 1, none⟩ (.int .i64 (v1 : Nat)) (wr.heap.size) (show wr.heap.size ≠ (w1.heap.size + 1) by omega)).trans (Below.heap_setCell w6 ⟨(w1.heap.size + 1), i * 5, none⟩ (.int .i64 (v0 : Nat)) (wr.heap.size) (show wr.heap.size ≠ (w1.heap.size + 1) by omega))))))).trans hG6
        have hB7 : Below w1.heap.size w1 w7 := hw7 ▸ (((((hB6.setCell (p := ⟨(w1.heap.size + 1), i * 5, none⟩) (show w1.heap.size ≤ (w1.heap.size + 1) by omega) _).setCell (p := ⟨(w1.heap.size + 1), i * 5 + 1, none⟩) (show w1.heap.size ≤ (w1.heap.size + 1) by omega) _).setCell (p := ⟨(w1.heap.size + 1), i * 5 + 2, none⟩) (show w1.heap.size ≤ (w1.heap.size + 1) by omega) _).setCell (p := ⟨(w1.heap.size + 1), i * 5 + 3, none⟩) (show w1.heap.size ≤ (w1.heap.size + 1) by omega) _).setCell (p := ⟨(w1.heap.size + 1), i * 5 + 4, none⟩) (show w1.heap.size ≤ (w1.heap.size + 1) by omega) _)
        have hP7 : Kp (w1.heap.size + 1 + 1 + 1) wr w7 := hw7 ▸ (((((hP6.set (a := ⟨(w1.heap.size + 1), i * 5, none⟩) (.inl (show (w1.heap.size + 1) < (w1.heap.size + 1 + 1 + 1) by omega)) _).set (a := ⟨(w1.heap.size + 1), i * 5 + 1, none⟩) (.inl (show (w1.heap.size + 1) < (w1.heap.size + 1 + 1 + 1) by omega)) _).set (a := ⟨(w1.heap.size + 1), i * 5 + 2, none⟩) (.inl (show (w1.heap.size + 1) < (w1.heap.size + 1 + 1 + 1) by omega)) _).set (a := ⟨(w1.heap.size + 1), i * 5 + 3, none⟩) (.inl (show (w1.heap.size + 1) < (w1.heap.size + 1 + 1 + 1) by omega)) _).set (a := ⟨(w1.heap.size + 1), i * 5 + 4, none⟩) (.inl (show (w1.heap.size + 1) < (w1.heap.size + 1 + 1 + 1) by omega)) _)
        have hR7 : w7.heap[w1.heap.size]? = wr.heap[w1.heap.size]? := by rw [← hw7]; exact ((Below.heap_setCell ((((w6.setCell ⟨(w1.heap.size + 1), i * 5, none⟩ (.int .i64 (v0 : Nat))).setCell ⟨(w1.heap.size + 1), i * 5 + 1, none⟩ (.int .i64 (v1 : Nat))).setCell ⟨(w1.heap.size + 1), i * 5 + 2, none⟩ (.int .i64 (v2 : Nat))).setCell ⟨(w1.heap.size + 1), i * 5 + 3, none⟩ (.int .i64 (v3 : Nat))) ⟨(w1.heap.size + 1), i * 5 + 4, none⟩ (.int .i64 (v4 : Nat)) (w1.heap.size) (show w1.heap.size ≠ (w1.heap.size + 1) by omega)).trans ((Below.heap_setCell (((w6.setCell ⟨(w1.heap.size + 1), i * 5, none⟩ (.int .i64 (v0 : Nat))).setCell ⟨(w1.heap.size + 1), i * 5 + 1, none⟩ (.int .i64 (v1 : Nat))).setCell ⟨(w1.heap.size + 1), i * 5 + 2, none⟩ (.int .i64 (v2 : Nat))) ⟨(w1.heap.size + 1), i * 5 + 3, none⟩ (.int .i64 (v3 : Nat)) (w1.heap.size) (show w1.heap.size ≠ (w1.heap.size + 1) by omega)).trans ((Below.heap_setCell ((w6.setCell ⟨(w1.heap.size + 1), i * 5, none⟩ (.int .i64 (v0 : Nat))).setCell ⟨(w1.heap.size + 1), i * 5 + 1, none⟩ (.int .i64 (v1 : Nat))) ⟨(w1.heap.size + 1), i * 5 + 2, none⟩ (.int .i64 (v2 : Nat)) (w1.heap.size) (show w1.heap.size ≠ (w1.heap.size + 1) by omega)).trans ((Below.heap_setCell (w6.setCell ⟨(w1.heap.size + 1), i * 5, none⟩ (.int .i64 (v0 : Nat))) ⟨(w1.heap.size + 1), i * 5 + 1, none⟩ (.int .i64 (v1 : Nat)) (w1.heap.size) (show w1.heap.size ≠ (w1.heap.size + 1) by omega)).trans (Below.heap_setCell w6 ⟨(w1.heap.size + 1), i * 5, none⟩ (.int .i64 (v0 : Nat)) (w1.heap.size) (show w1.heap.size ≠ (w1.heap.size + 1) by omega)))))).trans hR6
        have l0 := hV7.cell (k := 0) (by simp)
        change w7.cell? _ = some (.int .i64 (v0 : Nat)) at l0
        have l1 := hV7.cell (k := 1) (by simp)
        change w7.cell? _ = some (.int .i64 (v1 : Nat)) at l1
        have l2 := hV7.cell (k := 2) (by simp)
        change w7.cell? _ = some (.int .i64 (v2 : Nat)) at l2
        have l3 := hV7.cell (k := 3) (by simp)
        change w7.cell? _ = some (.int .i64 (v3 : Nat)) at l3
        have l4 := hV7.cell (k := 4) (by simp)
        change w7.cell? _ = some (.int .i64 (v4 : Nat)) at l4
        have o0 := hK7.cell (k := a * 5) (by rw [M.kvl_length]; omega)
        have o1 := hK7.cell (k := a * 5 + 1) (by rw [M.kvl_length]; omega)
        have o2 := hK7.cell (k := a * 5 + 2) (by rw [M.kvl_length]; omega)
        have o3 := hK7.cell (k := a * 5 + 3) (by rw [M.kvl_length]; omega)
        have o4 := hK7.cell (k := a * 5 + 4) (by rw [M.kvl_length]; omega)
        have of0 := hK7.frozen (a * 5)
        have of1 := hK7.frozen (a * 5 + 1)
        have of2 := hK7.frozen (a * 5 + 2)
        have of3 := hK7.frozen (a * 5 + 3)
        have of4 := hK7.frozen (a * 5 + 4)
        obtain ⟨oo0, hoo0⟩ : ∃ z, M.row (M.kvl T i) (a * 5) = z := ⟨_, rfl⟩
        rw [hoo0] at o0
        clear hoo0
        obtain ⟨oo1, hoo1⟩ : ∃ z, M.row (M.kvl T i) (a * 5 + 1) = z := ⟨_, rfl⟩
        rw [hoo1] at o1
        clear hoo1
        obtain ⟨oo2, hoo2⟩ : ∃ z, M.row (M.kvl T i) (a * 5 + 2) = z := ⟨_, rfl⟩
        rw [hoo2] at o2
        clear hoo2
        obtain ⟨oo3, hoo3⟩ : ∃ z, M.row (M.kvl T i) (a * 5 + 3) = z := ⟨_, rfl⟩
        rw [hoo3] at o3
        clear hoo3
        obtain ⟨oo4, hoo4⟩ : ∃ z, M.row (M.kvl T i) (a * 5 + 4) = z := ⟨_, rfl⟩
        rw [hoo4] at o4
        clear hoo4
        obtain ⟨w8, hw8⟩ : ∃ w8, (((((w7.setCell ⟨(w1.heap.size + 1 + 1), a * 5, none⟩ (.int .i64 (v0 : Nat))).setCell ⟨(w1.heap.size + 1 + 1), a * 5 + 1, none⟩ (.int .i64 (v1 : Nat))).setCell ⟨(w1.heap.size + 1 + 1), a * 5 + 2, none⟩ (.int .i64 (v2 : Nat))).setCell ⟨(w1.heap.size + 1 + 1), a * 5 + 3, none⟩ (.int .i64 (v3 : Nat))).setCell ⟨(w1.heap.size + 1 + 1), a * 5 + 4, none⟩ (.int .i64 (v4 : Nat))) = w8 := ⟨_, rfl⟩
        have hK8 : RowAt 60 w8 (w1.heap.size + 1 + 1) (M.kvl T (i + 1)) := by
          have : RowAt 60 (((((w7.setCell ⟨(w1.heap.size + 1 + 1), a * 5, none⟩ (.int .i64 (v0 : Nat))).setCell ⟨(w1.heap.size + 1 + 1), a * 5 + 1, none⟩ (.int .i64 (v1 : Nat))).setCell ⟨(w1.heap.size + 1 + 1), a * 5 + 2, none⟩ (.int .i64 (v2 : Nat))).setCell ⟨(w1.heap.size + 1 + 1), a * 5 + 3, none⟩ (.int .i64 (v3 : Nat))).setCell ⟨(w1.heap.size + 1 + 1), a * 5 + 4, none⟩ (.int .i64 (v4 : Nat))) (w1.heap.size + 1 + 1) (M.set5 (M.kvl T i) (a * 5) v0 v1 v2 v3 v4) := (((((hK7.set (a * 5) v0).set (a * 5 + 1) v1).set (a * 5 + 2) v2).set (a * 5 + 3) v3).set (a * 5 + 4) v4)
          rw [M.kvl_set HA.out HV, hw8] at this
          exact this
        have hV8 : RowAt 59 w8 (wr.heap.size + 1) [v0, v1, v2, v3, v4] := hw8 ▸ (((((hV7.other (a := ⟨(w1.heap.size + 1 + 1), a * 5, none⟩) (show (wr.heap.size + 1) ≠ (w1.heap.size + 1 + 1) by omega) (.int .i64 (v0 : Nat))).other (a := ⟨(w1.heap.size + 1 + 1), a * 5 + 1, none⟩) (show (wr.heap.size + 1) ≠ (w1.heap.size + 1 + 1) by omega) (.int .i64 (v1 : Nat))).other (a := ⟨(w1.heap.size + 1 + 1), a * 5 + 2, none⟩) (show (wr.heap.size + 1) ≠ (w1.heap.size + 1 + 1) by omega) (.int .i64 (v2 : Nat))).other (a := ⟨(w1.heap.size + 1 + 1), a * 5 + 3, none⟩) (show (wr.heap.size + 1) ≠ (w1.heap.size + 1 + 1) by omega) (.int .i64 (v3 : Nat))).other (a := ⟨(w1.heap.size + 1 + 1), a * 5 + 4, none⟩) (show (wr.heap.size + 1) ≠ (w1.heap.size + 1 + 1) by omega) (.int .i64 (v4 : Nat)))
        have hC8 : RowAt 59 w8 (w1.heap.size + 1) _ := hw8 ▸ (((((hC7.other (a := ⟨(w1.heap.size + 1 + 1), a * 5, none⟩) (show (w1.heap.size + 1) ≠ (w1.heap.size + 1 + 1) by omega) (.int .i64 (v0 : Nat))).other (a := ⟨(w1.heap.size + 1 + 1), a * 5 + 1, none⟩) (show (w1.heap.size + 1) ≠ (w1.heap.size + 1 + 1) by omega) (.int .i64 (v1 : Nat))).other (a := ⟨(w1.heap.size + 1 + 1), a * 5 + 2, none⟩) (show (w1.heap.size + 1) ≠ (w1.heap.size + 1 + 1) by omega) (.int .i64 (v2 : Nat))).other (a := ⟨(w1.heap.size + 1 + 1), a * 5 + 3, none⟩) (show (w1.heap.size + 1) ≠ (w1.heap.size + 1 + 1) by omega) (.int .i64 (v3 : Nat))).other (a := ⟨(w1.heap.size + 1 + 1), a * 5 + 4, none⟩) (show (w1.heap.size + 1) ≠ (w1.heap.size + 1 + 1) by omega) (.int .i64 (v4 : Nat)))
        have hB8 : Below w1.heap.size w1 w8 := hw8 ▸ (((((hB7.setCell (p := ⟨(w1.heap.size + 1 + 1), a * 5, none⟩) (show w1.heap.size ≤ (w1.heap.size + 1 + 1) by omega) _).setCell (p := ⟨(w1.heap.size + 1 + 1), a * 5 + 1, none⟩) (show w1.heap.size ≤ (w1.heap.size + 1 + 1) by omega) _).setCell (p := ⟨(w1.heap.size + 1 + 1), a * 5 + 2, none⟩) (show w1.heap.size ≤ (w1.heap.size + 1 + 1) by omega) _).setCell (p := ⟨(w1.heap.size + 1 + 1), a * 5 + 3, none⟩) (show w1.heap.size ≤ (w1.heap.size + 1 + 1) by omega) _).setCell (p := ⟨(w1.heap.size + 1 + 1), a * 5 + 4, none⟩) (show w1.heap.size ≤ (w1.heap.size + 1 + 1) by omega) _)
        have hP8 : Kp (w1.heap.size + 1 + 1 + 1) wr w8 := hw8 ▸ (((((hP7.set (a := ⟨(w1.heap.size + 1 + 1), a * 5, none⟩) (.inl (show (w1.heap.size + 1 + 1) < (w1.heap.size + 1 + 1 + 1) by omega)) _).set (a := ⟨(w1.heap.size + 1 + 1), a * 5 + 1, none⟩) (.inl (show (w1.heap.size + 1 + 1) < (w1.heap.size + 1 + 1 + 1) by omega)) _).set (a := ⟨(w1.heap.size + 1 + 1), a * 5 + 2, none⟩) (.inl (show (w1.heap.size + 1 + 1) < (w1.heap.size + 1 + 1 + 1) by omega)) _).set (a := ⟨(w1.heap.size + 1 + 1), a * 5 + 3, none⟩) (.inl (show (w1.heap.size + 1 + 1) < (w1.heap.size + 1 + 1 + 1) by omega)) _).set (a := ⟨(w1.heap.size + 1 + 1), a * 5 + 4, none⟩) (.inl (show (w1.heap.size + 1 + 1) < (w1.heap.size + 1 + 1 + 1) by omega)) _)
        have hR8 : w8.heap[w1.heap.size]? = wr.heap[w1.heap.size]? := by rw [← hw8]; exact ((Below.heap_setCell ((((w7.setCell ⟨(w1.heap.size + 1 + 1), a * 5, none⟩ (.int .i64 (v0 : Nat))).setCell ⟨(w1.heap.size + 1 + 1), a * 5 + 1, none⟩ (.int .i64 (v1 : Nat))).setCell ⟨(w1.heap.size + 1 + 1), a * 5 + 2, none⟩ (.int .i64 (v2 : Nat))).setCell ⟨(w1.heap.size + 1 + 1), a * 5 + 3, none⟩ (.int .i64 (v3 : Nat))) ⟨(w1.heap.size + 1 + 1), a * 5 + 4, none⟩ (.int .i64 (v4 : Nat)) (w1.heap.size) (show w1.heap.size ≠ (w1.heap.size + 1 + 1) by omega)).trans ((Below.heap_setCell (((w7.setCell ⟨(w1.heap.size + 1 + 1), a * 5, none⟩ (.int .i64 (v0 : Nat))).setCell ⟨(w1.heap.size + 1 + 1), a * 5 + 1, none⟩ (.int .i64 (v1 : Nat))).setCell ⟨(w1.heap.size + 1 + 1), a * 5 + 2, none⟩ (.int .i64 (v2 : Nat))) ⟨(w1.heap.size + 1 + 1), a * 5 + 3, none⟩ (.int .i64 (v3 : Nat)) (w1.heap.size) (show w1.heap.size ≠ (w1.heap.size + 1 + 1) by omega)).trans ((Below.heap_setCell ((w7.setCell ⟨(w1.heap.size + 1 + 1), a * 5, none⟩ (.int .i64 (v0 : Nat))).setCell ⟨(w1.heap.size + 1 + 1), a * 5 + 1, none⟩ (.int .i64 (v1 : Nat))) ⟨(w1.heap.size + 1 + 1), a * 5 + 2, none⟩ (.int .i64 (v2 : Nat)) (w1.heap.size) (show w1.heap.size ≠ (w1.heap.size + 1 + 1) by omega)).trans ((Below.heap_setCell (w7.setCell ⟨(w1.heap.size + 1 + 1), a * 5, none⟩ (.int .i64 (v0 : Nat))) ⟨(w1.heap.size + 1 + 1), a * 5 + 1, none⟩ (.int .i64 (v1 : Nat)) (w1.heap.size) (show w1.heap.size ≠ (w1.heap.size + 1 + 1) by omega)).trans (Below.heap_setCell w7 ⟨(w1.heap.size + 1 + 1), a * 5, none⟩ (.int .i64 (v0 : Nat)) (w1.heap.size) (show w1.heap.size ≠ (w1.heap.size + 1 + 1) by omega)))))).trans hR7
        have hpr8 := (hbox.later hB8 hbl).procs
        have hA8 := hA.kept hR8 hP8
        have s8 : (w1.heap.size + 1 + 1 + 1) ≤ w8.heap.size := by have := hP8.size; omega
        have hcl := clone_ok (M.vcs T i P) (wr.heap.size + 1) 0 P 5 w8 (M.vcs_length T i (by omega)) (by omega) hV8.lt (fun k hk => by
          rw [Nat.zero_add, ints_get, M.vcs_row T i (by omega) hk, ← M.vl_row T i (by omega), HV]
          exact hV8.cell (k := k) (by simp; omega))
        have HH : Hid (VRows T P n i (w1.heap.size + 1 + 1 + 1) w1.heap.size w8 ∧ RowAt 59 w8 (w1.heap.size + 1) (M.cvl T n (i + 1)) ∧ RowAt 60 w8 (w1.heap.size + 1 + 1) (M.kvl T (i + 1))) := ⟨hA8, hC8, hK8⟩
        clear hA8 hC8 hK8 hV8 hV7 hC7 hK7 hV6 hC6 hK6 hVS hP6 hP7 hR6 hR7 hR8 hB6 hB7 HV hin
        have hPn : (P : Int) ≤ 5 := hP5
        have hPn' : P ≤ 5 := by omega
        go_wp2_with fail
        refine hcl.mono ?_
        rintro e w9 ⟨p9, c9, rfl, ho9, hB9⟩
        clear g0 z0 zf0 l0 o0 of0 g1 z1 zf1 l1 o1 of1 g2 z2 zf2 l2 o2 of2 g3 z3 zf3 l3 o3 of3 g4 z4 zf4 l4 o4 of4 hw6 hw7 hw8 hwS hcl
        obtain ⟨hA8, hC8, hK8⟩ := HH.out
        have hA9 := hA8.kept (hB9.block w1.heap.size (by omega)) ((Kp.refl _ _).below hB9)
        obtain ⟨v9, hv9, hf9⟩ := hA9.cell hlt
        have hAe : Hid _ := hA9.put hlt (show w1.heap.size < (w1.heap.size + 1 + 1 + 1) by omega) (owns_more ho9 s8)
        have hCe : Hid _ := (hC8.below hB9 (show (w1.heap.size + 1) < w8.heap.size by omega)).other (a := ⟨w1.heap.size, i, none⟩) (show (w1.heap.size + 1) ≠ w1.heap.size by omega) (.slice p9 P c9)
        have hKe : Hid _ := (hK8.below hB9 (show (w1.heap.size + 1 + 1) < w8.heap.size by omega)).other (a := ⟨w1.heap.size, i, none⟩) (show (w1.heap.size + 1 + 1) ≠ w1.heap.size by omega) (.slice p9 P c9)
        have hBe : Hid _ := (hB8.trans (hB9.mono hB8.size)).setCell (p := ⟨w1.heap.size, i, none⟩) (Nat.le_refl _) (.slice p9 P c9)
        clear hA8 hC8 hK8 hA9 ho9 HH hA hC hK
        go_wp2_with fail
        go_roundw
        case rel => exact ⟨i + 1, by go_num, by omega, hAe.out, hCe.out, hKe.out, hBe.out⟩
        case measure => simp [intOf]; omega
    · obtain rfl : i = n := by omega
      go_wp2_with fail
      go_ret2
      exact ⟨w1.heap.size, (w1.heap.size + 1 + 1 + 1), rfl, hA, hC1.size, by omega, bel_on hC1 hB⟩
end Go.Proofs.YtnofgmbpkgnciaaDoor
