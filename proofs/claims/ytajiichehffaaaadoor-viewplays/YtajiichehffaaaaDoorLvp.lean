/- Anything that is begun, done, and committed (law ViewPlays), the walk; written by mk_lvp.py. -/
import Derived.Test.YtajiichehffaaaaDoorLvp0
namespace Go.Proofs.YtajiichehffaaaaDoor
open Go.RowKit
theorem call_two {P : Program} {f : Nat} {q : Value} (z : Nat) {W : World} {Q : Ending → World → Prop} (h : Calls P f #[q, .int .i64 (z : Nat)] W Q) : Calls P f #[q, .int .i64 (z : Nat)] W Q := h
/-- how things stand at the end: besides both stores, the four rows of edges -/
structure PE (w : World) (S B : Nat) (O : Nat → Prop) (s : M.Vw) (D : List Dz) (st : Nat) (p : Option Addr) (c A1 B1 A2 B2 : Nat) (wr : World) : Prop where
  pv : PV w S B O s D st p c wr
  r1 : RowAt 3 wr A1 (M.behR s)
  r2 : RowAt 3 wr B1 (M.ovR s)
  r3 : RowAt 3 wr A2 (M.behR s)
  r4 : RowAt 3 wr B2 (M.ovR s)
theorem PE.later {w : World} {S B : Nat} {O : Nat → Prop} {s : M.Vw} {D : List Dz} {st : Nat} {p : Option Addr} {c A1 B1 A2 B2 : Nat} {wr w1 : World} (h : PE w S B O s D st p c A1 B1 A2 B2 wr) (hb : Below wr.heap.size wr w1) : PE w S B O s D st p c A1 B1 A2 B2 w1 :=
  ⟨h.pv.later hb, h.r1.below hb h.r1.lt, h.r2.below hb h.r2.lt, h.r3.below hb h.r3.lt, h.r4.below hb h.r4.lt⟩
set_option maxRecDepth 100000 in
set_option maxHeartbeats 40000000 in
theorem vp_walk (zs : List Dz) (p : Option Addr) (n cap : Nat) (w : World) (he : Env w) (hty : Ety w) (hl : zs.length = n) (_ : n ≤ maxLen) (hc : HasD zs p w) :
    Calls Tryd.prog 6 #[.slice p n cap] w fun e w' => e = .returned (.bool true) ∧ Below w.heap.size w w' := by
  have HY : Hid (Ety w) := hty
  have HE : Hid (Env w) := he
  have HC : Hid (HasD zs p w) := hc
  clear hc hty he
  go_enter Tryd.func6, Tryd.ntmps6
  go_wp2_with fail
  refine (vnew_ok (O := fun k => k = w.heap.size) w rfl).mono ?_
  rintro e w2 ⟨S, hS, rfl, hT2, hB2⟩
  rw [← hS] at hT2
  have P3 : Hid _ := PV.start hT2 (by omega) hB2
  obtain ⟨B, hBB⟩ : ∃ B, w2.heap.size = B := ⟨_, rfl⟩
  rw [hBB] at P3
  clear hT2 hB2 hS
  go_wp2_with fail
  clear hBB
  go_loopw [5] (fun u wr => ∃ (i : Nat) (O : Nat → Prop) (s : M.Vw) (D : List Dz) (st : Nat) (pa : Option Addr) (ca : Nat), u = .int .i64 (i : Nat) ∧ i ≤ n ∧ i ≤ 60 ∧ D.length ≤ i ∧ Hid (PV w S B O s D st pa ca wr)) (fun u _ => 60 - (intOf u).toNat)
  case atStart => exact ⟨0, _, _, _, _, _, _, rfl, Nat.zero_le _, Nat.zero_le _, Nat.le_refl _, P3⟩
  case round =>
    clear P3
    obtain ⟨i, O, s, D, st, pa, ca, rfl, hi, hi2, hDi, HP⟩ := hrel
    by_cases hlt : i < n ∧ i < 60
    · obtain ⟨hlt1, hlt2⟩ := hlt
      have hii : (i : Int) < n := by omega
      have hi60 : (i : Int) < 60 := by omega
      obtain ⟨bq, oq, eq, hd⟩ := (HC.out.later HP.out.bl) i (by omega)
      subst eq
      obtain ⟨⟨k, t, o, x⟩, hz⟩ : ∃ d, dAt zs i = d := ⟨_, rfl⟩
      rw [hz] at hd
      have HZ : Hid (dAt zs i = ⟨k, t, o, x⟩) := hz
      have c0 := hd.c0
      have c1 := hd.c1
      have c2 := hd.c2
      have c3 := hd.c3
      have hbq := hd.lt
      simp only at c0 c1 c2 c3
      obtain ⟨s', hs'⟩ : ∃ s', (vwZ s k t o x).1 = s' := ⟨_, rfl⟩
      obtain ⟨td, htd⟩ : ∃ td, (vwZ s k t o x).2.1 = td := ⟨_, rfl⟩
      obtain ⟨cd, hcd⟩ : ∃ cd, (vwZ s k t o x).2.2 = cd := ⟨_, rfl⟩
      have HV3 : Hid ((vwZ s k t o x).1 = s' ∧ (vwZ s k t o x).2.1 = td ∧ (vwZ s k t o x).2.2 = cd) := ⟨hs', htd, hcd⟩
      have lB := HP.out.rs.lt
      obtain ⟨L, hL⟩ : ∃ L, D.length = L := ⟨_, rfl⟩
      have HL : Hid (D.length = L) := hL
      have hmvc : ∀ W', Below wr.heap.size wr W' → Calls Tryd.prog 16 #[.agg #[.slice pa L ca, .int .i64 (st : Nat)], .agg #[.int .i64 k, .int .i64 t, .int .i64 o, .int .i64 x]] W' fun e w' => ∃ D' st' p' c' L', Hid (D'.length = L' ∧ VD s' D' st' ∧ D'.length ≤ i + 1) ∧ e = .returned (.tuple #[.agg #[.slice p' L' c', .int .i64 (st' : Nat)], .int .i64 td, .int .i64 (cd : Nat)]) ∧ Hid (RD (fun j => ¬ (O j ∧ j < wr.heap.size) ∧ j ≠ B ∧ (wr.heap.size < W'.heap.size → j ≠ wr.heap.size)) D' p' c' w') ∧ Hid (Below wr.heap.size wr w') ∧ Hid (RS wr.heap.size 0 0 none 0 W' → RS wr.heap.size 0 0 none 0 w') ∧ Hid (W'.heap.size ≤ w'.heap.size) ∧ (∀ j, wr.heap.size < W'.heap.size → w'.cell? ⟨wr.heap.size, j, none⟩ = W'.cell? ⟨wr.heap.size, j, none⟩) ∧ (∀ j, wr.heap.size < W'.heap.size → w'.frozen? ⟨wr.heap.size, j, none⟩ = W'.frozen? ⟨wr.heap.size, j, none⟩) := by
        intro W' hBW
        have sW := hBW.size
        have hR : RD (fun j => ¬ (O j ∧ j < wr.heap.size) ∧ j ≠ B ∧ (wr.heap.size < W'.heap.size → j ≠ wr.heap.size)) D pa ca W' := (HP.out.rd.mono (fun j hj hg => ⟨fun x => hg.1 x.1, hg.2, fun _ => by omega⟩)).later hBW
        have hG : ∀ j, W'.heap.size ≤ j → ¬ (O j ∧ j < wr.heap.size) ∧ j ≠ B ∧ (wr.heap.size < W'.heap.size → j ≠ wr.heap.size) := fun j hj => ⟨fun x => by omega, by omega, fun _ => by omega⟩
        have hc : Calls Tryd.prog 16 #[rsV st D pa ca, dvV k t o x] W' (StepV (fun j => ¬ (O j ∧ j < wr.heap.size) ∧ j ≠ B ∧ (wr.heap.size < W'.heap.size → j ≠ wr.heap.size)) s D k t o x W') := by
          cases e0 : vdIn k t o x with
          | false => exact rv_bad k t o x pa ca W' hR hG HP.out.vd e0
          | true =>
            have ht := (vdIn_true e0).2.1
            obtain ⟨t0, rfl⟩ : ∃ m : Nat, t = m := ⟨t.toNat, by omega⟩
            exact rv_good k o x t0 pa ca W' hR hG HP.out.vd (by omega) e0
        simp only [rsV] at hc
        rw [HL.out] at hc
        refine hc.mono ?_
        rintro e w' ⟨D', st', p', c', rfl, hR', hV', hl', hB'⟩
        rw [HV3.out.1] at hV'
        rw [HV3.out.2.1, HV3.out.2.2]
        exact ⟨D', st', p', c', D'.length, ⟨rfl, hV', by omega⟩, rfl, hR', bel_on hBW hB', (fun hL => hL.below hB' : RS wr.heap.size 0 0 none 0 W' → RS wr.heap.size 0 0 none 0 w'), hB'.size, fun j hj => hB'.cell (p := ⟨wr.heap.size, j, none⟩) hj, fun j hj => hB'.frozen (p := ⟨wr.heap.size, j, none⟩) hj⟩
      have l0 := HP.out.rs.c0
      rw [hL] at l0
      have l1 := HP.out.rs.c1
      clear hz hd hs' htd hcd hL
      go_wp2_with fail
      go_cut [6, 7, 8] from 35 to 44 (fun u6 u7 u8 w' => ∃ (C : Nat) (D' : List Dz) (st' : Nat) (p' : Option Addr) (c' : Nat), u6 = .pointer (some ⟨C, 0, none⟩) ∧ u7 = .int .i64 td ∧ u8 = .int .i64 (cd : Nat) ∧ Hid (CutV wr O B s' D' st' C p' c' w' ∧ D'.length ≤ i + 1))
      case first =>
        go_region_with (first | (go_at_call 16; refine (hmvc _ (by repeat first | exact Below.refl _ _ | apply bel_al | apply Below.drew)).mono ?_; rintro e w6 ⟨D6, st6, p6, c6, L6, HD6, rfl, hR6, hB6, hL6, hs6, hc6, hf6⟩))
        all_goals (go_wp2_with fail; go_meet)
        all_goals first
          | (refine ⟨w6.heap.size, D6, st6, p6, c6, by with_reducible rfl, rfl, rfl, ?_⟩; exact ⟨CutV.al (W6 := w6) HD6.out.1 HD6.out.2.1 hR6.out hB6.out, HD6.out.2.2⟩)
          | (refine ⟨wr.heap.size, D6, st6, p6, c6, by with_reducible rfl, rfl, rfl, ?_⟩; exact ⟨CutV.cp (W6 := w6) HD6.out.1 HD6.out.2.1 hR6.out (fun h => h ((zs_alloc wr).below (Below.refl _ _).drew).lt rfl) hB6.out (hL6.out ((zs_alloc wr).below (Below.refl _ _).drew)), HD6.out.2.2⟩)
      case rest =>
        obtain ⟨C, D', st', p', c', rfl, rfl, rfl, hcp⟩ := hcut
        have HCP : Hid _ := hcp
        clear hmvc l0 l1 c0 c1 c2 c3 hcp
        obtain ⟨O2, hdo⟩ := HCP.out.1.next HP.out k t o x HV3.out.1
        rw [HV3.out.2.1, HV3.out.2.2] at hdo
        obtain ⟨L', hL'⟩ : ∃ L', D'.length = L' := ⟨_, rfl⟩
        have HL' : Hid (D'.length = L') := hL'
        rw [hL'] at hdo
        have hCge := HCP.out.1.hC
        have hCB : C ≠ B := by omega
        have y0 := HCP.out.1.hL.c0
        rw [hL'] at y0
        have y1 := HCP.out.1.hL.c1
        have lC := HCP.out.1.hL.lt
        have LBc := HP.out.rs.below HCP.out.1.hB
        have lBc := LBc.lt
        have x0 := LBc.c0
        have x1 := LBc.c1
        have g0 := LBc.fz 0
        have g1 := LBc.fz 1
        obtain ⟨w8, hw8⟩ : ∃ w8, cpyS wc B st' L' p' c' = w8 := ⟨_, rfl⟩
        rw [hw8] at hdo
        have B8 : Below w.heap.size w w8 := by rw [← hw8]; exact bel_cpyS (HP.out.bl.trans (HCP.out.1.hB.mono HP.out.bl.size)) HP.out.gt _ _ _ _
        have hDL : D'.length ≤ i + 1 := HCP.out.2
        obtain ⟨c0, c1, c2, c3⟩ : w8.cell? ⟨bq, oq + i * 4, none⟩ = some (.int .i64 k) ∧ w8.cell? ⟨bq, oq + i * 4 + 1, none⟩ = some (.int .i64 t) ∧ w8.cell? ⟨bq, oq + i * 4 + 2, none⟩ = some (.int .i64 o) ∧ w8.cell? ⟨bq, oq + i * 4 + 3, none⟩ = some (.int .i64 x) := by
          obtain ⟨b9, o9, e9, h9⟩ := (HC.out.later B8) i (by omega)
          cases e9
          rw [HZ.out] at h9
          exact ⟨h9.c0, h9.c1, h9.c2, h9.c3⟩
        have hbq8 : bq < w8.heap.size := World.block_lt_of_cell? _ _ c0
        simp only [cpyS] at hw8
        clear LBc HP HCP hL' lB hbq B8
        go_wp2_with fail
        refine hdo.mono ?_
        rintro e wd ⟨rfl, hPd⟩
        have hER := errV_ok cd wd (HY.out.later hPd.out.bl)
        clear hdo c0 c1 c2 c3 hbq8 x0 x1 g0 g1 y0 y1 hw8 lC lBc hCB hCge
        have htt : (td != td) = false := by simp
        go_wp2_with fail
        refine hER.mono ?_
        rintro e we ⟨rfl, hBe⟩
        have H9 : Hid _ := hPd.out.later hBe
        clear hER hBe hPd
        go_wp2_with fail
        go_roundw
        case rel => exact ⟨i + 1, O2, s', D', st', _, _, by go_num, by omega, by omega, hDL, H9⟩
        case measure => simp [intOf]; omega
    · have hdec : (n : Int) ≤ (i : Int) ∨ ((i : Int) < (n : Int) ∧ (60 : Int) ≤ (i : Int)) := by
        by_cases hn : i < n
        · exact .inr ⟨by omega, by omega⟩
        · exact .inl (by omega)
      clear hlt
      have hve := rvedges_ok st pa ca wr HP.out.rd
      obtain ⟨L, hL⟩ : ∃ L, D.length = L := ⟨_, rfl⟩
      have HL : Hid (D.length = L) := hL
      simp only [rsV] at hve
      have l0 := HP.out.rs.c0
      rw [hL] at l0 hve
      have l1 := HP.out.rs.c1
      have lB := HP.out.rs.lt
      have hL60 : L ≤ 60 := by omega
      clear hL
      rcases hdec with hd1 | ⟨hd1, hd2⟩
      all_goals
        go_wp2_with fail
        refine hve.mono ?_
        rintro e w3 ⟨A1, B1, R1, R2, rfl, hR1, hR2, hE1, hE2, hB3⟩
        rw [eb_beh HP.out.vd hE1] at hR1
        rw [eb_ovr HP.out.vd hE2] at hR2
        have H3 : Hid (PV w S B O s D st pa ca w3 ∧ RowAt 3 w3 A1 (M.behR s) ∧ RowAt 3 w3 B1 (M.ovR s)) := ⟨HP.out.later hB3, hR1, hR2⟩
        clear hve hR1 hR2 hE1 hE2 hB3 l0 l1 lB
        have hed := vedges_ok w3 H3.out.1.vv H3.out.1.vd.vi
        go_wp2_with fail
        refine hed.mono ?_
        rintro e w4 ⟨A2, B2, rfl, hR3, hR4, _, _, _, hB4⟩
        have H4 : Hid (PE w S B O s D st pa ca A1 B1 A2 B2 w4) := ⟨H3.out.1.later hB4, H3.out.2.1.below hB4 H3.out.2.1.lt, H3.out.2.2.below hB4 H3.out.2.2.lt, hR3, hR4⟩
        clear hed hR3 hR4 hB4 H3
        have hrs := refSerial_ok (M.behR s) (some ⟨A1, 0, none⟩) 5 5 w4 (M.behR_len s) (by omega) (fun i => Nat.lt_of_lt_of_le ((M.behR_ok H4.out.pv.vd.vi) i) (by rw [M.behR_len]; decide)) H4.out.r1.hasI
        have HVI : Hid (M.VI s) := H4.out.pv.vd.vi
        go_wp2_with fail
        refine hrs.mono ?_
        rintro e w5 ⟨hB5, hrs2⟩
        have H5 : Hid (PE w S B O s D st pa ca A1 B1 A2 B2 w5) := H4.out.later hB5
        have hsame : ∃ (bb : Bool) (pr : Option Addr) (mr cr : Nat) (ys : List Int), e = .returned (.tuple #[.slice pr mr cr, .bool bb]) ∧ Hid (ys.length = mr ∧ mr ≤ 5 ∧ HasI ys pr w5) ∧ (∀ W, Below w5.heap.size w5 W → Calls Tryd.prog 10 #[.pointer (some ⟨S, 0, none⟩)] W fun e' W' => ∃ p2 c2, e' = .returned (.tuple #[.bool bb, .slice p2 mr c2]) ∧ Hid (HasI ys p2 W' ∧ Below W.heap.size W W')) := by
          by_cases hr : M.Ring (M.behR s)
          · rcases hrs2 with ⟨l', q', c', hg, _, _⟩ | ⟨_, rfl⟩
            · have := M.gb_ring (M.behR_ok HVI.out) (fun t => M.behR_self HVI.out t) hr
              rw [M.behR_len] at this
              have h9 : M.gb 5 (M.canS (M.behR s)) (fun told i => told ++ [i]) 5 [] = some l' := hg
              rw [this] at h9; cases h9
            · refine ⟨false, none, 0, 0, [], rfl, ⟨rfl, by omega, fun j hj => absurd hj (Nat.not_lt_zero _)⟩, fun W hW => ?_⟩
              have h6 := H5.out.later hW
              refine (vserial_ring W (HE.out.later h6.pv.bl) h6.pv.vv HVI.out hr).mono ?_
              rintro e' W' ⟨rfl, hB⟩
              exact ⟨none, 0, rfl, fun j hj => absurd hj (Nat.not_lt_zero _), hB⟩
          · have hg1 := M.first_gb (M.behR_ok HVI.out) (fun t => M.behR_self HVI.out t) hr
            rw [M.behR_len] at hg1
            rcases hrs2 with ⟨l', q', c', hg, rfl, hI⟩ | ⟨hg, _⟩
            · have h9 : M.gb 5 (M.canS (M.behR s)) (fun told i => told ++ [i]) 5 [] = some l' := hg
              rw [hg1] at h9
              obtain rfl := Option.some.inj h9
              refine ⟨true, q', 5, c', ints (M.firstR (M.turned (M.behR s))), rfl, ⟨by rw [ints_length, M.firstR_length, M.turned_length, M.behR_len], by omega, hI⟩, fun W hW => ?_⟩
              have h6 := H5.out.later hW
              refine (vserial_ok W (HE.out.later h6.pv.bl) h6.pv.vv HVI.out hr).mono ?_
              rintro e' W' ⟨A3, rfl, hrow, _, hB⟩
              exact ⟨_, _, rfl, hrow.hasI, hB⟩
            · have h9 : M.gb 5 (M.canS (M.behR s)) (fun told i => told ++ [i]) 5 [] = none := hg
              rw [hg1] at h9; cases h9
        obtain ⟨bb, pr, mr, cr, ys, rfl, HYS, hse⟩ := hsame
        have hse5 := hse w5 (Below.refl _ _)
        clear hrs hrs2 hse H4 hB5
        go_wp2_with fail
        refine hse5.mono ?_
        rintro e w6 ⟨p2, c2, rfl, hI6⟩
        have H6 : Hid (PE w S B O s D st pa ca A1 B1 A2 B2 w6 ∧ HasI ys pr w6 ∧ HasI ys p2 w6) := ⟨H5.out.later hI6.out.2, HYS.out.2.2.later hI6.out.2, hI6.out.1⟩
        clear hse5 hI6 H5
        go_wp2_with fail
        go_loopw [19, 20, 21] (fun u19 u20 u21 wr => ∃ (t z : Nat), u21 = .int .i64 (t : Nat) ∧ t ≤ 5 ∧ u19 = .int .i64 (z : Nat) ∧ u20 = .bool (dKr s t 0) ∧ Hid (CSet D t 0 z) ∧ Hid (PE w S B O s D st pa ca A1 B1 A2 B2 wr ∧ HasI ys pr wr ∧ HasI ys p2 wr)) (fun _ _ u _ => 5 - (intOf u).toNat)
        case atStart => exact ⟨0, 0, rfl, Nat.zero_le _, rfl, rfl, CSet.zero D, H6⟩
        case round =>
          clear H6
          obtain ⟨t, z, rfl, ht, rfl, rfl, HS, H7⟩ := hrel
          obtain ⟨dk, hdk⟩ : ∃ d, dKr s t 0 = d := ⟨_, rfl⟩
          have HDK : Hid (dKr s t 0 = dk) := hdk
          rw [hdk]
          clear hdk
          by_cases ht5 : t < 5
          case neg =>
            obtain rfl : t = 5 := by omega
            have hcz := CSet.all H7.out.1.pv.vd HS.out
            have hdz : dk = M.dgr s := by rw [← HDK.out]; exact dKr_all s
            have hcm := vcommitted_ok wr H7.out.1.pv.vv
            rw [hcz] at hcm
            have hdn : ∀ W, Below wr.heap.size wr W → Calls Tryd.prog 11 #[.pointer (some ⟨S, 0, none⟩)] W fun e w' => e = .returned (.bool dk) ∧ Below W.heap.size W w' := fun W hW => by
              have h6 := H7.out.1.later hW
              rw [hdz]
              exact vdanger_ok W (HE.out.later h6.pv.bl) h6.pv.vv HVI.out
            have hs1 : ∀ W, Below wr.heap.size wr W → Calls Tryd.prog 21 #[.slice (some ⟨A2, 0, none⟩) 5 5, .slice (some ⟨A1, 0, none⟩) 5 5] W fun e w' => e = .returned (.bool true) ∧ Below W.heap.size W w' := fun W hW => by
              have h6 := H7.out.1.later hW
              exact same_ints (ints (M.behR s)) _ _ 5 5 5 W (by rw [ints_length, M.behR_len]) (by unfold maxLen; omega) h6.r3.hasI h6.r1.hasI
            have hs2 : ∀ W, Below wr.heap.size wr W → Calls Tryd.prog 21 #[.slice (some ⟨B2, 0, none⟩) 5 5, .slice (some ⟨B1, 0, none⟩) 5 5] W fun e w' => e = .returned (.bool true) ∧ Below W.heap.size W w' := fun W hW => by
              have h6 := H7.out.1.later hW
              exact same_ints (ints (M.ovR s)) _ _ 5 5 5 W (by rw [ints_length, M.ovR_len]) (by unfold maxLen; omega) h6.r4.hasI h6.r2.hasI
            have hs3 : ∀ W, Below wr.heap.size wr W → Calls Tryd.prog 21 #[.slice p2 mr c2, .slice pr mr cr] W fun e w' => e = .returned (.bool true) ∧ Below W.heap.size W w' := fun W hW =>
              same_ints ys _ _ mr c2 cr W HYS.out.1 (by have := HYS.out.2.1; unfold maxLen; omega) (H7.out.2.2.later hW) (H7.out.2.1.later hW)
            have HBL : Hid (Below w.heap.size w wr) := H7.out.1.pv.bl
            have hbb : (bb == bb) = true := by simp
            have hdd : (dk == dk) = true := by simp
            clear hcz hdz HS HDK H7
            go_wp2_with fail
            refine hcm.mono ?_
            rintro e w7 ⟨rfl, hB7⟩
            have h1 := hs1 w7 hB7
            have HB7 : Hid (Below wr.heap.size wr w7) := hB7
            clear hcm hs1 hB7
            go_wp2_with fail
            refine h1.mono ?_
            rintro e w8 ⟨rfl, hB8⟩
            have h2 := hs2 w8 (bel_on HB7.out hB8)
            have HB8 : Hid (Below wr.heap.size wr w8) := bel_on HB7.out hB8
            clear h1 hs2 hB8 HB7
            go_wp2_with fail
            refine h2.mono ?_
            rintro e w9 ⟨rfl, hB9⟩
            have h3 := hs3 w9 (bel_on HB8.out hB9)
            have HB9 : Hid (Below wr.heap.size wr w9) := bel_on HB8.out hB9
            clear h2 hs3 hB9 HB8
            go_wp2_with fail
            refine h3.mono ?_
            rintro e wA ⟨rfl, hBA⟩
            have h4 := hdn wA (bel_on HB9.out hBA)
            have HBA : Hid (Below wr.heap.size wr wA) := bel_on HB9.out hBA
            clear h3 hdn hBA HB9
            go_wp2_with fail
            refine h4.mono ?_
            rintro e wB ⟨rfl, hBB⟩
            have HBB : Hid (Below w.heap.size w wB) := HBL.out.trans ((bel_on HBA.out hBB).mono HBL.out.size)
            clear h4 hBB HBA HBL
            go_wp2_with fail
            go_ret
            exact ⟨rfl, HBB.out⟩
          have hti : (t : Int) < 5 := by omega
          go_wp2_with fail
          go_loopw [19, 22] (fun u19 u22 wr => ∃ (j z : Nat), u22 = .int .i64 (j : Nat) ∧ j ≤ L ∧ u19 = .int .i64 (z : Nat) ∧ Hid (CSet D t j z) ∧ Hid (PE w S B O s D st pa ca A1 B1 A2 B2 wr ∧ HasI ys pr wr ∧ HasI ys p2 wr)) (fun _ u _ => L - (intOf u).toNat)
          case atStart => exact ⟨0, z, rfl, Nat.zero_le _, rfl, HS, H7⟩
          case round =>
            clear H7 HS
            obtain ⟨j, z, rfl, hj, rfl, HS, H7⟩ := hrel
            have l0 := H7.out.1.pv.rs.c0
            rw [HL.out] at l0
            have lB := H7.out.1.pv.rs.lt
            by_cases hjL : j < L
            · have hji : (j : Int) < (L : Int) := by omega
              obtain ⟨bb4, off, rfl, _, hd⟩ := H7.out.1.pv.rd.act j (by rw [HL.out]; exact hjL)
              obtain ⟨⟨k1, t1, i1, x1⟩, hz⟩ : ∃ d, dAt D j = d := ⟨_, rfl⟩
              rw [hz] at hd
              have k0 := hd.c0
              have k1c := hd.c1
              have lb := hd.lt
              simp only at k0 k1c
              have HW : Hid (whP (t : Nat) 5 (dAt D j) = (t1 == ((t : Nat) : Int) && k1 == 5)) := by show _ = _; rw [hz]; rfl
              clear hz hd
              cases e1 : (t1 == ((t : Nat) : Int)) with
              | false =>
                have HS2 : Hid (CSet D t (j + 1) z) := HS.out.no (by rw [HW.out, e1]; rfl)
                clear HS HW
                go_wp2_with fail
                go_roundw
                case rel => exact ⟨j + 1, z, by go_num, by omega, rfl, HS2, H7⟩
                case measure => simp [intOf]; omega
              | true =>
              cases e2 : (k1 == 5) with
              | false =>
                have HS2 : Hid (CSet D t (j + 1) z) := HS.out.no (by rw [HW.out, e1, e2]; rfl)
                clear HS HW
                go_wp2_with fail
                go_roundw
                case rel => exact ⟨j + 1, z, by go_num, by omega, rfl, HS2, H7⟩
                case measure => simp [intOf]; omega
              | true =>
                have HS2 : Hid (CSet D t (j + 1) (z ||| 1 <<< t)) := HS.out.yes ht5 (by rw [HW.out, e1, e2]; rfl)
                have hwi := fun W : World => with_any z t W (by have := HS.out.lt; omega) (by omega)
                obtain ⟨z2, hz2⟩ : ∃ x, z ||| 1 <<< t = x := ⟨_, rfl⟩
                rw [hz2] at HS2
                simp only [hz2] at hwi
                clear HS HW hz2
                go_wp2_with fail
                refine (hwi _).mono ?_
                rintro e w' ⟨rfl, rfl⟩
                clear hwi
                go_wp2_with fail
                go_roundw
                case rel => exact ⟨j + 1, z2, by go_num, by omega, rfl, HS2, H7⟩
                case measure => simp [intOf]; omega
            · obtain rfl : L = j := by omega
              have HS2 : Hid (CSet D (t + 1) 0 z) := by
                have h9 := HS.out
                rw [← HL.out] at h9
                exact h9.next
              clear HS
              go_wp2_with fail
              clear l0
              go_loopw [20, 23] (fun u20 u23 wr => ∃ u : Nat, u23 = .int .i64 (u : Nat) ∧ u ≤ 5 ∧ u20 = .bool (dKr s t u) ∧ Hid (PE w S B O s D st pa ca A1 B1 A2 B2 wr ∧ HasI ys pr wr ∧ HasI ys p2 wr)) (fun _ u _ => 5 - (intOf u).toNat)
              case atStart => exact ⟨0, rfl, Nat.zero_le _, by rw [HDK.out], H7⟩
              case round =>
                clear H7 lB
                obtain ⟨u, rfl, hu, rfl, H7⟩ := hrel
                by_cases hu5 : u < 5
                case neg =>
                  obtain rfl : u = 5 := by omega
                  have HK2 : Hid (dKr s t 5 = dKr s (t + 1) 0) := (dKr_next s t).symm
                  obtain ⟨d5, hd5⟩ : ∃ d, dKr s t 5 = d := ⟨_, rfl⟩
                  rw [hd5] at HK2 ⊢
                  clear hd5
                  go_wp2_with fail
                  go_roundw
                  case rel => exact ⟨t + 1, z, by go_num, by omega, rfl, by rw [HK2.out], HS2, H7⟩
                  case measure => simp [intOf]; omega
                have hui : (u : Int) < 5 := by omega
                have HSTP : Hid (dKr s t (u + 1) = (dKr s t u || ((M.ovS s t).testBit u && M.ovS s u != 0))) := dKr_step s t u
                obtain ⟨d1, hd1'⟩ : ∃ d, dKr s t u = d := ⟨_, rfl⟩
                rw [hd1'] at HSTP ⊢
                have v1 := H7.out.1.r2.cell (k := t) (by rw [M.ovR_len]; exact ht5)
                have v2 := H7.out.1.r2.cell (k := u) (by rw [M.ovR_len]; exact hu5)
                rw [M.ovR_row s ht5] at v1
                rw [M.ovR_row s hu5] at v2
                have vl := H7.out.1.r2.lt
                have hbt := fun W : World => bit_any (M.ovS s t) u W (by have := M.ov_lt HVI.out t; omega) (by omega)
                obtain ⟨y1, hy1⟩ : ∃ x, M.ovS s t = x := ⟨_, rfl⟩
                obtain ⟨y2, hy2⟩ : ∃ x, M.ovS s u = x := ⟨_, rfl⟩
                rw [hy1] at v1 HSTP hbt
                rw [hy2] at v2 HSTP
                clear hd1' hy1 hy2
                cases d1 with
                | true =>
                  have HN1 : Hid (dKr s t (u + 1) = true) := by show _ = _; rw [HSTP.out]; rfl
                  clear HSTP hbt
                  go_wp2_with fail
                  go_roundw
                  case rel => exact ⟨u + 1, by go_num, by omega, by rw [HN1.out], H7⟩
                  case measure => simp [intOf]; omega
                | false =>
                cases e1 : y1.testBit u with
                | false =>
                  rw [e1] at hbt
                  have HN1 : Hid (dKr s t (u + 1) = false) := by show _ = _; rw [HSTP.out, e1]; rfl
                  clear HSTP
                  go_wp2_with fail
                  refine (hbt _).mono ?_
                  rintro e w' ⟨rfl, rfl⟩
                  clear hbt
                  go_wp2_with fail
                  go_roundw
                  case rel => exact ⟨u + 1, by go_num, by omega, by rw [HN1.out], H7⟩
                  case measure => simp [intOf]; omega
                | true =>
                  rw [e1] at hbt
                  obtain ⟨d2, hd2'⟩ : ∃ d, ((y2 : Int) != 0) = d := ⟨_, rfl⟩
                  have HN1 : Hid (dKr s t (u + 1) = d2) := by
                    show _ = _
                    rw [HSTP.out, e1, ← hd2']
                    show (y2 != 0) = ((y2 : Int) != 0)
                    rw [Bool.eq_iff_iff]; simp
                  clear HSTP
                  go_wp2_with fail
                  refine (hbt _).mono ?_
                  rintro e w' ⟨rfl, rfl⟩
                  clear hbt
                  cases d2 with
                  | true =>
                    go_wp2_with fail
                    go_roundw
                    case rel => exact ⟨u + 1, by go_num, by omega, by rw [HN1.out], H7⟩
                    case measure => simp [intOf]; omega
                  | false =>
                    go_wp2_with fail
                    go_roundw
                    case rel => exact ⟨u + 1, by go_num, by omega, by rw [HN1.out], H7⟩
                    case measure => simp [intOf]; omega
end Go.Proofs.YtajiichehffaaaaDoor
