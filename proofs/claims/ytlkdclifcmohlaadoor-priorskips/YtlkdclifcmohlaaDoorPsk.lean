/- What is written too late would be gone (law PriorSkips), the walk. -/
import Derived.Test.YtlkdclifcmohlaaDoorPsk0
import Derived.BigQuiet
namespace Go.Proofs.YtlkdclifcmohlaaDoor
open Go.RowKit
set_option maxRecDepth 100000 in
set_option maxHeartbeats 8000000 in
theorem ps_walk (zs : List Az) (p : Option Addr) (n cap : Nat) (w : World) (hty : Ety w) (hl : zs.length = n) (_ : n ≤ maxLen) (_ : n ≤ cap) (hc : HasAc zs p w) :
    Calls Tryd.prog 4 #[.slice p n cap] w fun e w' => e = .returned (.bool true) ∧ Below w.heap.size w w' := by
  have hf := priorFact_ok w hty
  have HC : Hid (HasAc zs p w) := hc
  clear hc hty
  go_enter Tryd.func4, Tryd.ntmps4
  go_wp2_with fail
  refine hf.mono ?_
  rintro e w1 ⟨rfl, hB1⟩
  have H1 : Hid (Below w.heap.size w w1) := hB1
  clear hf hB1
  go_wp2_with fail
  refine (gnew_ok (O := fun k => k = w1.heap.size) true w1 rfl).mono ?_
  rintro e w2 ⟨rfl, hT2, hB2⟩
  obtain ⟨S, hS⟩ : ∃ S, w1.heap.size = S := ⟨_, rfl⟩
  have P2 : Hid (PS w S w2.heap.size (fun k => k = S) M.gt0 M.gt0.ac (fun _ => 0) (w2.alloc (.cells #[.int .i64 (-1), .int .i64 (-1), .int .i64 (-1), .int .i64 (-1)] 3))) := by
    have k1 := H1.out.trans (hB2.mono H1.out.size)
    have k2 := H1.out.size
    have k3 := hT2.lt
    rw [hS] at hT2 k2 k3
    have k4 : Below w2.heap.size w2 (w2.alloc (.cells #[.int .i64 (-1), .int .i64 (-1), .int .i64 (-1), .int .i64 (-1)] 3)) := bel_al (Below.refl _ _) _
    exact ⟨hT2.below k4, M.GG.zero, M.Skp.zero, mF_new w2, fun e => by omega, k1.trans (k4.mono k1.size), fun k hk e => by omega, fun k e => by have := k4.size; omega, by omega⟩
  obtain ⟨B, hB⟩ : ∃ B, w2.heap.size = B := ⟨_, rfl⟩
  rw [hB] at P2
  rw [hS]
  clear hT2 hB2 H1
  go_wp2_with fail
  clear hS hB
  go_loopw [6] (fun u wr => ∃ (i : Nat) (O : Nat → Prop) (s : M.Gt) (m : Nat → Nat), u = .int .i64 (i : Nat) ∧ i ≤ n ∧ i ≤ 60 ∧ Hid (PS w S B O s s.ac m wr)) (fun u _ => 60 - (intOf u).toNat)
  case atStart => exact ⟨0, _, _, _, rfl, Nat.zero_le _, Nat.zero_le _, P2⟩
  case round =>
    clear P2
    obtain ⟨i, O, s, m, rfl, hi, hi2, HP⟩ := hrel
    by_cases hlt : i < n ∧ i < 60
    case neg =>
      have ha := gacts_ok wr HP.out.gv HP.out.gg
      have hdec : (n : Int) ≤ (i : Int) ∨ ((i : Int) < (n : Int) ∧ (60 : Int) ≤ (i : Int)) := by omega
      have HSK : Hid (M.Skp s.ac m) := HP.out.sk
      obtain ⟨L, hL⟩ : ∃ L, s.ac.length = L := ⟨_, rfl⟩
      have HL : Hid (s.ac.length = L) := hL
      have hL24 : L ≤ 24 := by rw [← hL]; exact HP.out.gg.len
      rw [hL] at ha
      have HL3 : Hid (∀ w', Below wr.heap.size wr w' → w'.rowIs B 3 4 (mF m) ∧ Below w.heap.size w w') := fun w' hb => ⟨(HP.out.later hb).mo, (HP.out.later hb).bl⟩
      clear hL hlt HP
      rcases hdec with hd1 | ⟨hd1, hd2⟩
      all_goals
        go_wp2_with fail
        refine ha.mono ?_
        rintro e w3 ⟨q, c, rfl, h1, h2, h3⟩
        have HA : Hid (HasAc (az s.ac) q w3) := h2
        obtain ⟨hmo, hbb⟩ := HL3.out w3 h3
        have HM : Hid (w3.rowIs B 3 4 (mF m)) := hmo
        have HB : Hid (Below w.heap.size w w3) := hbb
        have lB := hmo.lt
        clear ha h1 h2 h3 hmo hbb HL3
        go_wp2_with fail
        go_loop [11] (fun v => ∃ d : Nat, v = .int .i64 (d : Nat) ∧ d ≤ 4) (fun v => 4 - (intOf v).toNat)
        case atStart => exact ⟨0, rfl, Nat.zero_le _⟩
        case round =>
          obtain ⟨d, rfl, hd4⟩ := hrel
          by_cases hdl : d < 4
          · have hdi : (d : Int) < 4 := by omega
            go_wp2_with fail
            go_loop [12, 13] (fun u v => ∃ k : Nat, v = .int .i64 (k : Nat) ∧ k ≤ L ∧ u = .int .i64 (oI (M.lw (s.ac.take k) d))) (fun _ v => L - (intOf v).toNat)
            case atStart => exact ⟨0, rfl, Nat.zero_le _, rfl⟩
            case round =>
              obtain ⟨k, rfl, hk, rfl⟩ := hrel
              by_cases hkL : k < L
              · have hkLi : (k : Int) < (L : Int) := by omega
                have HT : Hid (M.lw (s.ac.take (k + 1)) d = if (M.sat s.ac k).it = d ∧ (M.sat s.ac k).wr = 1 then some (M.sat s.ac k).tx else M.lw (s.ac.take k) d) := lw_take (by rw [HL.out]; exact hkL)
                obtain ⟨b1, o1, rfl, ha1⟩ := HA.out k (by rw [az_len, HL.out]; omega)
                rw [aAt_az] at ha1
                obtain ⟨⟨t1, d1, x1⟩, e1⟩ : ∃ a, M.sat s.ac k = a := ⟨_, rfl⟩
                rw [e1] at ha1 HT
                simp only at HT
                clear e1
                have k0 := ha1.c0
                have k1 := ha1.c1
                have k2 := ha1.c2
                have lb := ha1.lt
                simp only [azN] at k0 k1 k2
                clear ha1
                obtain ⟨z, hz⟩ : ∃ z, oI (M.lw (s.ac.take k) d) = z := ⟨_, rfl⟩
                have HZ : Hid (oI (M.lw (s.ac.take k) d) = z) := hz
                rw [hz]
                clear hz
                by_cases f1 : d1 = d
                · have g1 : ((d1 : Int) == (d : Int)) = true := by rw [f1]; simp
                  by_cases f2 : x1 = 1
                  · have g2 : ((x1 : Int) == 1) = true := by rw [f2]; rfl
                    have HR : Hid (oI (M.lw (s.ac.take (k + 1)) d) = (t1 : Int)) := by show _ = _; rw [HT.out, if_pos ⟨f1, f2⟩]; rfl
                    clear f1 f2 HT HZ
                    go_wp2_with fail
                    go_round
                    case rel => exact ⟨k + 1, by go_num, by omega, by rw [HR.out]⟩
                    case measure => simp [intOf]; omega
                  · have g2 : ((x1 : Int) == 1) = false := by simp; omega
                    have HR : Hid (oI (M.lw (s.ac.take (k + 1)) d) = z) := by show _ = _; rw [HT.out, if_neg (fun h => f2 h.2)]; exact HZ.out
                    clear f1 f2 HT HZ
                    go_wp2_with fail
                    go_round
                    case rel => exact ⟨k + 1, by go_num, by omega, by rw [HR.out]⟩
                    case measure => simp [intOf]; omega
                · have g1 : ((d1 : Int) == (d : Int)) = false := by simp; omega
                  have HR : Hid (oI (M.lw (s.ac.take (k + 1)) d) = z) := by show _ = _; rw [HT.out, if_neg (fun h => f1 h.1)]; exact HZ.out
                  clear f1 HT HZ
                  go_wp2_with fail
                  go_round
                  case rel => exact ⟨k + 1, by go_num, by omega, by rw [HR.out]⟩
                  case measure => simp [intOf]; omega
              · obtain rfl : L = k := by omega
                have htk : s.ac.take L = s.ac := List.take_of_length_le (by rw [HL.out]; omega)
                rw [htk, HSK.out.last_oI d]
                have cB := HM.out.cell (i := d) hdl
                unfold mF at cB
                obtain ⟨z, hz⟩ : ∃ z, (m d : Int) - 1 = z := ⟨_, rfl⟩
                rw [hz] at cB ⊢
                clear hz htk hkL hk
                go_wp2_with fail
                go_round
                case rel => exact ⟨d + 1, by go_num, by omega⟩
                case measure => simp [intOf]; omega
          · obtain rfl : d = 4 := by omega
            go_wp2_with fail
            go_ret
            exact ⟨rfl, HB.out⟩
    obtain ⟨h1, h2⟩ := hlt
    have h1i : (i : Int) < n := by omega
    have h2i : (i : Int) < 60 := by omega
    obtain ⟨b, off, rfl, hd⟩ := (HC.out.later HP.out.bl) i (by omega)
    obtain ⟨⟨t, o, x⟩, hz⟩ : ∃ d, aAt zs i = d := ⟨_, rfl⟩
    rw [hz] at hd
    have c0 := hd.c0
    have c1 := hd.c1
    have c2 := hd.c2
    have hb := hd.lt
    simp only at c0 c1 c2
    obtain ⟨A, hA⟩ : ∃ A, wr.heap.size = A := ⟨_, rfl⟩
    obtain ⟨wa, hwa⟩ : ∃ wa, wr.alloc (.cells #[.int .i64 t, .int .i64 o, .int .i64 x] 31) = wa := ⟨_, rfl⟩
    have Aa : AcAt ⟨t, o, x⟩ A 0 wa := by rw [← hwa, ← hA]; exact acAt_new wr ⟨t, o, x⟩
    have Ba : Below wr.heap.size wr wa := by rw [← hwa]; exact bel_al (Below.refl _ _) _
    have hnA : ¬ nx O wa A := fun e => by
      have h1 := Aa.lt
      rcases e with e | e
      · have := HP.out.ob A e; omega
      · omega
    have dd := gdo_ok ⟨t, o, x⟩ wa (HP.out.may Ba).1 (HP.out.may Ba).2 HP.out.gg
    have q0 : wa.cell? ⟨A, 0, none⟩ = some (.int .i64 t) := Aa.c0
    have q1 : wa.cell? ⟨A, 1, none⟩ = some (.int .i64 o) := Aa.c1
    have q2 : wa.cell? ⟨A, 2, none⟩ = some (.int .i64 x) := Aa.c2
    have lA := Aa.lt
    have hG' := HP.out.gg.z true ⟨t, o, x⟩
    have herr := @gtZ_err true s ⟨t, o, x⟩
    have hfine := @gtZ_fine true s ⟨t, o, x⟩
    have HX : Hid (∀ s' w', M.GG s' → GV (nx O wa) S true s' w' → Frm (nx O wa) wa w' → PS w S B (fun j => nx O wa j ∧ j < w'.heap.size) s' s.ac m w') := fun s' w' h2 h3 h4 => HP.out.did Ba h3 h4 h2
    have HAC : Hid (∀ w', Frm (nx O wa) wa w' → AcAt ⟨t, o, x⟩ A 0 w') := fun w' h2 => by
      have hb := h2.block A Aa.lt hnA
      exact ⟨by have := h2.size; have := Aa.lt; omega, (World.cell?_of_block (a := ⟨A, 0, none⟩) hb).trans Aa.c0, (World.cell?_of_block (a := ⟨A, 1, none⟩) hb).trans Aa.c1, (World.cell?_of_block (a := ⟨A, 2, none⟩) hb).trans Aa.c2⟩
    have HSK : Hid (M.Skp s.ac m) := HP.out.sk
    obtain ⟨s', hs'⟩ : ∃ s', (gtZ true s ⟨t, o, x⟩).1 = s' := ⟨_, rfl⟩
    obtain ⟨dn, hdn⟩ : ∃ q, (gtZ true s ⟨t, o, x⟩).2.1 = q := ⟨_, rfl⟩
    obtain ⟨cd, hcd⟩ : ∃ q, (gtZ true s ⟨t, o, x⟩).2.2 = q := ⟨_, rfl⟩
    rw [hs', hdn, hcd] at dd
    rw [hs', hdn, hcd] at herr
    rw [hcd] at hfine
    rw [hs'] at hG'
    clear hz hd Aa Ba hnA HP
    by_cases h0 : cd = 0
    case neg =>
      obtain ⟨rfl, e2⟩ := herr h0
      rw [terr_ne h0] at dd
      have HX2 : Hid (∀ w', GV (nx O wa) S true s' w' → Frm (nx O wa) wa w' → PS w S B (fun j => nx O wa j ∧ j < w'.heap.size) s' s'.ac m w') := fun w' h1 h2 => by
        rw [e2]; exact HX.out s' w' hG' h1 h2
      clear hfine herr e2 hG' hs' hdn hcd h0 HX HSK HAC
      go_wp2_with fail
      refine dd.mono ?_
      rintro e w3 ⟨rfl, h3, h4⟩
      have H3 : Hid _ := HX2.out w3 h3 h4
      clear dd h3 h4 HX2 c0 c1 c2
      go_wp2_with fail
      go_roundw
      case rel => exact ⟨i + 1, _, _, _, by go_num, by omega, by omega, H3⟩
      case measure => simp [intOf]; omega
    subst h0
    obtain ⟨hin, heq⟩ := hfine rfl
    obtain ⟨ho, ht, hi4, hx2⟩ := aIn_parts hin
    obtain ⟨⟨T, I, X⟩, hn⟩ : ∃ a, Az.n ⟨t, o, x⟩ = a := ⟨_, rfl⟩
    rw [hn] at ho ht hi4 hx2 heq
    simp only at ht hi4 hx2
    obtain ⟨rfl, rfl, rfl⟩ : t = (T : Int) ∧ o = (I : Int) ∧ x = (X : Int) := by
      have h := ho
      unfold azN at h
      rw [Az.mk.injEq] at h
      exact h
    rw [heq] at hs' hdn hcd
    rw [terr_zero] at dd
    have hac := M.gtDo_ac true s ⟨T, I, X⟩
    rw [hs', hdn] at hac
    clear hin hn ho heq hfine herr
    by_cases hX : X = 1
    case neg =>
      have hX0 : X = 0 := by omega
      have hrd := gtDo_read hcd hX0
      rw [hdn] at hrd
      subst hrd
      rw [if_pos rfl] at hac
      have HX2 : Hid (∀ w', GV (nx O wa) S true s' w' → Frm (nx O wa) wa w' → PS w S B (fun j => nx O wa j ∧ j < w'.heap.size) s' s'.ac m w') := fun w' h1 h2 => (HX.out s' w' hG' h1 h2).up (by rw [hac]; exact HSK.out.read hX)
      have hXe : ((X : Int) == 1) = false := by simp; omega
      have hXn : ((X : Int) != 1) = true := by simp; omega
      clear hac hG' hs' hdn hcd hX HX HSK hX0 hx2
      go_wp2_with fail
      refine dd.mono ?_
      rintro e w3 ⟨rfl, h3, h4⟩
      have H3 : Hid _ := HX2.out w3 h3 h4
      have A3 := HAC.out w3 h4
      have r2 : w3.cell? ⟨A, 2, none⟩ = some (.int .i64 (X : Nat)) := A3.c2
      have r0 : w3.cell? ⟨A, 0, none⟩ = some (.int .i64 (T : Nat)) := A3.c0
      have r1 : w3.cell? ⟨A, 1, none⟩ = some (.int .i64 (I : Nat)) := A3.c1
      have lA3 := A3.lt
      clear dd h3 h4 HX2 c0 c1 c2 A3 HAC
      go_wp2_with fail
      go_roundw
      case rel => exact ⟨i + 1, _, _, _, by go_num, by omega, by omega, H3⟩
      case measure => simp [intOf]; omega
    subst hX
    simp only [show ((1 : Nat) : Int) = 1 from rfl] at dd q2 hwa c2 HAC
    have hIi : (I : Int) < 4 := by omega
    have hI3 : (I : Int) ≤ 3 := by omega
    cases dn with
    | false =>
      rw [if_neg (by simp)] at hac
      have hsk := HSK.out.skip rfl hdn hcd
      simp only at hsk
      have HX2 : Hid (∀ w', GV (nx O wa) S true s' w' → Frm (nx O wa) wa w' → PS w S B (fun j => nx O wa j ∧ j < w'.heap.size) s' s'.ac m w') := fun w' h1 h2 => by
        rw [hac]; exact HX.out s' w' hG' h1 h2
      obtain ⟨z, hz⟩ : ∃ z, (m I : Int) - 1 = z := ⟨_, rfl⟩
      have hzT : (T : Int) < z := by omega
      have hzT3 : decide (z ≤ (T : Int)) = false := decide_eq_false (by omega)
      have hzT4 : decide (z < (T : Int)) = false := decide_eq_false (by omega)
      have HZ : Hid ((m I : Int) - 1 = z) := hz
      clear hac hG' hs' hdn hcd HX HSK hsk hz
      go_wp2_with fail
      refine dd.mono ?_
      rintro e w3 ⟨rfl, h3, h4⟩
      have hps := HX2.out w3 h3 h4
      have hrw := hps.mo
      have H3 : Hid _ := hps
      have cB := hrw.cell (i := I) hi4
      unfold mF at cB
      rw [HZ.out] at cB
      have lB := hrw.lt
      have A3 := HAC.out w3 h4
      have r2 : w3.cell? ⟨A, 2, none⟩ = some (.int .i64 1) := A3.c2
      have r0 : w3.cell? ⟨A, 0, none⟩ = some (.int .i64 (T : Nat)) := A3.c0
      have r1 : w3.cell? ⟨A, 1, none⟩ = some (.int .i64 (I : Nat)) := A3.c1
      have lA3 := A3.lt
      have H3D : Hid (∀ k, PS w S B (fun j => nx O wa j ∧ j < w3.heap.size) s' s'.ac m (w3.drewN k)) := fun k => H3.out.later (below_drewN w3 k)
      clear dd h3 h4 HX2 c0 c1 c2 A3 HAC hps hrw H3
      go_wp2_with fail
      go_big_quiet (fail)
      go_wp2_with fail
      go_big_quiet (fail)
      go_wp2_with fail
      go_roundw
      case rel => exact ⟨i + 1, _, _, _, by go_num, by omega, by omega, H3D.out _⟩
      case measure => simp [intOf]; omega
    | true =>
      rw [if_pos rfl] at hac
      obtain ⟨hle, hsk⟩ := HSK.out.did rfl (a := ⟨T, I, 1⟩) rfl hdn
      simp only at hle hsk
      have HX2 : Hid (∀ w', GV (nx O wa) S true s' w' → Frm (nx O wa) wa w' → PS w S B (fun j => nx O wa j ∧ j < w'.heap.size) s' s.ac m w') := fun w' h1 h2 => HX.out s' w' hG' h1 h2
      rw [← hac] at hsk
      obtain ⟨z, hz⟩ : ∃ z, (m I : Int) - 1 = z := ⟨_, rfl⟩
      have hzT : z ≤ (T : Int) := by omega
      have HZ : Hid ((m I : Int) - 1 = z) := hz
      by_cases hle2 : m I ≤ T
      · have hzT2 : z < (T : Int) := by omega
        have hzT3 : decide ((T : Int) < z) = false := decide_eq_false (by omega)
        have hzT4 : decide (z < (T : Int)) = true := decide_eq_true hzT2
        have HSS : Hid (m I ≤ T ∧ M.Skp s'.ac (M.mst m I T)) := ⟨hle2, hsk⟩
        clear hac hG' hs' hdn hcd HX HSK hsk hz hle hle2 hzT
        go_wp2_with fail
        refine dd.mono ?_
        rintro e w3 ⟨rfl, h3, h4⟩
        have hps := HX2.out w3 h3 h4
        have hrw := hps.mo
        have cB := hrw.cell (i := I) hi4
        have fB := hrw.frozen I
        unfold mF at cB
        rw [HZ.out] at cB
        have lB := hrw.lt
        have A3 := HAC.out w3 h4
        have r2 : w3.cell? ⟨A, 2, none⟩ = some (.int .i64 1) := A3.c2
        have r0 : w3.cell? ⟨A, 0, none⟩ = some (.int .i64 (T : Nat)) := A3.c0
        have r1 : w3.cell? ⟨A, 1, none⟩ = some (.int .i64 (I : Nat)) := A3.c1
        have lA3 := A3.lt
        have H3D : Hid (∀ k, PS w S B (fun j => nx O wa j ∧ j < w3.heap.size) s' s'.ac (M.mst m I T) ((w3.drewN k).setCell ⟨B, I, none⟩ (.int .i64 (T : Nat)))) := fun k => (hps.later (below_drewN w3 k)).put HSS.out.1 HSS.out.2
        clear dd h3 h4 HX2 c0 c1 c2 A3 HAC hps hrw HZ HSS
        go_wp2_with fail
        go_big_quiet (fail)
        go_wp2_with fail
        go_big_quiet (fail)
        go_wp2_with fail
        go_roundw
        case rel => exact ⟨i + 1, _, _, _, by go_num, by omega, by omega, H3D.out _⟩
        case measure => simp [intOf]; omega
      · have hzT2 : z = (T : Int) := by omega
        have hms : M.mst m I T = m := M.mst_skip (by omega)
        rw [hms] at hsk
        subst hzT2
        have hTT : decide ((T : Int) < (T : Int)) = false := decide_eq_false (by omega)
        have hTT2 : decide (T < T) = false := decide_eq_false (by omega)
        have HSS : Hid (M.Skp s'.ac m) := hsk
        clear hac hG' hs' hdn hcd HX HSK hsk hz hle hle2 hms hzT
        go_wp2_with fail
        refine dd.mono ?_
        rintro e w3 ⟨rfl, h3, h4⟩
        have hps := HX2.out w3 h3 h4
        have hrw := hps.mo
        have cB := hrw.cell (i := I) hi4
        unfold mF at cB
        rw [HZ.out] at cB
        have lB := hrw.lt
        have A3 := HAC.out w3 h4
        have r2 : w3.cell? ⟨A, 2, none⟩ = some (.int .i64 1) := A3.c2
        have r0 : w3.cell? ⟨A, 0, none⟩ = some (.int .i64 (T : Nat)) := A3.c0
        have r1 : w3.cell? ⟨A, 1, none⟩ = some (.int .i64 (I : Nat)) := A3.c1
        have lA3 := A3.lt
        have H3D : Hid (∀ k, PS w S B (fun j => nx O wa j ∧ j < w3.heap.size) s' s'.ac m (w3.drewN k)) := fun k => (hps.later (below_drewN w3 k)).up HSS.out
        clear dd h3 h4 HX2 c0 c1 c2 A3 HAC hps hrw HZ HSS
        go_wp2_with fail
        go_big_quiet (fail)
        go_wp2_with fail
        go_big_quiet (fail)
        go_wp2_with fail
        go_roundw
        case rel => exact ⟨i + 1, _, _, _, by go_num, by omega, by omega, H3D.out _⟩
        case measure => simp [intOf]; omega
end Go.Proofs.YtlkdclifcmohlaaDoor
