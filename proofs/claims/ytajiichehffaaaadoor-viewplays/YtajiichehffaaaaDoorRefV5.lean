/- The document's edges of a store of views (whensteadref3.ViewEdges), pair by pair, item by item; written by mk_refv5.py. -/
import Derived.Test.YtajiichehffaaaaDoorRefV4
import Derived.Test.YtajiichehffaaaaDoorBRf
import Derived.StillTailTactics
import Derived.BigRegion
import Derived.BigQuiet
import Derived.Deep.CutRange
namespace Go.Proofs.YtajiichehffaaaaDoor
open Go.RowKit
set_option maxRecDepth 100000 in
set_option maxHeartbeats 40000000 in
theorem rvedges_ok {G : Nat → Prop} {D : List Dz} (st : Nat) (p : Option Addr) (c : Nat) (w : World) (hD : RD G D p c w) :
    Calls Tryd.prog 18 #[rsV st D p c] w fun e w' => ∃ A B R1 R2, e = .returned (.tuple #[.slice (some ⟨A, 0, none⟩) 5 5, .slice (some ⟨B, 0, none⟩) 5 5]) ∧ RowAt 3 w' A R1 ∧ RowAt 3 w' B R2 ∧ EB (DFz (fbZ D) 5 0 0) R1 ∧ EB (DFz (foZ D) 5 0 0) R2 ∧ Below w.heap.size w w' := by
  have hVE := ve_start (st := st) hD
  have hmk0 := run_make_row' (P := Tryd.prog) 32 3 (.int .i64 0) 8 Tryd.underlying32 Tryd.info3 rfl .i64 .i64 5 (by omega) (by omega)
  rw [show ((5 : Nat) : Int) = 5 from rfl] at hmk0
  obtain ⟨N, hN⟩ : ∃ N, w.heap.size = N := ⟨_, rfl⟩
  obtain ⟨G', hG'⟩ : ∃ G' : Nat → Prop, (fun j => G j ∧ j ≠ w.heap.size + 1 ∧ j ≠ w.heap.size + 1 + 1) = G' := ⟨_, rfl⟩
  rw [hG', hN] at hVE
  obtain ⟨L, hLL⟩ : ∃ L, D.length = L := ⟨_, rfl⟩
  have HLL : Hid (D.length = L) := hLL
  have HNN : Hid (w.heap.size = N) := hN
  simp only [rsV]
  rw [hLL] at hVE ⊢
  obtain ⟨wa, hwa⟩ : ∃ wa, w.alloc (.cells #[.slice p L c, .int .i64 (st : Nat)] 41) = wa := ⟨_, rfl⟩
  rw [hwa] at hVE
  have hsa : wa.heap.size = N + 1 := by rw [← hwa, ← hN]; simp
  clear hG' hLL hD
  go_enter Tryd.func18, Tryd.ntmps18
  go_wp2_with fail
  have HV0 : Hid _ := hVE
  clear hVE hmk0 hwa hsa hN
  obtain ⟨A, hAA⟩ : ∃ A, N + 1 = A := ⟨_, rfl⟩
  obtain ⟨B, hBB⟩ : ∃ B, N + 1 + 1 = B := ⟨_, rfl⟩
  simp only [hBB] at HV0 ⊢
  simp only [hAA] at HV0 ⊢
  have HAB : Hid (N + 1 = A ∧ N + 1 + 1 = B) := ⟨hAA, hBB⟩
  clear hAA hBB
  go_loopw [6] (fun u wr => ∃ (a : Nat) (R1 R2 : List Nat), u = .int .i64 (a : Nat) ∧ a ≤ 5 ∧ Hid (EB (DFz (fbZ D) a 0 0) R1) ∧ Hid (EB (DFz (foZ D) a 0 0) R2) ∧ Hid (VE N G' D st p c A B w R1 R2 wr)) (fun u _ => 5 - (intOf u).toNat)
  case atStart => exact ⟨0, _, _, rfl, Nat.zero_le _, eb_zero _, eb_zero _, HV0⟩
  case round =>
    clear HV0
    obtain ⟨a, R1, R2, rfl, ha, HE1, HE2, HV⟩ := hrel
    by_cases ha5 : a < 5
    case neg =>
      obtain rfl : a = 5 := by omega
      go_wp2_with fail
      go_ret2
      exact ⟨A, B, R1, R2, rfl, HV.out.ra, HV.out.rb, HE1.out, HE2.out, by rw [HNN.out]; exact HV.out.bl⟩
    have hai : (a : Int) < 5 := by omega
    go_wp2_with fail
    go_loopw [7] (fun u wr => ∃ (b : Nat) (R1 R2 : List Nat), u = .int .i64 (b : Nat) ∧ b ≤ 5 ∧ Hid (EB (DFz (fbZ D) a b 0) R1) ∧ Hid (EB (DFz (foZ D) a b 0) R2) ∧ Hid (VE N G' D st p c A B w R1 R2 wr)) (fun u _ => 5 - (intOf u).toNat)
    case atStart => exact ⟨0, _, _, rfl, Nat.zero_le _, HE1, HE2, HV⟩
    case round =>
      clear HE1 HE2 HV
      obtain ⟨b, R1, R2, rfl, hb, HE1, HE2, HV⟩ := hrel
      by_cases hb5 : b < 5
      case neg =>
        obtain rfl : b = 5 := by omega
        have HF1 : Hid (EB (DFz (fbZ D) (a + 1) 0 0) R1) := HE1.out.congr DFz.row
        have HF2 : Hid (EB (DFz (foZ D) (a + 1) 0 0) R2) := HE2.out.congr DFz.row
        clear HE1 HE2
        go_wp2_with fail
        go_roundw
        case rel => exact ⟨a + 1, _, _, by go_num, by omega, HF1, HF2, HV⟩
        case measure => simp [intOf]; omega
      have hbi : (b : Int) < 5 := by omega
      have l0 := HV.out.rs.c0
      rw [HLL.out] at l0
      have l1 := HV.out.rs.c1
      have sz := HV.out.rs.lt
      have hw1 := HV.out.when (a : Nat) 5
      rw [HLL.out] at hw1
      go_wp2_with fail
      refine hw1.mono ?_
      rintro e w1 ⟨rfl, HV1⟩
      clear l0 l1 sz hw1 HV
      have l0 := HV1.out.rs.c0
      rw [HLL.out] at l0
      have l1 := HV1.out.rs.c1
      have sz := HV1.out.rs.lt
      have hw2 := HV1.out.when (b : Nat) 5
      rw [HLL.out] at hw2
      go_wp2_with fail
      refine hw2.mono ?_
      rintro e w2 ⟨rfl, HV2⟩
      clear l0 l1 sz hw2 HV1
      have l0 := HV2.out.rs.c0
      rw [HLL.out] at l0
      have l1 := HV2.out.rs.c1
      have sz := HV2.out.rs.lt
      have hca := whZ_cases D (a : Nat) 5
      have hcb := whZ_cases D (b : Nat) 5
      obtain ⟨ca, hcae⟩ : ∃ z, whZ D (a : Nat) 5 = z := ⟨_, rfl⟩
      obtain ⟨cb, hcbe⟩ : ∃ z, whZ D (b : Nat) 5 = z := ⟨_, rfl⟩
      have HCA : Hid (whZ D (a : Nat) 5 = ca) := hcae
      have HCB : Hid (whZ D (b : Nat) 5 = cb) := hcbe
      rw [hcae] at hca ⊢
      rw [hcbe] at hcb
      simp only [hcbe]
      clear hcae hcbe
      have HSK : Hid (¬ goodZ D a b → EB (DFz (fbZ D) a (b + 1) 0) R1 ∧ EB (DFz (foZ D) a (b + 1) 0) R2) := fun hn => ⟨HE1.out.congr (DFz.skip fun o h => hn h.1), HE2.out.congr (DFz.skip fun o h => hn h.1)⟩
      by_cases hab : a = b
      · have gab : ((a : Int) == (b : Int)) = true := by rw [hab]; simp
        have HF := HSK.out (fun h => h.1 hab)
        have HF1 : Hid (EB (DFz (fbZ D) a (b + 1) 0) R1) := HF.1
        have HF2 : Hid (EB (DFz (foZ D) a (b + 1) 0) R2) := HF.2
        clear HF HSK hab hca hcb HE1 HE2
        go_wp2_with fail
        go_roundw
        case rel => exact ⟨b + 1, _, _, by go_num, by omega, HF1, HF2, HV2⟩
        case measure => simp [intOf]; omega
      have gab : ((a : Int) == (b : Int)) = false := by simp; omega
      have HNE : Hid (a ≠ b) := hab
      clear hab
      rcases hca with rfl | ⟨ma, rfl, hma, _⟩
      · have HF := HSK.out (fun h => by have := h.2.1; rw [HCA.out] at this; omega)
        have HF1 : Hid (EB (DFz (fbZ D) a (b + 1) 0) R1) := HF.1
        have HF2 : Hid (EB (DFz (foZ D) a (b + 1) 0) R2) := HF.2
        clear HF HSK hcb HE1 HE2
        go_wp2_with fail
        go_roundw
        case rel => exact ⟨b + 1, _, _, by go_num, by omega, HF1, HF2, HV2⟩
        case measure => simp [intOf]; omega
      have hma0 : (0 : Int) ≤ (ma : Int) := by omega
      rcases hcb with rfl | ⟨mb, rfl, hmb, _⟩
      · have HF := HSK.out (fun h => by have := h.2.2; rw [HCB.out] at this; omega)
        have HF1 : Hid (EB (DFz (fbZ D) a (b + 1) 0) R1) := HF.1
        have HF2 : Hid (EB (DFz (foZ D) a (b + 1) 0) R2) := HF.2
        clear HF HSK HE1 HE2
        go_wp2_with fail
        go_roundw
        case rel => exact ⟨b + 1, _, _, by go_num, by omega, HF1, HF2, HV2⟩
        case measure => simp [intOf]; omega
      have hmb0 : (0 : Int) ≤ (mb : Int) := by omega
      have HG : Hid (goodZ D a b) := ⟨HNE.out, by rw [HCA.out]; exact hma0, by rw [HCB.out]; exact hmb0⟩
      have HMB : Hid (mb ≤ D.length) := Nat.le_of_lt hmb
      clear HSK hma hmb
      go_wp2_with fail
      go_loopw [10] (fun u wr => ∃ (m : Nat) (R1 R2 : List Nat), u = .int .i64 (m : Nat) ∧ m ≤ 4 ∧ Hid (EB (DFz (fbZ D) a b m) R1) ∧ Hid (EB (DFz (foZ D) a b m) R2) ∧ Hid (VE N G' D st p c A B w R1 R2 wr)) (fun u _ => 4 - (intOf u).toNat)
      case atStart => exact ⟨0, _, _, rfl, Nat.zero_le _, HE1, HE2, HV2⟩
      case round =>
        clear HE1 HE2 HV2 l0 l1 sz
        obtain ⟨m, R1, R2, rfl, hm, HE1, HE2, HV⟩ := hrel
        by_cases hm4 : m < 4
        case neg =>
          obtain rfl : m = 4 := by omega
          have HF1 : Hid (EB (DFz (fbZ D) a (b + 1) 0) R1) := HE1.out.congr DFz.pair
          have HF2 : Hid (EB (DFz (foZ D) a (b + 1) 0) R2) := HE2.out.congr DFz.pair
          clear HE1 HE2
          go_wp2_with fail
          go_roundw
          case rel => exact ⟨b + 1, _, _, by go_num, by omega, HF1, HF2, HV⟩
          case measure => simp [intOf]; omega
        have hmi : (m : Int) < 4 := by omega
        have l0 := HV.out.rs.c0
        rw [HLL.out] at l0
        have l1 := HV.out.rs.c1
        have sz := HV.out.rs.lt
        obtain ⟨qa, hqa⟩ : ∃ q, wrZ D (a : Nat) (m : Nat) = q := ⟨_, rfl⟩
        obtain ⟨qb, hqb⟩ : ∃ q, wrZ D (b : Nat) (m : Nat) = q := ⟨_, rfl⟩
        obtain ⟨ra, hra⟩ : ∃ q, rfZ D (a : Nat) (m : Nat) = q := ⟨_, rfl⟩
        obtain ⟨rb, hrb⟩ : ∃ q, rfZ D (b : Nat) (m : Nat) = q := ⟨_, rfl⟩
        obtain ⟨za, hza⟩ : ∃ q, whZ D (a : Nat) 4 = q := ⟨_, rfl⟩
        obtain ⟨zb, hzb⟩ : ∃ q, whZ D (b : Nat) 4 = q := ⟨_, rfl⟩
        obtain ⟨la, hla⟩ : ∃ q, laZ D (m : Nat) mb = q := ⟨_, rfl⟩
        have HP1 : Hid (p1Z D a b m ↔ qa = true ∧ qb = true ∧ ma < mb ∧ la = ((a : Nat) : Int)) := by
          show _ ↔ _
          unfold p1Z
          rw [hqa, hqb, HCA.out, HCB.out, Int.toNat_natCast, hla]
          exact and_congr Iff.rfl (and_congr Iff.rfl (and_congr ⟨fun e => by omega, fun e => by omega⟩ Iff.rfl))
        have HP2 : Hid (p2Z D a b m ↔ qa = true ∧ rb = true ∧ (ma : Int) < zb) := by
          show _ ↔ _
          unfold p2Z
          rw [hqa, hrb, HCA.out, hzb]
        have HP3 : Hid (p3Z D a b m ↔ ra = true ∧ qb = true ∧ za < (mb : Int)) := by
          show _ ↔ _
          unfold p3Z
          rw [hra, hqb, HCB.out, hza]
        have HPO : Hid (foZ D a b m ↔ p3Z D a b m ∧ zb < (ma : Int)) := by
          show _ ↔ _
          unfold foZ
          rw [HCA.out, hzb]
          exact ⟨fun e => e.2, fun e => ⟨HG.out, e⟩⟩
        have HWA : Hid (wrZ D (a : Nat) (m : Nat) = qa) := hqa
        have HWB : Hid (wrZ D (b : Nat) (m : Nat) = qb) := hqb
        have HRA : Hid (rfZ D (a : Nat) (m : Nat) = ra) := hra
        have HRB : Hid (rfZ D (b : Nat) (m : Nat) = rb) := hrb
        have HZA : Hid (whZ D (a : Nat) 4 = za) := hza
        have HZB : Hid (whZ D (b : Nat) 4 = zb) := hzb
        have HLA : Hid (laZ D (m : Nat) mb = la) := hla
        clear hqa hqb hra hrb hza hzb hla
        go_upto_region 15 with fail
        go_cut [64] from 42 to 64 (fun u w' => ∃ q, u = .bool q ∧ Hid (q = true ↔ p1Z D a b m) ∧ Hid (VE N G' D st p c A B w R1 R2 w'))
        case first =>
          cases qa with
          | false =>
            have HI : Hid ((false : Bool) = true ↔ p1Z D a b m) := ⟨fun h => (by cases h), fun h => (by have := (HP1.out.1 h).1; cases this)⟩
            have h1 := HV.out.wrote (a : Nat) (m : Nat)
            rw [HLL.out, HWA.out] at h1
            go_wp2_with fail
            refine h1.mono ?_
            rintro e w3 ⟨rfl, H1⟩
            clear l0 l1 sz h1 HV
            have l0 := H1.out.rs.c0
            rw [HLL.out] at l0
            have l1 := H1.out.rs.c1
            have sz := H1.out.rs.lt
            go_wp2_with fail
            go_meet
            exact ⟨false, rfl, HI, H1⟩
          | true =>
          have h1 := HV.out.wrote (a : Nat) (m : Nat)
          rw [HLL.out, HWA.out] at h1
          go_wp2_with fail
          refine h1.mono ?_
          rintro e w3 ⟨rfl, H1⟩
          clear l0 l1 sz h1 HV
          have l0 := H1.out.rs.c0
          rw [HLL.out] at l0
          have l1 := H1.out.rs.c1
          have sz := H1.out.rs.lt
          cases qb with
          | false =>
            have HI : Hid ((false : Bool) = true ↔ p1Z D a b m) := ⟨fun h => (by cases h), fun h => (by have := (HP1.out.1 h).2.1; cases this)⟩
            have h2 := H1.out.wrote (b : Nat) (m : Nat)
            rw [HLL.out, HWB.out] at h2
            go_wp2_with fail
            refine h2.mono ?_
            rintro e w4 ⟨rfl, H2⟩
            clear l0 l1 sz h2 H1
            have l0 := H2.out.rs.c0
            rw [HLL.out] at l0
            have l1 := H2.out.rs.c1
            have sz := H2.out.rs.lt
            go_wp2_with fail
            go_meet
            exact ⟨false, rfl, HI, H2⟩
          | true =>
          have h2 := H1.out.wrote (b : Nat) (m : Nat)
          rw [HLL.out, HWB.out] at h2
          go_wp2_with fail
          refine h2.mono ?_
          rintro e w4 ⟨rfl, H2⟩
          clear l0 l1 sz h2 H1
          have l0 := H2.out.rs.c0
          rw [HLL.out] at l0
          have l1 := H2.out.rs.c1
          have sz := H2.out.rs.lt
          by_cases c1 : ma < mb
          case neg =>
            have HI : Hid ((false : Bool) = true ↔ p1Z D a b m) := ⟨fun h => (by cases h), fun h => absurd (HP1.out.1 h).2.2.1 c1⟩
            have v1 : decide ((ma : Int) < (mb : Int)) = false := decide_eq_false (by omega)
            have v1' : decide (ma < mb) = false := decide_eq_false c1
            clear c1
            go_wp2_with fail
            go_meet
            exact ⟨false, rfl, HI, H2⟩
          have v1 : decide ((ma : Int) < (mb : Int)) = true := decide_eq_true (by omega)
          have v1' : decide (ma < mb) = true := decide_eq_true c1
          have h3 := H2.out.last (m : Nat) mb HMB.out
          rw [HLL.out, HLA.out] at h3
          have HI : Hid ((la == ((a : Nat) : Int)) = true ↔ p1Z D a b m) := by
            show _ ↔ _
            rw [HP1.out, beq_iff_eq]
            exact ⟨fun h => by refine ⟨?_, ?_, c1, h⟩ <;> trivial, fun h => h.2.2.2⟩
          clear c1
          go_wp2_with fail
          refine h3.mono ?_
          rintro e w5 ⟨rfl, H3⟩
          clear l0 l1 sz h3 H2
          have l0 := H3.out.rs.c0
          rw [HLL.out] at l0
          have l1 := H3.out.rs.c1
          have sz := H3.out.rs.lt
          go_wp2_with fail
          go_meet
          exact ⟨_, rfl, HI, H3⟩
        case rest =>
          obtain ⟨q1, rfl, HQ1, HV1⟩ := hcut
          clear HV HP1 l0 l1 sz
          have l0 := HV1.out.rs.c0
          rw [HLL.out] at l0
          have l1 := HV1.out.rs.c1
          have sz := HV1.out.rs.lt
          go_upto_if 64 with fail
          go_cut [4] from 65 to 73 (fun u w' => u = .slice (some ⟨A, 0, none⟩) 5 5 ∧ ∃ R1', Hid (EB (F1z D a b m) R1') ∧ Hid (VE N G' D st p c A B w R1' R2 w'))
          case first =>
            cases q1 with
            | false =>
              have HEZ : Hid (EB (F1z D a b m) R1) := e1_no HE1.out (fun h => by have := HQ1.out.2 h; cases this)
              go_wp2_with fail
              go_meet
              exact ⟨rfl, R1, HEZ, HV1⟩
            | true =>
              have HPY : Hid (p1Z D a b m) := HQ1.out.1 rfl
              have kc := HV1.out.ra.cell (k := a) (by rw [HE1.out.len]; exact ha5)
              have kf := HV1.out.ra.frozen a
              have kl := HV1.out.ra.lt
              have hwi := fun W : World => with_any (M.row R1 a) b W (by have := HE1.out.lt a; omega) (by omega)
              have HVZ : Hid _ := HV1.out.setA a (M.row R1 a ||| 1 <<< b)
              have HEZ : Hid _ := e1_yes HE1.out HPY.out ha5 hb5
              obtain ⟨rr, hrr⟩ : ∃ x, M.row R1 a = x := ⟨_, rfl⟩
              rw [hrr] at kc hwi HVZ HEZ
              obtain ⟨yy, hyy⟩ : ∃ x : Nat, rr ||| 1 <<< b = x := ⟨_, rfl⟩
              rw [hyy] at HVZ HEZ
              simp only [hyy] at hwi
              clear hrr hyy
              go_wp2_with fail
              refine (hwi _).mono ?_
              rintro e w' ⟨rfl, rfl⟩
              clear hwi
              go_wp2_with fail
              go_meet
              exact ⟨rfl, _, HEZ, HVZ⟩
          case rest =>
            clear HE1 HV1 HQ1 l0 l1 sz
            obtain ⟨rfl, R1', HE1', HV'⟩ := hcut
            have l0 := HV'.out.rs.c0
            rw [HLL.out] at l0
            have l1 := HV'.out.rs.c1
            have sz := HV'.out.rs.lt
            go_upto_region 17 with fail
            go_cut [90] from 74 to 90 (fun u w' => ∃ q, u = .bool q ∧ Hid (q = true ↔ p2Z D a b m) ∧ Hid (VE N G' D st p c A B w R1' R2 w'))
            case first =>
              cases qa with
              | false =>
                have HI : Hid ((false : Bool) = true ↔ p2Z D a b m) := ⟨fun h => (by cases h), fun h => (by have := (HP2.out.1 h).1; cases this)⟩
                have h1 := HV'.out.wrote (a : Nat) (m : Nat)
                rw [HLL.out, HWA.out] at h1
                go_wp2_with fail
                refine h1.mono ?_
                rintro e w3 ⟨rfl, H1⟩
                clear l0 l1 sz h1 HV'
                have l0 := H1.out.rs.c0
                rw [HLL.out] at l0
                have l1 := H1.out.rs.c1
                have sz := H1.out.rs.lt
                go_wp2_with fail
                go_meet
                exact ⟨false, rfl, HI, H1⟩
              | true =>
              have h1 := HV'.out.wrote (a : Nat) (m : Nat)
              rw [HLL.out, HWA.out] at h1
              go_wp2_with fail
              refine h1.mono ?_
              rintro e w3 ⟨rfl, H1⟩
              clear l0 l1 sz h1 HV'
              have l0 := H1.out.rs.c0
              rw [HLL.out] at l0
              have l1 := H1.out.rs.c1
              have sz := H1.out.rs.lt
              cases rb with
              | false =>
                have HI : Hid ((false : Bool) = true ↔ p2Z D a b m) := ⟨fun h => (by cases h), fun h => (by have := (HP2.out.1 h).2.1; cases this)⟩
                have h2 := H1.out.read (b : Nat) (m : Nat)
                rw [HLL.out, HRB.out] at h2
                go_wp2_with fail
                refine h2.mono ?_
                rintro e w4 ⟨rfl, H2⟩
                clear l0 l1 sz h2 H1
                have l0 := H2.out.rs.c0
                rw [HLL.out] at l0
                have l1 := H2.out.rs.c1
                have sz := H2.out.rs.lt
                go_wp2_with fail
                go_meet
                exact ⟨false, rfl, HI, H2⟩
              | true =>
              have h2 := H1.out.read (b : Nat) (m : Nat)
              rw [HLL.out, HRB.out] at h2
              go_wp2_with fail
              refine h2.mono ?_
              rintro e w4 ⟨rfl, H2⟩
              clear l0 l1 sz h2 H1
              have l0 := H2.out.rs.c0
              rw [HLL.out] at l0
              have l1 := H2.out.rs.c1
              have sz := H2.out.rs.lt
              have h3 := H2.out.when (b : Nat) 4
              rw [HLL.out, HZB.out] at h3
              have HI : Hid (decide ((ma : Int) < zb) = true ↔ p2Z D a b m) := by
                show _ ↔ _
                rw [HP2.out, decide_eq_true_eq]
                exact ⟨fun h => by refine ⟨?_, ?_, h⟩ <;> trivial, fun h => h.2.2⟩
              go_wp2_with fail
              refine h3.mono ?_
              rintro e w5 ⟨rfl, H3⟩
              clear l0 l1 sz h3 H2
              have l0 := H3.out.rs.c0
              rw [HLL.out] at l0
              have l1 := H3.out.rs.c1
              have sz := H3.out.rs.lt
              go_wp2_with fail
              go_meet
              exact ⟨_, rfl, HI, H3⟩
            case rest =>
              clear HV' HP2 l0 l1 sz
              obtain ⟨q2, rfl, HQ2, HV2a⟩ := hcut
              have l0 := HV2a.out.rs.c0
              rw [HLL.out] at l0
              have l1 := HV2a.out.rs.c1
              have sz := HV2a.out.rs.lt
              go_upto_if 90 with fail
              go_cut [4] from 91 to 99 (fun u w' => u = .slice (some ⟨A, 0, none⟩) 5 5 ∧ ∃ R1', Hid (EB (F2z D a b m) R1') ∧ Hid (VE N G' D st p c A B w R1' R2 w'))
              case first =>
                cases q2 with
                | false =>
                  have HEZ : Hid (EB (F2z D a b m) R1') := e2_no HE1'.out (fun h => by have := HQ2.out.2 h; cases this)
                  go_wp2_with fail
                  go_meet
                  exact ⟨rfl, R1', HEZ, HV2a⟩
                | true =>
                  have HPY : Hid (p2Z D a b m) := HQ2.out.1 rfl
                  have kc := HV2a.out.ra.cell (k := a) (by rw [HE1'.out.len]; exact ha5)
                  have kf := HV2a.out.ra.frozen a
                  have kl := HV2a.out.ra.lt
                  have hwi := fun W : World => with_any (M.row R1' a) b W (by have := HE1'.out.lt a; omega) (by omega)
                  have HVZ : Hid _ := HV2a.out.setA a (M.row R1' a ||| 1 <<< b)
                  have HEZ : Hid _ := e2_yes HE1'.out HPY.out ha5 hb5
                  obtain ⟨rr, hrr⟩ : ∃ x, M.row R1' a = x := ⟨_, rfl⟩
                  rw [hrr] at kc hwi HVZ HEZ
                  obtain ⟨yy, hyy⟩ : ∃ x : Nat, rr ||| 1 <<< b = x := ⟨_, rfl⟩
                  rw [hyy] at HVZ HEZ
                  simp only [hyy] at hwi
                  clear hrr hyy
                  go_wp2_with fail
                  refine (hwi _).mono ?_
                  rintro e w' ⟨rfl, rfl⟩
                  clear hwi
                  go_wp2_with fail
                  go_meet
                  exact ⟨rfl, _, HEZ, HVZ⟩
              case rest =>
                clear HE1' HV2a HQ2 l0 l1 sz
                obtain ⟨rfl, R1'', HE1'', HV''⟩ := hcut
                have l0 := HV''.out.rs.c0
                rw [HLL.out] at l0
                have l1 := HV''.out.rs.c1
                have sz := HV''.out.rs.lt
                go_upto_region 19 with fail
                go_cut [116] from 100 to 116 (fun u w' => ∃ q, u = .bool q ∧ Hid (q = true ↔ p3Z D a b m) ∧ Hid (VE N G' D st p c A B w R1'' R2 w'))
                case first =>
                  cases ra with
                  | false =>
                    have HI : Hid ((false : Bool) = true ↔ p3Z D a b m) := ⟨fun h => (by cases h), fun h => (by have := (HP3.out.1 h).1; cases this)⟩
                    have h1 := HV''.out.read (a : Nat) (m : Nat)
                    rw [HLL.out, HRA.out] at h1
                    go_wp2_with fail
                    refine h1.mono ?_
                    rintro e w3 ⟨rfl, H1⟩
                    clear l0 l1 sz h1 HV''
                    have l0 := H1.out.rs.c0
                    rw [HLL.out] at l0
                    have l1 := H1.out.rs.c1
                    have sz := H1.out.rs.lt
                    go_wp2_with fail
                    go_meet
                    exact ⟨false, rfl, HI, H1⟩
                  | true =>
                  have h1 := HV''.out.read (a : Nat) (m : Nat)
                  rw [HLL.out, HRA.out] at h1
                  go_wp2_with fail
                  refine h1.mono ?_
                  rintro e w3 ⟨rfl, H1⟩
                  clear l0 l1 sz h1 HV''
                  have l0 := H1.out.rs.c0
                  rw [HLL.out] at l0
                  have l1 := H1.out.rs.c1
                  have sz := H1.out.rs.lt
                  cases qb with
                  | false =>
                    have HI : Hid ((false : Bool) = true ↔ p3Z D a b m) := ⟨fun h => (by cases h), fun h => (by have := (HP3.out.1 h).2.1; cases this)⟩
                    have h2 := H1.out.wrote (b : Nat) (m : Nat)
                    rw [HLL.out, HWB.out] at h2
                    go_wp2_with fail
                    refine h2.mono ?_
                    rintro e w4 ⟨rfl, H2⟩
                    clear l0 l1 sz h2 H1
                    have l0 := H2.out.rs.c0
                    rw [HLL.out] at l0
                    have l1 := H2.out.rs.c1
                    have sz := H2.out.rs.lt
                    go_wp2_with fail
                    go_meet
                    exact ⟨false, rfl, HI, H2⟩
                  | true =>
                  have h2 := H1.out.wrote (b : Nat) (m : Nat)
                  rw [HLL.out, HWB.out] at h2
                  go_wp2_with fail
                  refine h2.mono ?_
                  rintro e w4 ⟨rfl, H2⟩
                  clear l0 l1 sz h2 H1
                  have l0 := H2.out.rs.c0
                  rw [HLL.out] at l0
                  have l1 := H2.out.rs.c1
                  have sz := H2.out.rs.lt
                  have h3 := H2.out.when (a : Nat) 4
                  rw [HLL.out, HZA.out] at h3
                  have HI : Hid (decide (za < (mb : Int)) = true ↔ p3Z D a b m) := by
                    show _ ↔ _
                    rw [HP3.out, decide_eq_true_eq]
                    exact ⟨fun h => by refine ⟨?_, ?_, h⟩ <;> trivial, fun h => h.2.2⟩
                  go_wp2_with fail
                  refine h3.mono ?_
                  rintro e w5 ⟨rfl, H3⟩
                  clear l0 l1 sz h3 H2
                  have l0 := H3.out.rs.c0
                  rw [HLL.out] at l0
                  have l1 := H3.out.rs.c1
                  have sz := H3.out.rs.lt
                  go_wp2_with fail
                  go_meet
                  exact ⟨_, rfl, HI, H3⟩
                case rest =>
                  clear HV'' HP3 l0 l1 sz
                  obtain ⟨q3, rfl, HQ3, HV3⟩ := hcut
                  have l0 := HV3.out.rs.c0
                  rw [HLL.out] at l0
                  have l1 := HV3.out.rs.c1
                  have sz := HV3.out.rs.lt
                  cases q3 with
                  | false =>
                    have HN3 : Hid (¬ p3Z D a b m) := fun h => by have := HQ3.out.2 h; cases this
                    have HEZ : Hid (EB (DFz (fbZ D) a b (m + 1)) R1'') := e3_no HE1''.out HG.out HN3.out ha5 hb5 hm4
                    have HOZ : Hid (EB (DFz (foZ D) a b (m + 1)) R2) := o_no HE2.out (fun h => HN3.out (HPO.out.1 h).1) ha5 hb5 hm4
                    go_wp2_with fail
                    go_roundw
                    case rel => exact ⟨m + 1, _, _, by go_num, by omega, HEZ, HOZ, HV3⟩
                    case measure => simp [intOf]; omega
                  | true =>
                    have HPY : Hid (p3Z D a b m) := HQ3.out.1 rfl
                    have kc := HV3.out.ra.cell (k := a) (by rw [HE1''.out.len]; exact ha5)
                    have kf := HV3.out.ra.frozen a
                    have kl := HV3.out.ra.lt
                    have hwi := fun W : World => with_any (M.row R1'' a) b W (by have := HE1''.out.lt a; omega) (by omega)
                    have HVZ : Hid _ := HV3.out.setA a (M.row R1'' a ||| 1 <<< b)
                    have HEZ : Hid _ := e3_yes HE1''.out HG.out HPY.out ha5 hb5 hm4
                    obtain ⟨rr, hrr⟩ : ∃ x, M.row R1'' a = x := ⟨_, rfl⟩
                    rw [hrr] at kc hwi HVZ HEZ
                    obtain ⟨yy, hyy⟩ : ∃ x : Nat, rr ||| 1 <<< b = x := ⟨_, rfl⟩
                    rw [hyy] at HVZ HEZ
                    simp only [hyy] at hwi
                    clear hrr hyy
                    go_wp2_with fail
                    refine (hwi _).mono ?_
                    rintro e w' ⟨rfl, rfl⟩
                    clear hwi
                    obtain ⟨wz, hwz⟩ : ∃ wz, wc.setCell ⟨A, a, none⟩ (.int .i64 (yy : Nat)) = wz := ⟨_, rfl⟩
                    rw [hwz] at HVZ
                    have t0 := HVZ.out.rs.c0
                    rw [HLL.out] at t0
                    have t1 := HVZ.out.rs.c1
                    have tz := HVZ.out.rs.lt
                    have h4 := HVZ.out.when (b : Nat) 4
                    rw [HLL.out, HZB.out] at h4
                    go_wp2_with fail
                    refine h4.mono ?_
                    rintro e w6 ⟨rfl, H4⟩
                    clear l0 l1 sz h4 HVZ HV3 t0 t1 tz kc kf kl hwz
                    have l0 := H4.out.rs.c0
                    rw [HLL.out] at l0
                    have l1 := H4.out.rs.c1
                    have sz := H4.out.rs.lt
                    by_cases c2 : zb < (ma : Int)
                    case neg =>
                      have HOZ : Hid (EB (DFz (foZ D) a b (m + 1)) R2) := o_no HE2.out (fun h => c2 (HPO.out.1 h).2) ha5 hb5 hm4
                      have v2 : decide (zb < (ma : Int)) = false := decide_eq_false c2
                      clear c2
                      go_wp2_with fail
                      go_roundw
                      case rel => exact ⟨m + 1, _, _, by go_num, by omega, HEZ, HOZ, H4⟩
                      case measure => simp [intOf]; omega
                    have HPO2 : Hid (foZ D a b m) := HPO.out.2 ⟨HPY.out, c2⟩
                    have v2 : decide (zb < (ma : Int)) = true := decide_eq_true c2
                    clear c2
                    have HEY : Hid _ := HEZ
                    clear HEZ
                    have kc := H4.out.rb.cell (k := a) (by rw [HE2.out.len]; exact ha5)
                    have kf := H4.out.rb.frozen a
                    have kl := H4.out.rb.lt
                    have hwi := fun W : World => with_any (M.row R2 a) b W (by have := HE2.out.lt a; omega) (by omega)
                    have HVZ : Hid _ := H4.out.setB a (M.row R2 a ||| 1 <<< b)
                    have HEZ : Hid _ := o_yes HE2.out HPO2.out ha5 hb5 hm4
                    obtain ⟨r2, hr2⟩ : ∃ x, M.row R2 a = x := ⟨_, rfl⟩
                    rw [hr2] at kc hwi HVZ HEZ
                    obtain ⟨y2, hy2⟩ : ∃ x : Nat, r2 ||| 1 <<< b = x := ⟨_, rfl⟩
                    rw [hy2] at HVZ HEZ
                    simp only [hy2] at hwi
                    clear hr2 hy2
                    go_wp2_with fail
                    refine (hwi _).mono ?_
                    rintro e w' ⟨rfl, rfl⟩
                    clear hwi
                    go_wp2_with fail
                    go_roundw
                    case rel => exact ⟨m + 1, _, _, by go_num, by omega, HEY, HEZ, HVZ⟩
                    case measure => simp [intOf]; omega
end Go.Proofs.YtajiichehffaaaaDoor
