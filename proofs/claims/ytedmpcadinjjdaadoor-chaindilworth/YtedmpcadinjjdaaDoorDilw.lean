/- DILWORTH: AS FEW ROWS AS THE WIDEST HAS THINGS: the law's walk: at whatever numbers the call returns true, and what lay in memory lies as it lay; the library's table lies where its variable is. -/
import Derived.Test.YtedmpcadinjjdaaDoorCFact
import Derived.Test.YtedmpcadinjjdaaDoorRefMany
import Derived.Test.YtedmpcadinjjdaaDoorRws
import Derived.Deep.CutRange
namespace Go.Proofs.YtedmpcadinjjdaaDoor
open Go.RowKit

set_option maxRecDepth 100000 in
set_option maxHeartbeats 1000000 in
theorem dilw_err (zs : List Int) (q : Value) (p : Option Addr) (n cap d : Nat) (w : World) (hl : zs.length = n) (he : Env w) (hmax : n ≤ maxLen) (hc : Has zs p w) (h0 : code zs = d) (hne : d ≠ 0) :
    Calls Tryd.prog 8 #[.slice p n cap, q] w fun e w' => e = .returned (.bool true) ∧ Below w.heap.size w w' := by
  go_enter Tryd.func8, Tryd.ntmps8
  go_wp2_with fail
  refine (cfact_any _ he).mono ?_
  rintro e w1 ⟨rfl, hB1⟩
  go_wp2_with fail
  refine (rows_err zs p n cap d _ hl (he.later hB1) hmax (hc.later hB1) h0 hne).mono ?_
  rintro e w2 ⟨rfl, hB2⟩
  have hC2 := hB1.trans (hB2.mono hB1.size)
  go_wp2_with fail
  refine (widest_err zs p n cap d _ hl (he.later hC2) hmax (hc.later hC2) h0 hne).mono ?_
  rintro e w3 ⟨rfl, hB3⟩
  have hC3 := hC2.trans (hB3.mono hC2.size)
  go_wp2_with fail
  refine (behind_err zs p n cap d _ hl (he.later hC3) hmax (hc.later hC3) h0 hne).mono ?_
  rintro e w4 ⟨rfl, hB4⟩
  go_wp2
  go_ret
  exact ⟨rfl, hC3.trans (hB4.mono hC3.size)⟩

set_option maxRecDepth 100000 in
set_option maxHeartbeats 8000000 in
theorem dilw_ok (zs : List Int) (set : Int) (p : Option Addr) (n cap : Nat) (w : World) (hl : zs.length = n) (he : Env w) (hmax : n ≤ maxLen) (hc : Has zs p w) (h0 : code zs = 0) :
    Calls Tryd.prog 8 #[.slice p n cap, .int .i64 set] w fun e w' => e = .returned (.bool true) ∧ Below w.heap.size w w' := by
  have hz := code_zero h0
  have hok := nats_ok hz.2.1
  have hn : n ≤ 12 := by omega
  have hpw := pow_lt n hn
  have htr := clo_tr hok hz.2.2
  have hcl : (M.clo (nats zs)).length = n := by rw [M.clo_length, nats_length, hl]
  have hco := M.clo_ok hok
  have hcb : ∀ i, M.row (M.clo (nats zs)) i < 4096 := fun i => by have := hco i; rw [hcl] at this; omega
  obtain ⟨hkl, hgood⟩ := M.rows_good (by omega) htr
  have hmany := M.rows_many (by omega) htr
  have hw := M.widest_is (M.clo (nats zs))
  have hanti := (M.side_anti (c := M.clo (nats zs)) (by omega) hw.lt).1 hw.ok
  have hwl := hw.lt
  have hbest := hw.best
  rw [hcl] at hkl hwl hanti hbest
  go_enter Tryd.func8, Tryd.ntmps8
  go_wp2_with fail
  refine (cfact_any _ he).mono ?_
  rintro e w1 ⟨rfl, hB1⟩
  go_wp2_with fail
  refine (rows_ok zs p n cap _ hl (he.later hB1) hmax (hc.later hB1) h0).mono ?_
  rintro e w2 ⟨A, rfl, hrk, hA, hB2⟩
  have hC2 := hB1.trans (hB2.mono hB1.size)
  go_wp2_with fail
  refine (widest_ok zs p n cap _ hl (he.later hC2) hmax (hc.later hC2) h0).mono ?_
  rintro e w3 ⟨rfl, hB3⟩
  have hC3 := hC2.trans (hB3.mono hC2.size)
  have hrk := hrk.below hB3 hrk.lt
  go_wp2_with fail
  refine (behind_ok zs p n cap _ hl (he.later hC3) hmax (hc.later hC3) h0).mono ?_
  rintro e w4 ⟨A4, rfl, hrc, hA4, hB4⟩
  have hC4 := hC3.trans (hB4.mono hC3.size)
  have hrk := hrk.below hB4 hrk.lt
  clear hB1 hB2 hB3 hC2 hC3 hB4
  obtain ⟨c, hcd⟩ : ∃ c, M.clo (nats zs) = c := ⟨_, rfl⟩
  rw [hcd] at hrc hcl hcb hgood hmany hanti hbest hwl hrk hkl
  obtain ⟨k, hkd⟩ : ∃ k, M.rows c = k := ⟨_, rfl⟩
  rw [hkd] at hrk hkl hgood hmany
  obtain ⟨wd, hwd⟩ : ∃ wd, M.widest c = wd := ⟨_, rfl⟩
  rw [hcd, hwd]
  rw [hwd] at hanti hbest hwl hgood hmany
  have hmy := fun W => many_any wd W (by omega)
  have HM : Hid (M.nxt k = M.pc wd) := hmany
  have hG : Hid (M.Good c (M.pc wd) k) := hgood
  have hAn : Hid (M.Anti n (M.lt c) wd.testBit) := hanti
  have hBe : Hid (∀ s, s < 2 ^ n → M.side c s = true → M.pc s ≤ M.pc wd ∧ (M.pc s = M.pc wd → wd ≤ s)) := hbest
  have hnk : ∀ i, i ≤ n → M.nxt (k.take i) ≤ 12 := fun i hi => by
    refine M.nxt_le (fun x hx => ?_)
    obtain ⟨j, hj, rfl⟩ := M.mem_row (List.mem_of_mem_take hx)
    have := (hgood j hj).1
    have := M.cnt_le 12 wd
    unfold M.pc at *
    omega
  have hwd4 : wd < 4096 := by omega
  clear hcd hkd hwd hmany hgood hanti hbest hw hco htr hok hz
  go_wp2_with fail
  go_loopw [12, 13] (fun u v wr => ∃ (i mv : Nat), u = .int .i64 mv ∧ v = .int .i64 i ∧ i ≤ n ∧ mv ≤ 12 ∧ Hid (mv = M.nxt (k.take i)) ∧ Below w4.heap.size w4 wr) (fun _ v _ => n - (intOf v).toNat)
  case atStart => exact ⟨0, 0, rfl, rfl, Nat.zero_le _, by omega, (by simp [M.nxt] : 0 = M.nxt (k.take 0)), Below.refl _ _⟩
  case round =>
    obtain ⟨i, mv, rfl, rfl, hin, hmo, hmv, hBr⟩ := hrel
    by_cases hi : i < n
    · have hci := (hrk.below hBr hrk.lt).cell (k := i) (by omega)
      have hgi := hG.out i (by omega)
      have hnx : M.nxt (k.take (i + 1)) = max mv (M.row k i + 1) := by
        rw [List.take_succ_eq_append_getElem (by omega), M.nxt_snoc, ← hmv.out]
        congr 2
        simp [M.row, show i < k.length by omega]
      have hle := hgi.2.1
      rw [← hmv.out] at hle
      have hn2 := hnk (i + 1) (by omega)
      rw [hnx] at hn2
      obtain ⟨r, hrd⟩ : ∃ r, M.row k i = r := ⟨_, rfl⟩
      rw [hrd] at hci hnx hle hn2
      obtain ⟨mv2, hmv2⟩ : ∃ mv2, max mv (r + 1) = mv2 := ⟨_, rfl⟩
      rw [hmv2] at hnx hn2
      have hmvx : Hid (mv2 = M.nxt (k.take (i + 1))) := hnx.symm
      clear hnx hgi
      go_upto_if 95 with fail
      go_cut [12] from 71 to 142 (fun u w' => u = .int .i64 mv2 ∧ w' = wr)
      case first =>
        by_cases he : r = mv
        · have e1 : (mv : Int) + 1 = (mv2 : Int) := by omega
          have e2 : ((r : Int) == (mv : Int)) = true := by simp; omega
          clear he hmv2
          go_wp2_with fail
          go_meet
          case rel => exact ⟨rfl, rfl⟩
        · have e1 : mv = mv2 := by omega
          have e2 : ((r : Int) == (mv : Int)) = false := by simp; omega
          clear he
          go_wp2_with fail
          go_meet
          case rel => exact ⟨by rw [e1], rfl⟩
      case rest =>
        obtain ⟨rfl, rfl⟩ := hcut
        go_wp2_with fail
        go_loopw [14] (fun v wr2 => ∃ j : Nat, v = .int .i64 j ∧ j ≤ i ∧ Below w4.heap.size w4 wr2) (fun v _ => i - (intOf v).toNat)
        case atStart => exact ⟨0, rfl, Nat.zero_le _, hBr⟩
        case round =>
          obtain ⟨j, rfl, hji, hBs⟩ := hrel
          by_cases hj : j < i
          · have hkj := (hrk.below hBs hrk.lt).cell (k := j) (by omega)
            have hki := (hrk.below hBs hrk.lt).cell (k := i) (by omega)
            have hcj := (hrc.below hBs hrc.lt).cell (k := j) (by omega)
            have hcc := (hrc.below hBs hrc.lt).cell (k := i) (by omega)
            have hsi := hcb i
            have hsj := hcb j
            have hc1 : r = M.row k j → ((M.row c i).testBit j || (M.row c j).testBit i) = true := fun e => (hG.out i (by omega)).2.2 j hj (by rw [hrd]; exact e.symm)
            have hc2 : wd.testBit i = true → wd.testBit j = true → ((M.row c i).testBit j || (M.row c j).testBit i) = false := fun h1 h2 => by
              have a1 := hAn.out i j (by omega) (by omega) h1 h2
              have a2 := hAn.out j i (by omega) (by omega) h2 h1
              unfold M.lt at a1 a2
              rw [a1, a2]; rfl
            rw [hrd] at hki
            obtain ⟨rj, hrj⟩ : ∃ rj, M.row k j = rj := ⟨_, rfl⟩
            obtain ⟨si, hsid⟩ : ∃ si, M.row c i = si := ⟨_, rfl⟩
            obtain ⟨sj, hsjd⟩ : ∃ sj, M.row c j = sj := ⟨_, rfl⟩
            rw [hrj] at hkj hc1
            rw [hsid] at hcc hsi hc1 hc2
            rw [hsjd] at hcj hsj hc1 hc2
            clear hrj hsid hsjd
            have hx1 := fun W => bit_any si j W (by omega) (by omega)
            have hx2 := fun W => bit_any sj i W (by omega) (by omega)
            have hb1 := fun W => bit_any wd i W (by omega) (by omega)
            have hb2 := fun W => bit_any wd j W (by omega) (by omega)
            obtain ⟨x, hxd⟩ : ∃ x, si.testBit j = x := ⟨_, rfl⟩
            obtain ⟨y, hyd⟩ : ∃ y, sj.testBit i = y := ⟨_, rfl⟩
            obtain ⟨bi, hbid⟩ : ∃ b, wd.testBit i = b := ⟨_, rfl⟩
            obtain ⟨bj, hbjd⟩ : ∃ b, wd.testBit j = b := ⟨_, rfl⟩
            simp only [hxd] at hx1
            simp only [hyd] at hx2
            simp only [hbid] at hb1
            simp only [hbjd] at hb2
            rw [hxd, hyd] at hc1 hc2
            rw [hbid, hbjd] at hc2
            clear hxd hyd hbid hbjd
            obtain ⟨nb, hnb⟩ : ∃ nb, (x || y) = nb := ⟨_, rfl⟩
            rw [hnb] at hc1 hc2
            go_upto_region 22 with fail
            go_cut [15] from 98 to 142 (fun u w' => u = .bool nb ∧ w' = wr)
            case first =>
              cases x with
              | true =>
                go_wp2_with fail
                refine (hx1 _).mono ?_
                rintro e w5 ⟨rfl, rfl⟩
                go_wp2_with fail
                go_meet
                case rel => exact ⟨(by subst hnb; rfl), rfl⟩
              | false =>
                go_wp2_with fail
                refine (hx1 _).mono ?_
                rintro e w5 ⟨rfl, rfl⟩
                go_wp2_with fail
                refine (hx2 _).mono ?_
                rintro e w5 ⟨rfl, rfl⟩
                go_wp2_with fail
                go_meet
                case rel => exact ⟨(by subst hnb; rfl), rfl⟩
            case rest =>
              obtain ⟨rfl, rfl⟩ := hcut
              clear hnb hx1 hx2
              cases nb with
              | true =>
                have hbb : bi = true → bj = false := fun h => by
                  cases bj with
                  | false => rfl
                  | true => have := hc2 h rfl; cases this
                clear hc1 hc2
                by_cases heq : r = rj
                · have e2 : ((r : Int) == (rj : Int)) = true := by simp; omega
                  clear heq
                  cases bi with
                  | false =>
                    go_wp2_with fail
                    go_quiet (first
                      | (go_at_call_of 14 (Value.int IntKind.i64 ((i : Nat) : Int)); exact Calls.quiet_of_same ((hb1 _).mono (fun e w' h => ⟨h.1, h.2.symm⟩)))
                      | (go_at_call_of 14 (Value.int IntKind.i64 ((j : Nat) : Int)); exact Calls.quiet_of_same ((hb2 _).mono (fun e w' h => ⟨h.1, h.2.symm⟩))))
                    go_wp2_with fail
                    go_roundw
                    case rel => exact ⟨j + 1, by go_num, by omega, hBs.trans ((below_drewS _ _).mono hBs.size)⟩
                    case measure => simp [intOf]; omega
                  | true =>
                    obtain rfl := hbb rfl
                    go_wp2_with fail
                    go_quiet (first
                      | (go_at_call_of 14 (Value.int IntKind.i64 ((i : Nat) : Int)); exact Calls.quiet_of_same ((hb1 _).mono (fun e w' h => ⟨h.1, h.2.symm⟩)))
                      | (go_at_call_of 14 (Value.int IntKind.i64 ((j : Nat) : Int)); exact Calls.quiet_of_same ((hb2 _).mono (fun e w' h => ⟨h.1, h.2.symm⟩))))
                    go_wp2_with fail
                    go_roundw
                    case rel => exact ⟨j + 1, by go_num, by omega, hBs.trans ((below_drewS _ _).mono hBs.size)⟩
                    case measure => simp [intOf]; omega
                · have e2 : ((r : Int) == (rj : Int)) = false := by simp; omega
                  clear heq
                  cases bi with
                  | false =>
                    go_wp2_with fail
                    go_quiet (first
                      | (go_at_call_of 14 (Value.int IntKind.i64 ((i : Nat) : Int)); exact Calls.quiet_of_same ((hb1 _).mono (fun e w' h => ⟨h.1, h.2.symm⟩)))
                      | (go_at_call_of 14 (Value.int IntKind.i64 ((j : Nat) : Int)); exact Calls.quiet_of_same ((hb2 _).mono (fun e w' h => ⟨h.1, h.2.symm⟩))))
                    go_wp2_with fail
                    go_roundw
                    case rel => exact ⟨j + 1, by go_num, by omega, hBs.trans ((below_drewS _ _).mono hBs.size)⟩
                    case measure => simp [intOf]; omega
                  | true =>
                    obtain rfl := hbb rfl
                    go_wp2_with fail
                    go_quiet (first
                      | (go_at_call_of 14 (Value.int IntKind.i64 ((i : Nat) : Int)); exact Calls.quiet_of_same ((hb1 _).mono (fun e w' h => ⟨h.1, h.2.symm⟩)))
                      | (go_at_call_of 14 (Value.int IntKind.i64 ((j : Nat) : Int)); exact Calls.quiet_of_same ((hb2 _).mono (fun e w' h => ⟨h.1, h.2.symm⟩))))
                    go_wp2_with fail
                    go_roundw
                    case rel => exact ⟨j + 1, by go_num, by omega, hBs.trans ((below_drewS _ _).mono hBs.size)⟩
                    case measure => simp [intOf]; omega
              | false =>
                have heq : r ≠ rj := fun e => by have := hc1 e; cases this
                have e2 : ((r : Int) == (rj : Int)) = false := by simp; omega
                clear hc1 hc2 heq
                cases bi with
                | false =>
                  go_wp2_with fail
                  go_quiet (first
                    | (go_at_call_of 14 (Value.int IntKind.i64 ((i : Nat) : Int)); exact Calls.quiet_of_same ((hb1 _).mono (fun e w' h => ⟨h.1, h.2.symm⟩)))
                    | (go_at_call_of 14 (Value.int IntKind.i64 ((j : Nat) : Int)); exact Calls.quiet_of_same ((hb2 _).mono (fun e w' h => ⟨h.1, h.2.symm⟩))))
                  go_wp2_with fail
                  go_roundw
                  case rel => exact ⟨j + 1, by go_num, by omega, hBs.trans ((below_drewS _ _).mono hBs.size)⟩
                  case measure => simp [intOf]; omega
                | true =>
                  cases bj with
                  | false =>
                    go_wp2_with fail
                    go_quiet (first
                      | (go_at_call_of 14 (Value.int IntKind.i64 ((i : Nat) : Int)); exact Calls.quiet_of_same ((hb1 _).mono (fun e w' h => ⟨h.1, h.2.symm⟩)))
                      | (go_at_call_of 14 (Value.int IntKind.i64 ((j : Nat) : Int)); exact Calls.quiet_of_same ((hb2 _).mono (fun e w' h => ⟨h.1, h.2.symm⟩))))
                    go_wp2_with fail
                    go_roundw
                    case rel => exact ⟨j + 1, by go_num, by omega, hBs.trans ((below_drewS _ _).mono hBs.size)⟩
                    case measure => simp [intOf]; omega
                  | true =>
                    go_wp2_with fail
                    go_quiet (first
                      | (go_at_call_of 14 (Value.int IntKind.i64 ((i : Nat) : Int)); exact Calls.quiet_of_same ((hb1 _).mono (fun e w' h => ⟨h.1, h.2.symm⟩)))
                      | (go_at_call_of 14 (Value.int IntKind.i64 ((j : Nat) : Int)); exact Calls.quiet_of_same ((hb2 _).mono (fun e w' h => ⟨h.1, h.2.symm⟩))))
                    go_wp2_with fail
                    go_roundw
                    case rel => exact ⟨j + 1, by go_num, by omega, hBs.trans ((below_drewS _ _).mono hBs.size)⟩
                    case measure => simp [intOf]; omega
          · obtain rfl : j = i := by omega
            go_wp2_with fail
            go_roundw
            case rel => exact ⟨j + 1, mv2, rfl, by go_num, by omega, hn2, hmvx, hBs⟩
            case measure => simp [intOf]; omega
    · obtain rfl : i = n := by omega
      have hmp : mv = M.pc wd := by rw [hmv.out, ← HM.out, ← hkl, List.take_length]
      have hpc2 : Hid (M.pc wd = mv) := hmp.symm
      rw [← hmp] at hmy
      clear hmp
      obtain ⟨q, hqd⟩ : ∃ q : Nat, 2 ^ i = q := ⟨_, rfl⟩
      have hp2 := fun W => pow2_any i q W hn hqd
      have HQ : Hid (2 ^ i = q) := hqd
      rw [hqd] at hpw
      clear hqd
      by_cases hs0 : set < 0
      · have e1 : decide (set < 0) = true := decide_eq_true hs0
        go_wp2_with fail
        refine (hmy _).mono ?_
        rintro e w5 ⟨rfl, rfl⟩
        go_wp2_with fail
        go_ret
        exact ⟨rfl, hC4.trans (hBr.mono hC4.size)⟩
      · obtain ⟨t, rfl⟩ : ∃ t : Nat, set = (t : Int) := ⟨set.toNat, by omega⟩
        by_cases hst : q ≤ t
        · have e2 : decide ((t : Int) ≥ (q : Int)) = true := decide_eq_true (by omega)
          have e3 : decide ((q : Int) ≤ (t : Int)) = true := decide_eq_true (by omega)
          go_wp2_with fail
          refine (hmy _).mono ?_
          rintro e w5 ⟨rfl, rfl⟩
          go_wp2_with fail
          refine (hp2 _).mono ?_
          rintro e w5 ⟨rfl, rfl⟩
          go_wp2_with fail
          go_ret
          exact ⟨rfl, hC4.trans (hBr.mono hC4.size)⟩
        · have ht4 : t < 4096 := by omega
          go_wp2_with fail
          refine (hmy _).mono ?_
          rintro e w5 ⟨rfl, rfl⟩
          go_wp2_with fail
          refine (hp2 _).mono ?_
          rintro e w5 ⟨rfl, rfl⟩
          go_wp2_with fail
          go_loopw [16] (fun v wr2 => ∃ j : Nat, v = .int .i64 j ∧ j ≤ i ∧ Hid (∀ u, u < j → t.testBit u = true → M.row c u &&& t = 0) ∧ Below w4.heap.size w4 wr2) (fun v _ => i - (intOf v).toNat)
          case atStart => exact ⟨0, rfl, Nat.zero_le _, (fun u hu => by omega : ∀ u, u < 0 → _), hBr⟩
          case round =>
            obtain ⟨j, rfl, hji, hsd, hBs⟩ := hrel
            by_cases hj : j < i
            · have hcj := (hrc.below hBs hrc.lt).cell (k := j) (by omega)
              have hsj := hcb j
              have hb1 := bit_any t j wr (by omega) (by omega)
              have hbo := both_any (M.row c j) t wr hsj ht4
              have hnx : ∀ b, t.testBit j = b → (b = true → M.row c j &&& t = 0) → ∀ u, u < j + 1 → t.testBit u = true → M.row c u &&& t = 0 := fun b hb h u hu hu2 => by
                by_cases e : u = j
                · rw [e] at hu2 ⊢; exact h (hb.symm.trans hu2)
                · exact hsd.out u (by omega) hu2
              obtain ⟨sj, hsjd⟩ : ∃ sj, M.row c j = sj := ⟨_, rfl⟩
              rw [hsjd] at hcj hsj hbo hnx
              clear hsjd
              obtain ⟨b, hb⟩ : ∃ b, t.testBit j = b := ⟨_, rfl⟩
              obtain ⟨o, ho⟩ : ∃ o, sj &&& t = o := ⟨_, rfl⟩
              have HN := hnx b hb
              rw [hb] at hb1
              rw [ho] at hbo HN
              have HN2 : Hid ((b = true → o = 0) → ∀ u, u < j + 1 → t.testBit u = true → M.row c u &&& t = 0) := HN
              clear hnx hb ho HN
              cases b with
              | false =>
                go_wp2_with fail
                refine hb1.mono ?_
                rintro e w5 ⟨rfl, rfl⟩
                go_wp2_with fail
                go_roundw
                case rel => exact ⟨j + 1, by go_num, by omega, HN2.out (fun h => by cases h), hBs⟩
                case measure => simp [intOf]; omega
              | true =>
                by_cases ho0 : o = 0
                · have e4 : ((o : Int) != 0) = false := by simp; omega
                  have HZ : Hid (o = 0) := ho0
                  clear ho0
                  go_wp2_with fail
                  refine hb1.mono ?_
                  rintro e w5 ⟨rfl, rfl⟩
                  go_wp2_with fail
                  refine hbo.mono ?_
                  rintro e w5 ⟨rfl, rfl⟩
                  go_wp2_with fail
                  go_roundw
                  case rel => exact ⟨j + 1, by go_num, by omega, HN2.out (fun _ => HZ.out), hBs⟩
                  case measure => simp [intOf]; omega
                · have e4 : ((o : Int) != 0) = true := by simp; omega
                  clear ho0
                  go_wp2_with fail
                  refine hb1.mono ?_
                  rintro e w5 ⟨rfl, rfl⟩
                  go_wp2_with fail
                  refine hbo.mono ?_
                  rintro e w5 ⟨rfl, rfl⟩
                  go_wp2_with fail
                  go_ret
                  exact ⟨rfl, hC4.trans (hBs.mono hC4.size)⟩
            · obtain rfl : j = i := by omega
              have hside : M.side c t = true := M.side_iff.2 (fun u _ hu => hsd.out u (M.lt_of_testBit (n := j) (by rw [HQ.out]; omega) hu) hu)
              have hle := (hBe.out t (by rw [HQ.out]; omega) hside).1
              rw [hpc2.out] at hle
              have hmt := many_any t wr ht4
              obtain ⟨pt, hpt⟩ : ∃ pt, M.pc t = pt := ⟨_, rfl⟩
              rw [hpt] at hle hmt
              clear hpt
              have e5 : decide ((pt : Int) ≤ (mv : Int)) = true := decide_eq_true (by omega)
              go_wp2_with fail
              refine hmt.mono ?_
              rintro e w5 ⟨rfl, rfl⟩
              go_wp2_with fail
              go_ret
              exact ⟨rfl, hC4.trans (hBs.mono hC4.size)⟩
theorem dilw_walk (zs : List Int) (set : Int) (p : Option Addr) (n cap : Nat) (w : World) (hl : zs.length = n) (he : Env w) (hmax : n ≤ maxLen) (hc : Has zs p w) :
    Calls Tryd.prog 8 #[.slice p n cap, .int .i64 set] w fun e w' => e = .returned (.bool true) ∧ Below w.heap.size w w' := by
  by_cases h0 : code zs = 0
  · exact dilw_ok zs set p n cap w hl he hmax hc h0
  · exact dilw_err zs _ p n cap _ w hl he hmax hc rfl h0
theorem dilw_rowwalk (zs : List Int) (p : Option Addr) (n cap : Nat) (set : Int) (w : World) (he : Env w) (hl : zs.length = n) (hmax : n ≤ maxLen) (hc : Has zs p w) :
    Calls Tryd.prog 8 #[.slice p n cap, .int .i64 set] w fun e w' => e = .returned (.bool true) ∧ Below w.heap.size w w' :=
  dilw_walk zs set p n cap w hl he hmax hc
end Go.Proofs.YtedmpcadinjjdaaDoor
