/- LAMPORT: WHO IS BEFORE HAS LESS (law StampPlain): whatever the trace and the two numbers, the call returns true; what lay in memory lies as it lay. -/
import Derived.Test.YtnofgmbpkgnciaaSfc
import Derived.Test.YtnofgmbpkgnciaaRefBig
import Derived.Deep.CutRange
namespace Go.Proofs.Ytnofgmbpkgnciaa
open Go.RowKit

set_option maxRecDepth 100000 in
set_option maxHeartbeats 8000000 in
theorem spl_walk (P : Int) (T : List (Int × Int)) (p : Option Addr) (n cap : Nat) (iz jz : Int) (w : World) (hl : T.length = n) (hmax : n ≤ maxLen) (hc : HasE T p w) (_hiz : (Lit.int .i64 iz).wf = true) (_hjz : (Lit.int .i64 jz).wf = true) :
    Calls Try.prog 5 #[trV P p n cap, .int .i64 iz, .int .i64 jz] w fun e w' => e = .returned (.bool true) ∧ Below w.heap.size w w' := by
  have hB0 : Below w.heap.size w (w.alloc (.cells #[.int .i64 P, .slice p n cap] 24)) := (Below.refl _ _).alloc (Nat.le_refl _) _
  have hbox := tbox_new w P p n cap
  obtain ⟨wb, hwb⟩ : ∃ wb, w.alloc (.cells #[.int .i64 P, .slice p n cap] 24) = wb := ⟨_, rfl⟩
  rw [hwb] at hB0 hbox
  go_enter Try.func5, Try.ntmps5
  go_wp2_with fail
  refine (stampFact_ok _).mono ?_
  rintro e w1 ⟨rfl, hB1⟩
  have hC1 := bel_on hB0 hB1
  have hb1 := hbox.later hB1 hbox.lt
  have hk1 := hb1.procs
  have hk2 := hb1.events
  clear hwb
  go_wp2_with fail
  by_cases h0 : M.tcode P T = 0
  · refine (plain_ok P T p n cap _ hl hmax (hc.later hC1) h0).mono ?_
    rintro e w2 ⟨A, rfl, hr, hA, hB2⟩
    have hC2 := bel_on hC1 hB2
    have hb2 := hb1.later hB2 hb1.lt
    clear hk1 hk2
    have hk1 := hb2.procs
    have hk2 := hb2.events
    go_wp2_with fail
    refine (before_ok P T p n cap _ hl hmax (hc.later hC2) h0).mono ?_
    rintro e w3 ⟨A3, rfl, hr3, hA3, hB3⟩
    have hC3 := bel_on hC2 hB3
    have hb3 := hb2.later hB3 hb2.lt
    have hL := hr.below hB3 hr.lt
    have hok := M.tcode_zero.1 h0
    have hn : n ≤ 24 := hl ▸ hok.len
    clear hk1 hk2 hr
    have hc3 := hc.later hC3
    have hlb : (M.before T).length = n := by rw [M.before_length, hl]
    have hlc : (M.clocks T).length = n := by rw [M.clocks_length, hl]
    by_cases hi0 : iz < 0
    · have d1 : decide (iz < 0) = true := decide_eq_true hi0
      clear hi0
      go_wp2_with fail
      go_ret
      exact ⟨rfl, hC3⟩
    have d1 : decide (iz < 0) = false := decide_eq_false hi0
    by_cases hin : (n : Int) ≤ iz
    · have d2 : decide ((n : Int) ≤ iz) = true := decide_eq_true hin
      clear hi0 hin
      go_wp2_with fail
      go_ret
      exact ⟨rfl, hC3⟩
    have d2 : decide ((n : Int) ≤ iz) = false := decide_eq_false hin
    by_cases hj0 : jz < 0
    · have d3 : decide (jz < 0) = true := decide_eq_true hj0
      clear hi0 hin hj0
      go_wp2_with fail
      go_ret
      exact ⟨rfl, hC3⟩
    have d3 : decide (jz < 0) = false := decide_eq_false hj0
    by_cases hjn : (n : Int) ≤ jz
    · have d4 : decide ((n : Int) ≤ jz) = true := decide_eq_true hjn
      clear hi0 hin hj0 hjn
      go_wp2_with fail
      go_ret
      exact ⟨rfl, hC3⟩
    have d4 : decide ((n : Int) ≤ jz) = false := decide_eq_false hjn
    obtain ⟨i, rfl⟩ : ∃ i : Nat, iz = i := ⟨iz.toNat, by omega⟩
    obtain ⟨j, rfl⟩ : ∃ j : Nat, jz = j := ⟨jz.toNat, by omega⟩
    have hi : i < n := by omega
    have hj : j < n := by omega
    clear hi0 hin hj0 hjn d1 d2 d3 d4
    have e2 : decide ((n : Int) ≤ (i : Int)) = false := decide_eq_false (by omega)
    have e2' : decide (n ≤ i) = false := decide_eq_false (by omega)
    have e4 : decide ((n : Int) ≤ (j : Int)) = false := decide_eq_false (by omega)
    have e4' : decide (n ≤ j) = false := decide_eq_false (by omega)
    have hin : (i : Int) < (n : Int) := by omega
    have hjn : (j : Int) < (n : Int) := by omega
    have hcx := hr3.cell (k := i) (by omega)
    rw [M.before_row T (by omega)] at hcx
    have hxb : M.bs T i < 16777216 := by have h1 := M.bs_lt T i; have h2 := pow_24 i (by omega); omega
    have hli := hL.cell (k := i) (by omega)
    have hlj := hL.cell (k := j) (by omega)
    rw [M.clocks_row T (by omega)] at hli hlj
    have HT : Hid ((M.bs T i).testBit j = true → ¬ M.ck T i ≤ M.ck T j ∧ i ≠ j) := fun h => ⟨by have := M.ck_lt h; omega, by have := M.bs_in T i j h; omega⟩
    have HP : Hid (i ≠ j → M.pr T i = M.pr T j → M.ck T i ≠ M.ck T j) := fun h1 h2 => M.ck_apart h1 h2
    have HS := M.ck_step T i
    have HSk : Hid ((M.ck T i = 1 ∧ M.bs T i = 0) ∨ ∃ j, j < i ∧ (M.bs T i).testBit j = true ∧ M.ck T j + 1 = M.ck T i) := HS
    clear HS
    obtain ⟨x, hx⟩ : ∃ x, M.bs T i = x := ⟨_, rfl⟩
    have HX : Hid (M.bs T i = x) := hx
    obtain ⟨ci, hci⟩ : ∃ x, M.ck T i = x := ⟨_, rfl⟩
    obtain ⟨cj, hcj⟩ : ∃ x, M.ck T j = x := ⟨_, rfl⟩
    have HCI : Hid (M.ck T i = ci) := hci
    rw [hx] at hcx hxb HT HSk
    rw [hci] at hli HT HP HSk
    rw [hcj] at hlj HT HP
    clear hx hci hcj
    obtain ⟨b, off, rfl, hb, hp1, -⟩ := hc3 i (by omega)
    obtain ⟨_, _, e0, _, hq1, -⟩ := hc3 j (by omega)
    cases e0
    have hk2 := hb3.events
    obtain ⟨ai, hai⟩ : ∃ a, M.pr T i = a := ⟨_, rfl⟩
    obtain ⟨aj, haj⟩ : ∃ a, M.pr T j = a := ⟨_, rfl⟩
    rw [hai] at hp1 HP
    rw [haj] at hq1 HP
    clear hai haj
    obtain ⟨tb, htb⟩ : ∃ t, x.testBit j = t := ⟨_, rfl⟩
    have hbit : ∀ W, Calls Try.prog 10 #[.int .i64 x, .int .i64 j] W fun e w' => e = .returned (.bool tb) ∧ W = w' := fun W => by rw [← htb]; exact bit_big x j W (by omega) (by omega)
    rw [htb] at HT
    clear htb
    go_upto_if 108 with fail
    go_cut [108] from 13 to 144 (fun u w' => u = .bool false ∧ Below w3.heap.size w3 w')
    case first =>
      by_cases hij : i = j
      · cases tb with
        | true => exact absurd hij (HT.out rfl).2
        | false =>
          have n1 : ((i : Int) != (j : Int)) = false := by subst hij; simp
          have n2 : (i != j) = false := by subst hij; simp
          clear HT HP hij
          go_wp2_with fail
          go_big_quiet ((go_at_call 10; exact Calls.quiet_of_same ((hbit _).mono (fun e w' h => ⟨h.1, h.2.symm⟩))))
          go_wp2_with fail
          go_meet
          case rel => exact ⟨rfl, below_drewN _ _⟩
      · have n1 : ((i : Int) != (j : Int)) = true := by simp; omega
        have n2 : (i != j) = true := by simpa using hij
        obtain ⟨pe, hpe⟩ : ∃ t : Bool, (ai == aj) = t := ⟨_, rfl⟩
        have HP2 : pe = true → ((ci : Int) == (cj : Int)) = false ∧ (ci == cj) = false := fun h => by
          have h1 := HP.out hij (by rw [h] at hpe; exact beq_iff_eq.1 hpe)
          exact ⟨by simp; omega, by simpa using h1⟩
        clear HP
        cases tb with
        | true =>
          have hge := (HT.out rfl).1
          have g1 : decide ((ci : Int) ≤ (cj : Int)) = false := decide_eq_false (by omega)
          have g2 : decide (ci ≤ cj) = false := decide_eq_false hge
          clear HT hij hge
          cases pe with
          | true =>
            obtain ⟨p1, p2⟩ := HP2 rfl
            clear HP2
            go_wp2_with fail
            go_big_quiet ((go_at_call 10; exact Calls.quiet_of_same ((hbit _).mono (fun e w' h => ⟨h.1, h.2.symm⟩))))
            go_wp2_with fail
            go_meet
            case rel => exact ⟨rfl, below_drewN _ _⟩
          | false =>
            clear HP2
            go_wp2_with fail
            go_big_quiet ((go_at_call 10; exact Calls.quiet_of_same ((hbit _).mono (fun e w' h => ⟨h.1, h.2.symm⟩))))
            go_wp2_with fail
            go_meet
            case rel => exact ⟨rfl, below_drewN _ _⟩
        | false =>
          clear HT hij
          cases pe with
          | true =>
            obtain ⟨p1, p2⟩ := HP2 rfl
            clear HP2
            go_wp2_with fail
            go_big_quiet ((go_at_call 10; exact Calls.quiet_of_same ((hbit _).mono (fun e w' h => ⟨h.1, h.2.symm⟩))))
            go_wp2_with fail
            go_meet
            case rel => exact ⟨rfl, below_drewN _ _⟩
          | false =>
            clear HP2
            go_wp2_with fail
            go_big_quiet ((go_at_call 10; exact Calls.quiet_of_same ((hbit _).mono (fun e w' h => ⟨h.1, h.2.symm⟩))))
            go_wp2_with fail
            go_meet
            case rel => exact ⟨rfl, below_drewN _ _⟩
    case rest =>
      obtain ⟨rfl, hBc⟩ := hcut
      clear hcx hli hlj hp1 hq1 hk2 hbit HT HP e2 e2' e4 e4'
      go_wp2_with fail
      go_loopw [12] (fun v wr => ∃ k : Nat, v = .int .i64 k ∧ k ≤ n ∧ Hid (∀ m, m < k → x.testBit m = true → M.ck T m + 1 ≠ ci) ∧ Below w3.heap.size w3 wr) (fun v _ => n - (intOf v).toNat)
      case atStart => exact ⟨0, rfl, Nat.zero_le _, (fun m hm => absurd hm (Nat.not_lt_zero _) : ∀ m, m < 0 → x.testBit m = true → M.ck T m + 1 ≠ ci), hBc⟩
      case round =>
        obtain ⟨k, rfl, hk, hG, hBr⟩ := hrel
        have hrr := hr3.below hBr hr3.lt
        have hLr := hL.below hBr (Nat.lt_of_lt_of_le hL.lt (Nat.le_refl _))
        have hcx := hrr.cell (k := i) (by omega)
        rw [M.before_row T (by omega), HX.out] at hcx
        have hli := hLr.cell (k := i) (by omega)
        rw [M.clocks_row T (by omega), HCI.out] at hli
        clear hrr
        by_cases hlt : k < n
        · have hlk := hLr.cell (k := k) (by omega)
          rw [M.clocks_row T (by omega)] at hlk
          have hcb : M.ck T k ≤ 24 := by have := M.ck_le T k; omega
          obtain ⟨q, hq⟩ : ∃ c, M.ck T k = c := ⟨_, rfl⟩
          have HQ : Hid (M.ck T k = q) := hq
          rw [hq] at hlk hcb
          obtain ⟨q1, hq1⟩ : ∃ c, q + 1 = c := ⟨_, rfl⟩
          have hqi : (q : Int) + 1 = (q1 : Int) := by omega
          obtain ⟨t, ht⟩ : ∃ t, x.testBit k = t := ⟨_, rfl⟩
          have hbit : ∀ W, Calls Try.prog 10 #[.int .i64 x, .int .i64 k] W fun e w' => e = .returned (.bool t) ∧ W = w' := fun W => by rw [← ht]; exact bit_big x k W (by omega) (by omega)
          have hkn : (k : Int) < (n : Int) := by omega
          obtain ⟨e, he⟩ : ∃ e : Bool, ((q1 : Int) == (ci : Int)) = e := ⟨_, rfl⟩
          have he2 : (q1 == ci) = e := by rw [← he]; exact (Bool.eq_iff_iff.2 (by simp; omega))
          have HN : Hid (t = false ∨ e = false → ∀ m, m < k + 1 → x.testBit m = true → M.ck T m + 1 ≠ ci) := fun h m hm hb => by
            by_cases hmk : m = k
            · subst hmk
              rcases h with h | h
              · rw [ht, h] at hb; cases hb
              · rw [HQ.out, hq1]
                rw [h] at he2
                exact fun h9 => by rw [h9] at he2; simp at he2
            · exact hG.out m (by omega) hb
          clear hq hq1 ht
          cases t with
          | true =>
            cases e with
            | true =>
              clear HN
              go_wp2_with fail
              go_big_quiet ((go_at_call 10; exact Calls.quiet_of_same ((hbit _).mono (fun e w' h => ⟨h.1, h.2.symm⟩))))
              go_wp2_with fail
              go_ret
              exact ⟨rfl, bel_on hC3 (bel_drN hBr _)⟩
            | false =>
              have HM : Hid _ := HN.out (.inr rfl)
              clear HN
              go_wp2_with fail
              go_big_quiet ((go_at_call 10; exact Calls.quiet_of_same ((hbit _).mono (fun e w' h => ⟨h.1, h.2.symm⟩))))
              go_wp2_with fail
              go_roundw
              case rel => exact ⟨k + 1, by go_num, by omega, HM.out, bel_drN hBr _⟩
              case measure => simp [intOf]; omega
          | false =>
            have HM : Hid _ := HN.out (.inl rfl)
            clear HN
            go_wp2_with fail
            go_big_quiet ((go_at_call 10; exact Calls.quiet_of_same ((hbit _).mono (fun e w' h => ⟨h.1, h.2.symm⟩))))
            go_wp2_with fail
            go_roundw
            case rel => exact ⟨k + 1, by go_num, by omega, HM.out, bel_drN hBr _⟩
            case measure => simp [intOf]; omega
        · obtain rfl : k = n := by omega
          have hone : ci = 1 ∧ x = 0 := by
            rcases HSk.out with h | ⟨m, h1, h2, h3⟩
            · exact h
            · exact absurd h3 (hG.out m (by omega) h2)
          obtain ⟨rfl, rfl⟩ := hone
          clear hG HSk HX HCI
          go_wp2_with fail
          go_ret
          exact ⟨rfl, bel_on hC3 hBr⟩
  · obtain ⟨d, hd⟩ : ∃ d, M.tcode P T = d := ⟨_, rfl⟩
    have hd0 : d ≠ 0 := by rw [← hd]; exact h0
    refine (plain_err P T p n cap d _ hl hmax (hc.later hC1) hd hd0).mono ?_
    rintro e w2 ⟨rfl, hB2⟩
    have hC2 := bel_on hC1 hB2
    have hb2 := hb1.later hB2 hb1.lt
    clear hk1 hk2
    have hk1 := hb2.procs
    have hk2 := hb2.events
    go_wp2_with fail
    refine (before_err P T p n cap d _ hl hmax (hc.later hC2) hd hd0).mono ?_
    rintro e w3 ⟨rfl, hB3⟩
    go_wp2_with fail
    go_ret
    exact ⟨rfl, bel_on hC2 hB3⟩
end Go.Proofs.Ytnofgmbpkgnciaa
