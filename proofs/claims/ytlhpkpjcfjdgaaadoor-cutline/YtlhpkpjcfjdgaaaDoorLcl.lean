/- NOT MORE IS LOST THAN MUST BE (law CutLine), the walk. -/
import Derived.Test.YtlhpkpjcfjdgaaaDoorCfc
import Derived.Test.YtlhpkpjcfjdgaaaDoorCg
import Derived.Test.YtlhpkpjcfjdgaaaDoorCt6
namespace Go.Proofs.YtlhpkpjcfjdgaaaDoor
open Go.RowKit
set_option maxRecDepth 100000 in
set_option maxHeartbeats 4000000 in
theorem cl_walk (P : Int) (T : List (Int × Int)) (p : Option Addr) (n cap : Nat) (zs : List Int) (q : Option Addr) (m cap2 : Nat) (ys : List Int) (q3 : Option Addr) (m3 cap3 : Nat) (w : World) (he : Env w) (hl : T.length = n) (hmax : n ≤ maxLen) (hc : HasE T p w) (hl2 : zs.length = m) (hmax2 : m ≤ maxLen) (hz : HasI zs q w) (_ : ∀ k : Nat, zs[k]?.getD 0 < 9223372036854775808) (hl3 : ys.length = m3) (hmax3 : m3 ≤ maxLen) (hy : HasI ys q3 w) (_ : ∀ k : Nat, ys[k]?.getD 0 < 9223372036854775808) :
    Calls Tryd.prog 6 #[trV P p n cap, .slice q m cap2, .slice q3 m3 cap3] w fun e w' => e = .returned (.bool true) ∧ Below w.heap.size w w' := by
  obtain ⟨wa, hwa⟩ : ∃ wa, w.alloc (.cells #[.int .i64 P, .slice p n cap] 24) = wa := ⟨_, rfl⟩
  have ta : TBox wa w.heap.size P p n cap := hwa ▸ tbox_new w P p n cap
  have hBa : Below w.heap.size w wa := by rw [← hwa]; exact bel_al (Below.refl _ _) _
  go_enter Tryd.func6, Tryd.ntmps6
  go_wp2_with fail
  refine (cutFact_ok _ (he.later hBa)).mono ?_
  rintro e w1 ⟨rfl, hB1⟩
  have t1 := ta.later hB1 ta.lt
  have hC1 := bel_on hBa hB1
  have k10 := t1.procs
  have k11 := t1.events
  have k1l := t1.lt
  clear hwa ta hBa hB1
  go_wp2_with fail
  by_cases h0 : M.ccode P T zs = 0
  · have hok := (M.ccode_zero.1 h0).1
    obtain ⟨c, rfl, hCk⟩ := ccode_get h0
    have hlc : c.length = m := by rw [ints_length] at hl2; exact hl2
    have hP5 := hok.p5
    have hcP := hCk.len
    refine (cline_ok P T p n cap (ints c) q m cap2 _ hl (he.later hC1) hmax (hc.later hC1) hl2 hmax2 (hz.later hC1) h0).mono ?_
    rw [cof0_ints]
    rintro e w2 ⟨A, rfl, hrl, hA, hB2⟩
    have t2 := t1.later hB2 t1.lt
    have hC2 := bel_on hC1 hB2
    have k20 := t2.procs
    have k21 := t2.events
    have k2l := t2.lt
    clear t1 k10 k11 k1l hB2 hC1 h0
    have hLk := M.line_ok (T := T) hCk.len
    have hll : (M.line T c).length = m := by rw [M.line_length, hlc]
    have hwh := M.line_whole hok hCk.len
    go_wp2_with fail
    refine (cis_ok P T p n cap (ints (M.line T c)) _ m m _ hl (he.later hC2) hmax (hc.later hC2) (by rw [ints_length, hll]) hmax2 (RowAt.hasI hrl) (ccode_ints hok hLk)).mono ?_
    rw [cof0_ints, hwh]
    rintro e w3 ⟨rfl, hB3⟩
    have t3 := t2.later hB3 t2.lt
    have hC3 := bel_on hC2 hB3
    have hr3 := hrl.below hB3 hrl.lt
    have hz3 := hz.later hC3
    have hy3 := hy.later hC3
    clear t2 k20 k21 k2l hB3 hC2 hwh hLk hrl
    unfold maxLen at hmax2
    go_wp2_with fail
    go_loopw [12] (fun v wr => ∃ i : Nat, v = .int .i64 i ∧ i ≤ m ∧ Below w3.heap.size w3 wr) (fun v _ => m - (intOf v).toNat)
    case atStart => exact ⟨0, rfl, Nat.zero_le _, Below.refl _ _⟩
    case round =>
      obtain ⟨i, rfl, hi, hB⟩ := hrel
      by_cases hlt : i < m
      · have hcx := (hr3.below hB hr3.lt).cell (k := i) (by omega)
        have hlx := (hr3.below hB hr3.lt).lt
        rw [M.line_row T (by omega)] at hcx
        have hle := M.line_le T c i
        obtain ⟨x, hx⟩ : ∃ x, M.ln T c i = x := ⟨_, rfl⟩
        obtain ⟨y, hye⟩ : ∃ y, M.row c i = y := ⟨_, rfl⟩
        obtain ⟨b, off, rfl, hb, hcy⟩ := hasI_nat (hz3.later hB) (show i < c.length by omega) hye
        rw [hx] at hcx hle
        rw [hye] at hle
        have hd : decide ((y : Int) < (x : Int)) = false := decide_eq_false (by omega)
        have hd' : decide (y < x) = false := decide_eq_false (by omega)
        clear hx hye
        go_wp2_with fail
        go_big_quiet (fail)
        go_wp2_with fail
        go_roundw
        case rel => exact ⟨i + 1, by go_num, by omega, bel_drN hB _⟩
        case measure => simp [intOf]; omega
      · obtain rfl : m = i := by omega
        obtain ⟨w4, hw4⟩ : ∃ w4, w4 = wr := ⟨_, rfl⟩
        subst hw4
        have t4 := t3.later hB t3.lt
        have k40 := t4.procs
        have k41 := t4.events
        have k4l := t4.lt
        have hC4 := bel_on hC3 hB
        have hr4 := hr3.below hB hr3.lt
        clear hr3 hz3 hy3 hB hC3 t3 hlt
        go_wp2_with fail
        by_cases h5 : M.ccode P T ys = 0
        · obtain ⟨d, rfl, hDk⟩ := ccode_get h5
          have hld : d.length = m3 := by rw [ints_length] at hl3; exact hl3
          have hdP := hDk.len
          obtain rfl : m3 = m := by omega
          refine (cis_ok P T p n cap (ints d) q3 m3 cap3 _ hl (he.later hC4) hmax (hc.later hC4) hl3 hmax3 (hy.later hC4) h5).mono ?_
          rw [cof0_ints]
          cases hwd : M.whB T d with
          | false =>
            rintro e w5 ⟨rfl, hB5⟩
            have HC : Hid (Below _ _ _) := bel_on hC4 hB5
            clear t4 k40 k41 k4l hB5 hC4 h5
            go_wp2_with fail
            go_ret
            exact ⟨rfl, HC.out⟩
          | true =>
            rintro e w5 ⟨rfl, hB5⟩
            have hC5 := bel_on hC4 hB5
            have hr5 := hr4.below hB5 hr4.lt
            have hz5 := hz.later hC5
            have hy5 := hy.later hC5
            clear t4 k40 k41 k4l hB5 hC4 h5 hr4
            go_wp2_with fail
            go_loopw [15] (fun v wr => ∃ i : Nat, v = .int .i64 i ∧ i ≤ m3 ∧ Hid (∀ j, j < i → M.row d j ≤ M.row c j) ∧ Below w5.heap.size w5 wr) (fun v _ => m3 - (intOf v).toNat)
            case atStart => exact ⟨0, rfl, Nat.zero_le _, show ∀ j, j < 0 → _ from fun j hj => absurd hj (Nat.not_lt_zero _), Below.refl _ _⟩
            case round =>
              obtain ⟨i, rfl, hi, hJ, hB⟩ := hrel
              by_cases hlt : i < m3
              · obtain ⟨x, hx⟩ : ∃ x, M.row d i = x := ⟨_, rfl⟩
                obtain ⟨y, hye⟩ : ∃ y, M.row c i = y := ⟨_, rfl⟩
                obtain ⟨b, off, rfl, hb, hcy⟩ := hasI_nat (hz5.later hB) (show i < c.length by omega) hye
                obtain ⟨b', off', rfl, hb', hcx⟩ := hasI_nat (hy5.later hB) (show i < d.length by omega) hx
                by_cases hgt : y < x
                · have hd : decide ((y : Int) < (x : Int)) = true := decide_eq_true (by omega)
                  have hd' : decide (y < x) = true := decide_eq_true (by omega)
                  have HC : ∀ k, Hid (Below _ _ _) := fun k => bel_on hC5 (bel_drN hB k)
                  clear hx hye hgt hB
                  go_wp2_with fail
                  go_big_quiet (fail)
                  go_wp2_with fail
                  go_ret
                  exact ⟨rfl, (HC _).out⟩
                · have hd : decide ((y : Int) < (x : Int)) = false := decide_eq_false (by omega)
                  have hd' : decide (y < x) = false := decide_eq_false (by omega)
                  have HJ : Hid (∀ j, j < i + 1 → M.row d j ≤ M.row c j) := fun j hj => by
                    by_cases e : j = i
                    · subst e; omega
                    · exact hJ.out j (by omega)
                  clear hx hye hgt
                  go_wp2_with fail
                  go_big_quiet (fail)
                  go_wp2_with fail
                  go_roundw
                  case rel => exact ⟨i + 1, by go_num, by omega, HJ, bel_drN hB _⟩
                  case measure => simp [intOf]; omega
              · obtain rfl : m3 = i := by omega
                have hmost : ∀ j, j < m3 → M.row d j ≤ M.ln T c j := fun j hj => M.line_most hok hDk hwd (fun k hk => hJ.out k (by omega)) (by omega)
                have HM : Hid (∀ j, j < m3 → M.row d j ≤ M.ln T c j) := hmost
                obtain ⟨w6, hw6⟩ : ∃ w6, w6 = wr := ⟨_, rfl⟩
                subst hw6
                have hr6 := hr5.below hB hr5.lt
                have hy6 := hy5.later hB
                have hC6 := bel_on hC5 hB
                clear hmost hJ hlt hr5 hz5 hy5 hB hC5
                go_wp2_with fail
                go_loopw [16] (fun v wr => ∃ i : Nat, v = .int .i64 i ∧ i ≤ m3 ∧ Below w6.heap.size w6 wr) (fun v _ => m3 - (intOf v).toNat)
                case atStart => exact ⟨0, rfl, Nat.zero_le _, Below.refl _ _⟩
                case round =>
                  obtain ⟨i, rfl, hi, hB⟩ := hrel
                  by_cases hlt : i < m3
                  · have hcx := (hr6.below hB hr6.lt).cell (k := i) (by omega)
                    have hlx := (hr6.below hB hr6.lt).lt
                    rw [M.line_row T (by omega)] at hcx
                    have hle := HM.out i hlt
                    obtain ⟨x, hx⟩ : ∃ x, M.ln T c i = x := ⟨_, rfl⟩
                    obtain ⟨y, hye⟩ : ∃ y, M.row d i = y := ⟨_, rfl⟩
                    obtain ⟨b, off, rfl, hb, hcy⟩ := hasI_nat (hy6.later hB) (show i < d.length by omega) hye
                    rw [hx] at hcx hle
                    rw [hye] at hle
                    have hd : decide ((x : Int) < (y : Int)) = false := decide_eq_false (by omega)
                    have hd' : decide (x < y) = false := decide_eq_false (by omega)
                    clear hx hye
                    go_wp2_with fail
                    go_big_quiet (fail)
                    go_wp2_with fail
                    go_roundw
                    case rel => exact ⟨i + 1, by go_num, by omega, bel_drN hB _⟩
                    case measure => simp [intOf]; omega
                  · have HC : Hid (Below _ _ _) := bel_on hC6 hB
                    obtain rfl : m3 = i := by omega
                    clear hC6 hB hlt
                    go_wp2_with fail
                    go_ret
                    exact ⟨rfl, HC.out⟩
        · obtain ⟨d, hd⟩ : ∃ d, M.ccode P T ys = d := ⟨_, rfl⟩
          rw [hd] at h5
          refine (cis_err P T p n cap ys q3 m3 cap3 _ hl hmax (hc.later hC4) hl3 hmax3 (hy.later hC4) d hd h5).mono ?_
          rintro e w5 ⟨rfl, hB5⟩
          have HC : Hid (Below _ _ _) := bel_on hC4 hB5
          clear t4 k40 k41 k4l hB5 hC4 h5 hd
          go_wp2_with fail
          go_ret
          exact ⟨rfl, HC.out⟩
  · obtain ⟨d, hd⟩ : ∃ d, M.ccode P T zs = d := ⟨_, rfl⟩
    rw [hd] at h0
    refine (cline_err P T p n cap zs q m cap2 _ hl hmax (hc.later hC1) hl2 hmax2 (hz.later hC1) d hd h0).mono ?_
    rintro e w2 ⟨rfl, hB2⟩
    have HC : Hid (Below _ _ _) := bel_on hC1 hB2
    clear t1 k10 k11 k1l hB2 hC1 h0 hd
    go_wp2_with fail
    go_ret
    exact ⟨rfl, HC.out⟩
end Go.Proofs.YtlhpkpjcfjdgaaaDoor
