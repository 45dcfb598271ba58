/- MIRSKY: AS MANY STEPS AS THE LONGEST ROW HAS: the law's walk: at whatever numbers the call returns true, and what lay in memory lies as it lay; the library's table lies where its variable is. -/
import Derived.Test.YtedmpcadinjjdaaDoorCFact
import Derived.Test.YtedmpcadinjjdaaDoorRefBit
import Derived.Deep.CutRange
namespace Go.Proofs.YtedmpcadinjjdaaDoor
open Go.RowKit

set_option maxRecDepth 100000 in
set_option maxHeartbeats 1000000 in
theorem mirsky_err (zs : List Int) (q : Value) (p : Option Addr) (n cap d : Nat) (w : World) (hl : zs.length = n) (he : Env w) (hmax : n ≤ maxLen) (hc : Has zs p w) (h0 : code zs = d) (hne : d ≠ 0) :
    Calls Tryd.prog 7 #[.slice p n cap, q] w fun e w' => e = .returned (.bool true) ∧ Below w.heap.size w w' := by
  go_enter Tryd.func7, Tryd.ntmps7
  go_wp2_with fail
  refine (cfact_any _ he).mono ?_
  rintro e w1 ⟨rfl, hB1⟩
  go_wp2_with fail
  refine (ranks_err zs p n cap d _ hl (he.later hB1) hmax (hc.later hB1) h0 hne).mono ?_
  rintro e w2 ⟨rfl, hB2⟩
  have hC2 := hB1.trans (hB2.mono hB1.size)
  go_wp2_with fail
  refine (behind_err zs p n cap d _ hl (he.later hC2) hmax (hc.later hC2) h0 hne).mono ?_
  rintro e w3 ⟨rfl, hB3⟩
  go_wp2
  go_ret
  exact ⟨rfl, hC2.trans (hB3.mono hC2.size)⟩

/-- whether a thing of the next lesser rank was met among the first j -/
def stp (c k : List Nat) (i : Nat) : Nat → Bool
  | 0 => M.row k i == 0
  | j + 1 => stp c k i j || ((M.row c j).testBit i && M.row k j + 1 == M.row k i)
theorem stp_mono {c k : List Nat} {i j n : Nat} (h : stp c k i j = true) (hj : j ≤ n) : stp c k i n = true := by
  induction n with
  | zero => obtain rfl : j = 0 := by omega
            exact h
  | succ n ih =>
    by_cases e : j = n + 1
    · subst e; exact h
    · simp only [stp]; rw [ih (by omega)]; rfl
theorem stp_all {c k : List Nat} {i n : Nat} (h : M.row k i = 0 ∨ ∃ j, j < n ∧ (M.row c j).testBit i = true ∧ M.row k j + 1 = M.row k i) : stp c k i n = true := by
  rcases h with h | ⟨j, hj, h1, h2⟩
  · exact stp_mono (j := 0) (by simp [stp, h]) (Nat.zero_le _)
  · exact stp_mono (j := j + 1) (by simp [stp, h1, h2]) hj

set_option maxRecDepth 100000 in
set_option maxHeartbeats 4000000 in
theorem mirsky_ok (zs ys : List Int) (p q : Option Addr) (n cap m capm : Nat) (w : World) (hl : zs.length = n) (he : Env w) (hmax : n ≤ maxLen) (hc : Has zs p w) (hlm : ys.length = m) (hmaxm : m ≤ maxLen) (hcm : Has ys q w) (h0 : code zs = 0) :
    Calls Tryd.prog 7 #[.slice p n cap, .slice q m capm] w fun e w' => e = .returned (.bool true) ∧ Below w.heap.size w w' := by
  have hz := code_zero h0
  have hok := nats_ok hz.2.1
  have hn : n ≤ 12 := by omega
  have hpw := pow_lt n hn
  have htr := turned_tr hok hz.2.2
  have htl : (M.turned (nats zs)).length = n := by rw [M.turned_length, nats_length, hl]
  have hto : M.Ok (M.turned (nats zs)) := M.turned_ok _
  have hcl : (M.clo (nats zs)).length = n := by rw [M.clo_length, nats_length, hl]
  have hcb : ∀ i, M.row (M.clo (nats zs)) i < 65536 := fun i => by have := M.clo_ok hok i; rw [hcl] at this; omega
  have hbt : ∀ i j, (M.row (M.turned (nats zs)) i).testBit j = (M.row (M.clo (nats zs)) j).testBit i := fun i j => by rw [Bool.eq_iff_iff, M.turned_bit hok, M.clo_bit]
  have hles : ∀ i j, (M.row (M.clo (nats zs)) j).testBit i = true → M.row (M.ranks (M.turned (nats zs))) j < M.row (M.ranks (M.turned (nats zs))) i := fun i j h => M.ranks_less hto (by omega) htr (by rw [hbt]; exact h)
  have hst : ∀ i, i < n → stp (M.clo (nats zs)) (M.ranks (M.turned (nats zs))) i n = true := fun i hi => stp_all (by
    rcases M.ranks_step hto (by omega) htr i (by omega) with h | ⟨j, h1, h2, h3⟩
    · exact .inl h
    · exact .inr ⟨j, by omega, by rw [← hbt]; exact h2, h3⟩)
  have hk12 : ∀ i, M.row (M.ranks (M.turned (nats zs))) i ≤ 12 := fun i => M.rrounds_le12 hto (by omega) htr _ i
  have hkl : (M.ranks (M.turned (nats zs))).length = n := by rw [M.ranks_length, htl]
  go_enter Tryd.func7, Tryd.ntmps7
  go_wp2_with fail
  refine (cfact_any _ he).mono ?_
  rintro e w1 ⟨rfl, hB1⟩
  go_wp2_with fail
  refine (ranks_ok zs p n cap _ hl (he.later hB1) hmax (hc.later hB1) h0).mono ?_
  rintro e w2 ⟨A, rfl, hrk, hA, hB2⟩
  have hC2 := hB1.trans (hB2.mono hB1.size)
  go_wp2_with fail
  refine (behind_ok zs p n cap _ hl (he.later hC2) hmax (hc.later hC2) h0).mono ?_
  rintro e w3 ⟨A3, rfl, hrc, hA3, hB3⟩
  have hC3 := hC2.trans (hB3.mono hC2.size)
  have hrk := hrk.below hB3 hrk.lt
  have hym := hcm.later hC3
  clear hcm hc hB1 hB2 hB3 hC2
  obtain ⟨c, hcd⟩ : ∃ c, M.clo (nats zs) = c := ⟨_, rfl⟩
  obtain ⟨k, hkd⟩ : ∃ k, M.ranks (M.turned (nats zs)) = k := ⟨_, rfl⟩
  rw [hcd] at hrc hcl hcb hles hst
  rw [hkd] at hrk hkl hles hst hk12
  clear hcd hkd hbt hto htl htr hok hz
  go_wp2_with fail
  go_loopw [10, 11] (fun u v wr => ∃ (i mo : Nat), u = .int .i64 mo ∧ v = .int .i64 i ∧ i ≤ n ∧ mo ≤ 13 ∧ Hid (∀ t, t < i → M.row k t + 1 ≤ mo) ∧ Below w3.heap.size w3 wr) (fun _ v _ => n - (intOf v).toNat)
  case atStart => exact ⟨0, 0, rfl, rfl, Nat.zero_le _, by omega, (fun t ht => by omega : ∀ t, t < 0 → M.row k t + 1 ≤ 0), Below.refl _ _⟩
  case round =>
    obtain ⟨i, mo, rfl, rfl, hin, hmo, hall, hBr⟩ := hrel
    by_cases hi : i < n
    · have hci := (hrk.below hBr hrk.lt).cell (k := i) (by omega)
      have hri := hk12 i
      have hsti : Hid (stp c k i n = true) := hst i hi
      obtain ⟨r, hrd⟩ : ∃ r, M.row k i = r := ⟨_, rfl⟩
      rw [hrd] at hci hri
      obtain ⟨r1, hr1n⟩ : ∃ r1 : Nat, r + 1 = r1 := ⟨_, rfl⟩
      have hr1 : (r : Int) + 1 = (r1 : Int) := by omega
      obtain ⟨mo2, hmo2⟩ : ∃ mo2 : Nat, max mo r1 = mo2 := ⟨_, rfl⟩
      have hmo13 : mo2 ≤ 13 := by omega
      have hall2 : Hid (∀ u, u < i + 1 → M.row k u + 1 ≤ mo2) := (fun u hu => by
        by_cases e : u = i
        · rw [e, hrd]; omega
        · have := hall.out u (by omega); omega : ∀ u, u < i + 1 → M.row k u + 1 ≤ mo2)
      go_upto_if 61 with fail
      go_cut [10] from 49 to 107 (fun u w' => u = .int .i64 mo2 ∧ w' = wr)
      case first =>
        by_cases hgt : mo < r1
        · have e1 : r1 = mo2 := by omega
          subst e1
          clear hmo2
          go_wp2_with fail
          go_meet
          case rel => exact ⟨rfl, rfl⟩
        · have e1 : mo = mo2 := by omega
          subst e1
          clear hmo2
          go_wp2_with fail
          go_meet
          case rel => exact ⟨rfl, rfl⟩
      case rest =>
        obtain ⟨rfl, rfl⟩ := hcut
        clear hall hmo2 hr1n hr1
        go_wp2_with fail
        go_loopw [12, 13] (fun u v wr2 => ∃ (j : Nat) (b : Bool), u = .bool b ∧ v = .int .i64 j ∧ j ≤ n ∧ Hid (b = stp c k i j) ∧ Below w3.heap.size w3 wr2) (fun _ v _ => n - (intOf v).toNat)
        case atStart => exact ⟨0, _, rfl, rfl, Nat.zero_le _, (by simp only [stp]; rw [hrd, Bool.eq_iff_iff]; simp : _ = stp c k i 0), hBr⟩
        case round =>
          obtain ⟨j, b, rfl, rfl, hjn, hb, hBs⟩ := hrel
          by_cases hj : j < n
          · have hcc := (hrc.below hBs hrc.lt).cell (k := j) (by omega)
            have hck := (hrk.below hBs hrk.lt).cell (k := j) (by omega)
            have hci2 := (hrk.below hBs hrk.lt).cell (k := i) (by omega)
            rw [hrd] at hci2
            have hsc := hcb j
            have hrj := hk12 j
            have hlt := hles i j
            have hsn : Hid (stp c k i (j + 1) = (b || ((M.row c j).testBit i && M.row k j + 1 == r))) := (by simp only [stp]; rw [← hb.out, hrd] : stp c k i (j + 1) = _)
            rw [hrd] at hlt
            obtain ⟨s, hs⟩ : ∃ s, M.row c j = s := ⟨_, rfl⟩
            obtain ⟨t, ht⟩ : ∃ t, M.row k j = t := ⟨_, rfl⟩
            rw [hs] at hcc hsc hlt hsn
            rw [ht] at hck hrj hlt hsn
            clear hs ht
            have hbit := bit_any s i wr hsc (by omega)
            obtain ⟨x, hx⟩ : ∃ x, s.testBit i = x := ⟨_, rfl⟩
            rw [hx] at hbit hlt hsn
            clear hx hci hsti
            cases x with
            | false =>
              go_wp2_with fail
              refine hbit.mono ?_
              rintro e w4 ⟨rfl, rfl⟩
              go_wp2_with fail
              go_roundw
              case rel => exact ⟨j + 1, b, rfl, by go_num, by omega, (by rw [hsn.out]; simp : b = stp c k i (j + 1)), hBs⟩
              case measure => simp [intOf]; omega
            | true =>
              have hlt' : t < r := hlt rfl
              have e11 : decide (r ≤ t) = false := decide_eq_false (by omega)
              clear hlt
              cases b with
              | true =>
                go_wp2_with fail
                refine hbit.mono ?_
                rintro e w4 ⟨rfl, rfl⟩
                go_wp2_with fail
                go_big_quiet (fail)
                go_wp2_with fail
                go_big_quiet (fail)
                go_wp2_with fail
                go_roundw
                case rel => exact ⟨j + 1, true, rfl, by go_num, by omega, (by rw [hsn.out]; simp : true = stp c k i (j + 1)), hBs.trans ((below_drewS _ _).mono hBs.size)⟩
                case measure => simp [intOf]; omega
              | false =>
                obtain ⟨y, hy⟩ : ∃ y : Bool, (t + 1 == r) = y := ⟨_, rfl⟩
                have hye : (((t : Int) + 1) == (r : Int)) = y := by rw [← hy, Bool.eq_iff_iff]; simp; omega
                rw [hy] at hsn
                clear hy
                go_wp2_with fail
                refine hbit.mono ?_
                rintro e w4 ⟨rfl, rfl⟩
                go_wp2_with fail
                go_big_quiet (fail)
                go_wp2_with fail
                go_big_quiet (fail)
                go_wp2_with fail
                go_roundw
                case rel => exact ⟨j + 1, y, by go_num, by go_num, by omega, (by rw [hsn.out]; simp : y = stp c k i (j + 1)), hBs.trans ((below_drewS _ _).mono hBs.size)⟩
                case measure => simp [intOf]; omega
          · obtain rfl : j = n := by omega
            have hbt : b = true := hb.out.trans hsti.out
            subst hbt
            go_wp2_with fail
            go_roundw
            case rel => exact ⟨i + 1, mo2, rfl, by go_num, by omega, hmo13, hall2, hBs⟩
            case measure => simp [intOf]; omega
    · obtain rfl : i = n := by omega
      go_wp2_with fail
      unfold maxLen at hmaxm
      go_loopw [14] (fun v wr2 => ∃ t : Nat, v = .int .i64 t ∧ t ≤ m ∧ Hid (∀ u, u < t → ∃ x : Nat, ys[u]?.getD 0 = (x : Int) ∧ x < i ∧ u ≤ M.row k x) ∧ Below w3.heap.size w3 wr2) (fun v _ => m - (intOf v).toNat)
      case atStart => exact ⟨0, rfl, Nat.zero_le _, (fun u hu => by omega : ∀ u, u < 0 → _), hBr⟩
      case round =>
        obtain ⟨t, rfl, htm, hch, hBs⟩ := hrel
        by_cases ht : t < m
        · obtain ⟨b, off, hq, hb, hcell⟩ := hym.later hBs t (by omega)
          subst hq
          obtain ⟨y, hyd⟩ : ∃ y, ys[t]?.getD 0 = y := ⟨_, rfl⟩
          rw [hyd] at hcell
          by_cases hy0 : y < 0
          · have e1 : decide (y < 0) = true := decide_eq_true hy0
            clear hyd hym
            go_wp2_with fail
            go_big_quiet (fail)
            go_wp2_with fail
            go_ret
            exact ⟨rfl, hC3.trans ((hBs.trans ((below_drewS _ _).mono hBs.size)).mono hC3.size)⟩
          · have e1 : decide (y < 0) = false := decide_eq_false hy0
            by_cases hyn : (i : Int) ≤ y
            · have e2 : decide (y ≥ (i : Int)) = true := decide_eq_true hyn
              have e3 : decide ((i : Int) ≤ y) = true := decide_eq_true hyn
              clear hyd hym
              go_wp2_with fail
              go_big_quiet (fail)
              go_wp2_with fail
              go_ret
              exact ⟨rfl, hC3.trans ((hBs.trans ((below_drewS _ _).mono hBs.size)).mono hC3.size)⟩
            · obtain ⟨x, rfl⟩ : ∃ x : Nat, y = (x : Int) := ⟨y.toNat, by omega⟩
              have hxn : x < i := by omega
              have e2 : decide ((x : Int) ≥ (i : Int)) = false := decide_eq_false hyn
              have e3 : decide ((i : Int) ≤ (x : Int)) = false := decide_eq_false hyn
              have e9 : decide (i ≤ x) = false := decide_eq_false (by omega)
              clear hyn
              by_cases ht0 : t = 0
              · have e4 : decide ((t : Int) > 0) = false := decide_eq_false (by omega)
                have e5 : decide ((0 : Int) < (t : Int)) = false := decide_eq_false (by omega)
                have e6 : decide (0 < t) = false := decide_eq_false (by omega)
                have hn2 : Hid (∀ u, u < t + 1 → ∃ x : Nat, ys[u]?.getD 0 = (x : Int) ∧ x < i ∧ u ≤ M.row k x) := (fun u hu => by
                  obtain rfl : u = t := by omega
                  exact ⟨x, hyd, hxn, by omega⟩ : ∀ u, u < t + 1 → _)
                clear hyd hym ht0
                go_wp2_with fail
                go_big_quiet (fail)
                go_wp2_with fail
                go_roundw
                case rel => exact ⟨t + 1, by go_num, by omega, hn2, hBs.trans ((below_drewS _ _).mono hBs.size)⟩
                case measure => simp [intOf]; omega
              · obtain ⟨u, hu⟩ : ∃ u, u + 1 = t := ⟨t - 1, by omega⟩
                have e4 : decide ((t : Int) > 0) = true := decide_eq_true (by omega)
                have e5 : decide ((0 : Int) < (t : Int)) = true := decide_eq_true (by omega)
                have e6 : decide (0 < t) = true := decide_eq_true (by omega)
                have e7 : 0 < t := by omega
                have e8 : u < m := by omega
                have hsub : IntKind.i64.wrap ((t : Int) - 1) = (u : Int) := by
                  have : (t : Int) - 1 = ((u : Nat) : Int) := by omega
                  rw [this]; exact i64_wrap_nat u (by omega)
                obtain ⟨xu, hxu, hxun, hxr⟩ := hch.out u (by omega)
                obtain ⟨b2, off2, hq2, hb2, hcell2⟩ := hym.later hBs u (by omega)
                obtain ⟨rfl, rfl⟩ : b2 = b ∧ off2 = off := by cases hq2; exact ⟨rfl, rfl⟩
                rw [hxu] at hcell2
                have hcc := (hrc.below hBs hrc.lt).cell (k := xu) (by omega)
                have hsc := hcb xu
                have hlt := hles x xu
                obtain ⟨s, hs⟩ : ∃ s, M.row c xu = s := ⟨_, rfl⟩
                rw [hs] at hcc hsc hlt
                clear hs hq2
                have hbit : ∀ W, Calls Tryd.prog 14 #[.int .i64 s, .int .i64 x] W fun e w' => e = .returned (.bool (s.testBit x)) ∧ W = w' := fun W => bit_any s x W hsc (by omega)
                obtain ⟨z, hzd⟩ : ∃ z, s.testBit x = z := ⟨_, rfl⟩
                rw [hzd] at hlt
                simp only [hzd] at hbit
                clear hzd
                cases z with
                | false =>
                  clear hyd hym hlt hxu hu
                  go_wp2_with fail
                  go_big_quiet ((go_at_call 14; exact Calls.quiet_of_same ((hbit _).mono (fun e w' h => ⟨h.1, h.2.symm⟩))))
                  go_wp2_with fail
                  go_ret
                  exact ⟨rfl, hC3.trans ((hBs.trans ((below_drewS _ _).mono hBs.size)).mono hC3.size)⟩
                | true =>
                  have hrx := hlt rfl
                  have hn2 : Hid (∀ v, v < t + 1 → ∃ x : Nat, ys[v]?.getD 0 = (x : Int) ∧ x < i ∧ v ≤ M.row k x) := (fun v hv => by
                    by_cases e : v = t
                    · rw [e]; exact ⟨x, hyd, hxn, by omega⟩
                    · exact hch.out v (by omega) : ∀ v, v < t + 1 → _)
                  clear hyd hym hlt hxu hu hrx
                  go_wp2_with fail
                  go_big_quiet ((go_at_call 14; exact Calls.quiet_of_same ((hbit _).mono (fun e w' h => ⟨h.1, h.2.symm⟩))))
                  go_wp2_with fail
                  go_roundw
                  case rel => exact ⟨t + 1, by go_num, by omega, hn2, hBs.trans ((below_drewS _ _).mono hBs.size)⟩
                  case measure => simp [intOf]; omega
        · obtain rfl : t = m := by omega
          have hle : t ≤ mo := by
            by_cases ht0 : t = 0
            · omega
            · obtain ⟨x, -, h1, h2⟩ := hch.out (t - 1) (by omega)
              have := hall.out x h1
              omega
          have hdec : decide ((t : Int) ≤ (mo : Int)) = true := decide_eq_true (by omega)
          go_wp2_with fail
          go_ret
          exact ⟨rfl, hC3.trans (hBs.mono hC3.size)⟩
theorem mirsky_walk (zs ys : List Int) (p q : Option Addr) (n cap m capm : Nat) (w : World) (hl : zs.length = n) (he : Env w) (hmax : n ≤ maxLen) (hc : Has zs p w) (hlm : ys.length = m) (hmaxm : m ≤ maxLen) (hcm : Has ys q w) :
    Calls Tryd.prog 7 #[.slice p n cap, .slice q m capm] w fun e w' => e = .returned (.bool true) ∧ Below w.heap.size w w' := by
  by_cases h0 : code zs = 0
  · exact mirsky_ok zs ys p q n cap m capm w hl he hmax hc hlm hmaxm hcm h0
  · exact mirsky_err zs _ p n cap _ w hl he hmax hc rfl h0
theorem mirsky_rowwalk (zs : List Int) (p : Option Addr) (n cap : Nat) (ys : List Int) (q : Option Addr) (m capm : Nat) (w : World) (he : Env w) (hl : zs.length = n) (hmax : n ≤ maxLen) (hc : Has zs p w) (hlm : ys.length = m) (hmaxm : m ≤ maxLen) (hcm : Has ys q w) :
    Calls Tryd.prog 7 #[.slice p n cap, .slice q m capm] w fun e w' => e = .returned (.bool true) ∧ Below w.heap.size w w' :=
  mirsky_walk zs ys p q n cap m capm w hl he hmax hc hlm hmaxm hcm
end Go.Proofs.YtedmpcadinjjdaaDoor
