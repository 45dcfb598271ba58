/- The least thing of a set (package set, Least), and which things may come next where some stood already (package extend, next), at rows of at most twelve things; memory is left alone. -/
import Derived.Test.YtajiichehffaaaaDoorBFt
import Derived.Test.YtajiichehffaaaaDoorBMa
namespace Go.Proofs.YtajiichehffaaaaDoor
open Go.RowKit

theorem i64_andNot_nat (a b : Nat) (ha : a < 65536) (hb : b < 65536) : ∃ r : Nat, bits .andNot .i64 (a : Int) (b : Int) = (r : Int) ∧ (r = 0 ↔ M.subB a b = true) := by
  obtain ⟨r, hr⟩ : ∃ r : Nat, (BitVec.ofInt 64 (a : Int) &&& ~~~BitVec.ofInt 64 (b : Int)).toNat = r := ⟨_, rfl⟩
  have hle : r ≤ a := by
    rw [← hr, BitVec.toNat_and, ofInt_i64 a ha]
    exact Nat.and_le_left
  have hbit : ∀ j, r.testBit j = (a.testBit j && !b.testBit j) := fun j => by
    rw [← hr, BitVec.toNat_and, BitVec.toNat_not, Nat.testBit_and, ofInt_i64 a ha, ofInt_i64 b hb]
    by_cases hj : j < 64
    · rw [show (2 ^ 64 - 1 - b) = 2 ^ 64 - (b + 1) by omega, Nat.testBit_two_pow_sub_succ (by omega)]
      simp [hj]
    · have : a.testBit j = false := Nat.testBit_lt_two_pow (Nat.lt_of_lt_of_le ha (Nat.pow_le_pow_right (n := 2) (by omega) (by omega : 16 ≤ j)))
      rw [this]; simp
  refine ⟨r, ?_, ?_⟩
  · show IntKind.i64.wrap ((BitVec.ofInt 64 (a : Int) &&& ~~~BitVec.ofInt 64 (b : Int)).toNat : Int) = _
    rw [hr, i64_wrap_nat _ (by omega)]
  · rw [M.subB_iff]
    constructor
    · rintro rfl j hj
      have := hbit j
      rw [hj] at this
      simp at this
      exact this
    · intro h
      apply Nat.eq_of_testBit_eq
      intro j
      rw [hbit]
      cases hj : a.testBit j with
      | false => simp
      | true => rw [h j hj]; simp
set_option maxHeartbeats 400000 in
theorem least_any (s : Nat) (w : World) (hs : s < 4096) (h0 : 0 < s) (hT : Tab w) :
    Calls Tryd.prog 43 #[.int .i64 s] w fun e w' => e = .returned (.int .i64 (least s)) ∧ w = w' := by
  go_enter Tryd.func43, Tryd.ntmps43
  go_wp2_with (go_at_call 46; refine (tz s _ hs h0 hT).mono ?_; rintro e w' ⟨rfl, rfl⟩)
  go_ret
  exact ⟨rfl, rfl⟩

set_option maxHeartbeats 1000000 in
theorem next_any (t : List Nat) (d : Nat) (p : Option Addr) (n cap : Nat) (w : World) (hl : t.length = n) (hn : n ≤ 12) (hok : M.Ok t) (hd : d < 4096) (hc : Has (ints t) p w) :
    Calls Tryd.prog 44 #[.slice p n cap, .int .i64 d] w fun e w' => e = .returned (.int .i64 (M.nextS t d : Nat)) ∧ w = w' := by
  have hpw := pow_lt n hn
  have hrb : ∀ i, M.row t i < 65536 := fun i => by have := hok i; rw [hl] at this; omega
  have hend : Hid (M.cnt01 n (M.nextB t d) = M.nextS t d) := (by unfold M.nextS; rw [hl] : M.cnt01 n (M.nextB t d) = M.nextS t d)
  have hle : ∀ i, i ≤ n → M.cnt01 i (M.nextB t d) < 4096 := fun i hi => by
    have h1 := M.cnt01_lt i (M.nextB t d)
    have := pow_lt i (by omega)
    omega
  go_enter Tryd.func44, Tryd.ntmps44
  go_wp2
  go_loop [5, 10] (fun m v => ∃ i q : Nat, v = .int .i64 i ∧ m = .int .i64 q ∧ i ≤ n ∧ Hid (q = M.cnt01 i (M.nextB t d)) ∧ q < 4096) (fun _ v => n - (intOf v).toNat)
  case atStart => exact ⟨0, 0, rfl, rfl, Nat.zero_le _, (rfl : 0 = M.cnt01 0 _), by omega⟩
  case round =>
    obtain ⟨i, q, rfl, rfl, hi, hq, hq4⟩ := hrel
    by_cases hin : i < n
    · obtain ⟨b, off, rfl, hb, hcell⟩ := hc i (by rw [ints_length, hl]; exact hin)
      rw [ints_get] at hcell
      clear hc
      have hri := hrb i
      have hH := has_any d i w hd (by omega)
      obtain ⟨r, hand, hr0⟩ := i64_andNot_nat (M.row t i) d hri (by omega)
      have hst : Hid (M.cnt01 (i + 1) (M.nextB t d) = if (!d.testBit i && M.subB (M.row t i) d) = true then q ||| 1 <<< i else q) := (by
        simp only [M.cnt01]
        rw [← hq.out]
        show (q ||| if (!d.testBit i && M.subB (M.row t i) d) = true then 1 <<< i else 0) = _
        split
        · rfl
        · simp : M.cnt01 (i + 1) (M.nextB t d) = if (!d.testBit i && M.subB (M.row t i) d) = true then q ||| 1 <<< i else q)
      obtain ⟨a, ha⟩ : ∃ a, M.row t i = a := ⟨_, rfl⟩
      obtain ⟨g, hg⟩ : ∃ g, d.testBit i = g := ⟨_, rfl⟩
      obtain ⟨u, hu⟩ : ∃ u, M.subB (M.row t i) d = u := ⟨_, rfl⟩
      rw [hg] at hH
      rw [hg, hu] at hst
      rw [hu] at hr0
      rw [ha] at hcell hand
      have hnx := hle (i + 1) (by omega)
      clear hg hu ha hri
      cases g with
      | true =>
        clear hr0 hand
        go_wp2_with (go_at_call 41; refine hH.mono ?_; rintro e w' ⟨rfl, rfl⟩)
        go_round
        case rel => exact ⟨i + 1, q, by go_num, rfl, by omega, (by rw [hst.out]; simp : q = _), hq4⟩
        case measure => simp [intOf]; omega
      | false =>
        cases u with
        | false =>
          have hne : ((r : Int) == 0) = false := by
            have : r ≠ 0 := fun h => by have := hr0.1 h; cases this
            simp; omega
          clear hr0
          go_wp2_with (go_at_call 41; refine hH.mono ?_; rintro e w' ⟨rfl, rfl⟩)
          go_round
          case rel => exact ⟨i + 1, q, by go_num, rfl, by omega, (by rw [hst.out]; simp : q = _), hq4⟩
          case measure => simp [intOf]; omega
        | true =>
          obtain rfl : r = 0 := hr0.2 rfl
          clear hr0
          have hsh : IntKind.i64.wrap (2 ^ i) = ((1 <<< i : Nat) : Int) := i64_shl i (by omega)
          have hjp : 1 <<< i < 65536 := by rw [Nat.shiftLeft_eq, Nat.one_mul]; have := pow_lt i (by omega); omega
          have hor := i64_or_nat q (1 <<< i) (by omega) hjp
          have HV : Hid (M.cnt01 (i + 1) (M.nextB t d) = q ||| 1 <<< i) := (by rw [hst.out]; rfl : M.cnt01 (i + 1) (M.nextB t d) = q ||| 1 <<< i)
          rw [HV.out] at hnx
          obtain ⟨y, hy⟩ : ∃ y : Nat, 1 <<< i = y := ⟨_, rfl⟩
          rw [hy] at hsh hor hnx HV
          obtain ⟨z, hz⟩ : ∃ z : Nat, q ||| y = z := ⟨_, rfl⟩
          rw [hz] at hor hnx HV
          clear hy hz hst hjp
          go_wp2_with (go_at_call 41; refine hH.mono ?_; rintro e w' ⟨rfl, rfl⟩)
          go_round
          case rel => exact ⟨i + 1, z, by go_num, rfl, by omega, (HV.out.symm : z = _), hnx⟩
          case measure => simp [intOf]; omega
    · obtain rfl : i = n := by omega
      go_wp2_with fail
      go_ret
      exact ⟨(by rw [← hend.out, ← hq.out]; rfl), rfl⟩
end Go.Proofs.YtajiichehffaaaaDoor
