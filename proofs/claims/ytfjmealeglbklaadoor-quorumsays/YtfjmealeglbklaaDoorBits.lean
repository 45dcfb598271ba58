/- The small functions on sets, as numbers: whether a thing is in a set, whether a number is a set or a thing, the number of the least thing of a set, and what is left of a set without its least thing; all at sets of at most twelve things. -/
import Derived.Test.YtfjmealeglbklaaDoorProg
import Derived.Test.YtfjmealeglbklaaDoorMath
import Derived.WalkKit
import Derived.Outline
import Derived.WalkLawsBesides
import Derived.Laws.Bits64
import Derived.Laws.BitsAllLaws
namespace Go.Proofs.YtfjmealeglbklaaDoor
open Go.RowKit

theorem i64_wrap_nat (n : Nat) (h : n < 9223372036854775808) : IntKind.i64.wrap (n : Int) = n := by
  simp [IntKind.wrap, IntKind.bits, IntKind.signed]
  omega
theorem ofInt_i64 (a : Nat) (ha : a < 65536) : (BitVec.ofInt 64 (a : Int)).toNat = a := by
  rw [BitVec.ofInt_natCast, BitVec.toNat_ofNat]; exact Nat.mod_eq_of_lt (by omega)
theorem i64_and_nat (a b : Nat) (ha : a < 65536) (hb : b < 65536) : bits .and .i64 (a : Int) (b : Int) = ((a &&& b : Nat) : Int) := by
  have hx : a &&& b < 2 ^ 16 := Nat.and_lt_two_pow _ (by omega)
  show IntKind.i64.wrap ((BitVec.ofInt 64 (a : Int) &&& BitVec.ofInt 64 (b : Int)).toNat : Int) = _
  rw [BitVec.toNat_and, ofInt_i64 a ha, ofInt_i64 b hb, i64_wrap_nat _ (by omega)]
theorem i64_or_nat (a b : Nat) (ha : a < 65536) (hb : b < 65536) : bits .or .i64 (a : Int) (b : Int) = ((a ||| b : Nat) : Int) := by
  have hx : a ||| b < 2 ^ 16 := Nat.or_lt_two_pow (by omega) (by omega)
  show IntKind.i64.wrap ((BitVec.ofInt 64 (a : Int) ||| BitVec.ofInt 64 (b : Int)).toNat : Int) = _
  rw [BitVec.toNat_or, ofInt_i64 a ha, ofInt_i64 b hb, i64_wrap_nat _ (by omega)]
theorem pow_lt (n : Nat) (hn : n ≤ 12) : 2 ^ n ≤ 4096 := Nat.pow_le_pow_right (n := 2) (by omega) hn
theorem bool_ret {a b : Bool} (h : a = b) : Ending.returned (.bool a) = .returned (.bool b) := by rw [h]
theorem has_bit (s i : Nat) (hs : s < 65536) : (bits .and .i64 ((s : Int) / 2 ^ i) 1 == 1) = s.testBit i := by
  have e : ((s : Int) / 2 ^ i) = ((s / 2 ^ i : Nat) : Int) := by simp
  have h1 : s / 2 ^ i ≤ s := Nat.div_le_self _ _
  have h2 := i64_and_nat (s / 2 ^ i) 1 (by omega) (by omega)
  rw [e]
  rw [show ((1 : Nat) : Int) = 1 from rfl] at h2
  rw [h2, Nat.testBit_eq_decide_div_mod_eq, Nat.and_one_is_mod]
  rw [Bool.eq_iff_iff]
  simp
  omega
/-- Is a number a set of n things? Is it a thing of n? -/
def setB (z : Int) (n : Nat) : Bool := decide (0 ≤ z ∧ z < 2 ^ n)
def thingB (z : Int) (n : Nat) : Bool := decide (0 ≤ z ∧ z < n)
theorem setB_neg {z : Int} {n : Nat} (h : z < 0) : setB z n = false := by unfold setB; rw [decide_eq_false]; omega
theorem setB_nn {z : Int} {n : Nat} (h : 0 ≤ z) : setB z n = decide (z < 2 ^ n) := by unfold setB; rw [Bool.eq_iff_iff]; simp [h]
theorem thingB_neg {z : Int} {n : Nat} (h : z < 0) : thingB z n = false := by unfold thingB; rw [decide_eq_false]; omega
theorem thingB_nn {z : Int} {n : Nat} (h : 0 ≤ z) : thingB z n = decide (z < n) := by unfold thingB; rw [Bool.eq_iff_iff]; simp [h]
theorem wrap_pow (n : Nat) (hn : n ≤ 12) : wrap64 (2 ^ n) = 2 ^ n := by
  have h := pow_lt n hn
  have e : ((2 : Int) ^ n) = ((2 ^ n : Nat) : Int) := by simp
  rw [e]
  generalize 2 ^ n = m at h
  unfold wrap64
  omega

theorem div_pow_zero (z : Int) (n : Nat) (hz : 0 ≤ z) : (z / 2 ^ n == 0) = decide (z < 2 ^ n) := by
  have hp : (0 : Int) < 2 ^ n := by
    have e : ((2 : Int) ^ n) = ((2 ^ n : Nat) : Int) := by simp
    rw [e]; have := Nat.two_pow_pos n; omega
  rw [Bool.eq_iff_iff]
  simp only [beq_iff_eq, decide_eq_true_eq]
  constructor
  · intro h
    by_cases h1 : z < 2 ^ n
    · exact h1
    · have := Int.ediv_le_ediv hp (Int.not_lt.1 h1)
      rw [h, Int.ediv_self (by omega)] at this
      omega
  · intro h; exact Int.ediv_eq_zero_of_lt hz h

set_option maxHeartbeats 400000 in
theorem isSet_any (z : Int) (n : Nat) (w : World) (hn : n ≤ 12) :
    Calls Tryd.prog 38 #[.int .i64 z, .int .i64 n] w fun e w' => e = .returned (.bool (setB z n)) ∧ w = w' := by
  by_cases hz : z < 0
  · go_enter Tryd.func38, Tryd.ntmps38
    go_wp2
    go_ret
    exact ⟨bool_ret (setB_neg hz).symm, rfl⟩
  · have hz' : 0 ≤ z := by omega
    go_enter Tryd.func38, Tryd.ntmps38
    go_wp2
    go_ret
    exact ⟨bool_ret (by rw [setB_nn hz', div_pow_zero z n hz']), rfl⟩
/-! ### the least thing of a set, by the library's table -/
def tab : List Nat := [0, 1, 56, 2, 57, 49, 28, 3, 61, 58, 42, 50, 38, 29, 17, 4, 62, 47, 59, 36, 45, 43, 51, 22, 53, 39, 33, 30, 24, 18, 12, 5, 63, 55, 48, 27, 60, 41, 37, 16, 46, 35, 44, 21, 52, 32, 23, 11, 54, 26, 40, 15, 34, 20, 31, 10, 25, 14, 19, 9, 13, 8, 7, 6]
/-- The library's table lies where its variable is. -/
def Tab (w : World) : Prop := ∀ k, k < 64 → w.cell? ⟨2, k, none⟩ = some (.int .u8 (tab[k]?.getD 0 : Nat))
def least (s : Nat) : Nat := (M.bits s).headD 0
def rest (s : Nat) : Nat := s &&& (s - 1)
def lowN (s : Nat) : Nat := s &&& (18446744073709551616 - s)
def idxN (s : Nat) : Nat := lowN s * 285870213051353865 % 18446744073709551616 / 288230376151711744
def lookN (s : Nat) : Bool := decide (idxN s < 64) && (tab[idxN s]?.getD 0 == least s) && (M.bits s == least s :: M.bits (rest s)) && decide (rest s < s)
theorem look_all : ((List.range 4096).all fun s => s == 0 || lookN s) = true := by decide +kernel
theorem look_one (s : Nat) (hs : s < 4096) (h0 : 0 < s) : idxN s < 64 ∧ tab[idxN s]?.getD 0 = least s ∧ M.bits s = least s :: M.bits (rest s) ∧ rest s < s := by
  have h := List.all_eq_true.1 look_all s (List.mem_range.2 hs)
  rw [Bool.or_eq_true] at h
  rcases h with h | h
  · have : s = 0 := by simpa using h
    omega
  · unfold lookN at h
    simp only [Bool.and_eq_true, decide_eq_true_eq, beq_iff_eq] at h
    exact ⟨h.1.1.1, h.1.1.2, h.1.2, h.2⟩
def negU (s : Nat) : Int := IntKind.u64.wrap (-(s : Int))
def mulU (s : Nat) : Int := IntKind.u64.wrap ((lowN s : Int) * 285870213051353865)
theorem negU_nat (s : Nat) (hs : s < 4096) (h0 : 0 < s) : negU s = ((18446744073709551616 - s : Nat) : Int) := by
  unfold negU
  rw [IntKind.wrap_u64]
  omega
theorem and_neg (s : Nat) (hs : s < 4096) (h0 : 0 < s) : bits .and .u64 (s : Int) (negU s) = (lowN s : Int) := by
  rw [negU_nat s hs h0, u64_and_nat s _ (by omega) (by omega)]
  rfl
theorem mulU_idx (s : Nat) : mulU s / 288230376151711744 = (idxN s : Int) := by
  unfold mulU idxN
  rw [IntKind.wrap_u64]
  generalize lowN s = a
  omega
theorem negU_def (s : Nat) : IntKind.u64.wrap (-(s : Int)) = negU s := rfl
theorem mulU_def (s : Nat) : IntKind.u64.wrap ((lowN s : Int) * 285870213051353865) = mulU s := rfl
set_option maxHeartbeats 400000 in
theorem tz64_of (s lo ix v : Nat) (ng ml : Int) (w : World) (hz : ((s : Int) == 0) = false) (e1 : IntKind.u64.wrap (-(s : Int)) = ng) (e2 : bits .and .u64 (s : Int) ng = lo)
    (e3 : IntKind.u64.wrap ((lo : Int) * 285870213051353865) = ml) (e4 : ml / 288230376151711744 = ix) (h1 : ix < 64) (hv : v < 256) (hc : w.cell? ⟨2, ix, none⟩ = some (.int .u8 v)) :
    Calls Tryd.prog 67 #[.int .u64 s] w fun e w' => e = .returned (.int .i64 v) ∧ w = w' := by
  go_enter Tryd.func67, Tryd.ntmps67
  go_wp2
  go_ret
  exact ⟨rfl, rfl⟩
theorem tab_lt : ∀ k, k < 64 → tab[k]?.getD 0 < 256 := by decide
theorem tz64 (s : Nat) (w : World) (hs : s < 4096) (h0 : 0 < s) (hT : Tab w) :
    Calls Tryd.prog 67 #[.int .u64 s] w fun e w' => e = .returned (.int .i64 (least s)) ∧ w = w' := by
  obtain ⟨h1, h2, -, -⟩ := look_one s hs h0
  have hc := hT _ h1
  have hl := tab_lt _ h1
  rw [h2] at hc hl
  exact tz64_of s (lowN s) (idxN s) (least s) (negU s) (mulU s) w (by simp; omega) (negU_def s) (and_neg s hs h0) (mulU_def s) (mulU_idx s) h1 hl hc
set_option maxHeartbeats 400000 in
theorem tz (s : Nat) (w : World) (hs : s < 4096) (h0 : 0 < s) (hT : Tab w) :
    Calls Tryd.prog 60 #[.int .u64 s] w fun e w' => e = .returned (.int .i64 (least s)) ∧ w = w' := by
  go_enter Tryd.func60, Tryd.ntmps60
  go_wp2_with (go_at_call 67; refine (tz64 s _ hs h0 hT).mono ?_; rintro e w' ⟨rfl, rfl⟩)
  go_ret
  exact ⟨rfl, rfl⟩
set_option maxHeartbeats 400000 in
theorem things_any (s : Nat) (w : World) :
    Calls Tryd.prog 52 #[.int .i64 s] w fun e w' => e = .returned (.func (.func 59) #[] #[.pointer (some ⟨w.heap.size, 0, none⟩)]) ∧ w' = w.alloc (.cells #[.int .i64 s] 3) := by
  go_enter Tryd.func52, Tryd.ntmps52
  go_wp2
  go_ret
  exact ⟨rfl, rfl⟩
end Go.Proofs.YtfjmealeglbklaaDoor
