/- Who is stuck at a table of locks (package lock, Stuck). -/
import Derived.Test.YtcjodlgkmbmcgaaDoorBLp
import Derived.Test.YtcjodlgkmbmcgaaDoorBRo
import Derived.Test.YtcjodlgkmbmcgaaDoorEnv
namespace Go.Proofs.YtcjodlgkmbmcgaaDoor
open Go.RowKit
namespace M
/-- who waits for itself -/
def stB (s : Lk) (t : Nat) : Bool := (row (clo (wtR s)) t).testBit t
def stS (s : Lk) : Nat := cnt01 5 (stB s)
theorem st_step (f : Nat → Bool) (k : Nat) : cnt01 (k + 1) f = cnt01 k f ||| (if f k then 1 <<< k else 0) := rfl
theorem and_oneB (a k : Nat) : a &&& 1 <<< k = if a.testBit k then 1 <<< k else 0 := Nat.eq_of_testBit_eq fun j => by
  rw [Nat.testBit_and, oneB]
  by_cases e : k = j
  · subst e
    cases h : a.testBit k with
    | true => rw [if_pos rfl, oneB]; simp
    | false => simp
  · rw [decide_eq_false e, Bool.and_false]
    split
    · rw [oneB, decide_eq_false e]
    · simp
theorem c_lt (f : Nat → Bool) {k : Nat} (hk : k ≤ 5) : cnt01 k f < 32 := Nat.lt_of_lt_of_le (Nat.lt_pow_two_of_testBit (n := k) _ (fun i hi => by rw [cnt01_bit, decide_eq_false (by omega)]; rfl)) (Nat.pow_le_pow_right (n := 2) (by omega) hk)
theorem stS_bit (s : Lk) (t : Nat) : (stS s).testBit t = true ↔ Clo (wtR s) t t := by
  unfold stS
  rw [cnt01_bit, Bool.and_eq_true, decide_eq_true_eq]
  unfold stB
  rw [clo_bit]
  exact ⟨fun h => h.2, fun h => ⟨by have := clo_in h; rw [wtR_len] at this; exact this, h⟩⟩
end M
set_option maxRecDepth 100000 in
set_option maxHeartbeats 4000000 in
theorem lstuck_ok {O : Nat → Prop} {S : Nat} {s : M.Lk} (w : World) (he : Env w) (h : TV O S s w) (hG : M.LG s) :
    Calls Tryd.prog 13 #[.pointer (some ⟨S, 0, none⟩)] w fun e w' => e = .returned (.int .i64 (M.stS s : Nat)) ∧ Below w.heap.size w w' := by
  have hw := lwaits_ok w h hG
  have HE : Hid (Env w) := he
  have hok := M.wtR_ok s
  have hlen := M.wtR_len s
  clear h hG he
  go_enter Tryd.func13, Tryd.ntmps13
  go_wp2_with fail
  refine hw.mono ?_
  rintro e w1 ⟨A, rfl, hrow, hA, hB1⟩
  have he1 := HE.out.later hB1
  have hr := reached_any (M.wtR s) hok (by omega) (some ⟨A, 0, none⟩) 5 w1 he1.tab he1.two (fun j hj => ⟨A, 0, rfl, hrow.lt, by rw [Nat.zero_add]; exact hrow.cell (k := j) hj⟩)
  rw [hlen] at hr
  clear he1 hrow hw
  go_wp2_with fail
  refine hr.mono ?_
  rintro e w2 ⟨A2, rfl, hrow2, hA2, hB2⟩
  have HR : Hid (RowAt 3 w2 A2 (M.clo (M.wtR s)) ∧ Below w.heap.size w w2) := ⟨hrow2, hB1.trans (hB2.mono hB1.size)⟩
  have hcl : ∀ k, k < 5 → M.row (M.clo (M.wtR s)) k < 32 := fun k hk => by have := M.clo_ok hok k; rw [M.clo_length, hlen] at this; exact this
  clear hr hrow2 hB1 hB2 hA hA2
  go_wp2_with fail
  go_loopw [3, 10] (fun a u wr => ∃ k d : Nat, u = .int .i64 k ∧ a = .int .i64 d ∧ k ≤ 5 ∧ Hid (M.cnt01 k (M.stB s) = d) ∧ wr = w2) (fun _ u _ => 5 - (intOf u).toNat)
  case atStart => exact ⟨0, 0, rfl, rfl, Nat.zero_le _, (rfl : M.cnt01 0 (M.stB s) = 0), rfl⟩
  case round =>
    obtain ⟨k, d, rfl, rfl, hk, hd, rfl⟩ := hrel
    by_cases hlt : k < 5
    · have hki : (k : Int) < 5 := by omega
      have hc := HR.out.1.cell (k := k) (by rw [M.clo_length, hlen]; omega)
      have hl2 := HR.out.1.lt
      have hd32 : d < 32 := by rw [← hd.out]; exact M.c_lt _ hk
      have hak := hcl k hlt
      have hst := M.st_step (M.stB s) k
      rw [hd.out] at hst
      have hsh : IntKind.i64.wrap (2 ^ k) = ((1 <<< k : Nat) : Int) := i64_shl k (by omega)
      have hand := i64_and_nat (M.row (M.clo (M.wtR s)) k) (1 <<< k) (by omega) (one_lt hlt)
      have hlt2 : (M.row (M.clo (M.wtR s)) k) &&& 1 <<< k < 65536 := Nat.lt_of_le_of_lt Nat.and_le_left (by omega)
      have hor := i64_or_nat d ((M.row (M.clo (M.wtR s)) k) &&& 1 <<< k) (by omega) hlt2
      rw [M.and_oneB] at hand hor
      have HN : Hid (M.cnt01 (k + 1) (M.stB s) = d ||| (if (M.row (M.clo (M.wtR s)) k).testBit k then 1 <<< k else 0)) := hst
      obtain ⟨g, hg⟩ : ∃ g, (if (M.row (M.clo (M.wtR s)) k).testBit k then 1 <<< k else 0) = g := ⟨_, rfl⟩
      rw [hg] at hand hor HN
      obtain ⟨z, hz⟩ : ∃ z, d ||| g = z := ⟨_, rfl⟩
      rw [hz] at hor HN
      obtain ⟨y, hy⟩ : ∃ y : Nat, 1 <<< k = y := ⟨_, rfl⟩
      rw [hy] at hsh hand
      obtain ⟨r, hr⟩ : ∃ r, M.row (M.clo (M.wtR s)) k = r := ⟨_, rfl⟩
      rw [hr] at hand hc
      clear hg hz hy hr hst hlt2 hd hak
      go_wp2_with fail
      go_roundw
      case rel => exact ⟨k + 1, z, by go_num, rfl, by omega, HN, trivial⟩
      case measure => simp [intOf]; omega
    · obtain rfl : k = 5 := by omega
      have HD : Hid (M.stS s = d) := hd.out
      clear hd hlt hcl
      go_wp2_with fail
      go_ret
      exact ⟨by rw [HD.out]; rfl, HR.out.2⟩
end Go.Proofs.YtcjodlgkmbmcgaaDoor
