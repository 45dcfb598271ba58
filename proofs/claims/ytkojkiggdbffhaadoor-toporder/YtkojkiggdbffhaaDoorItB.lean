/- The iterator over the things of a set (package set, Things), at sets of at most twenty-four things: it hands out all things of the set, the least first, to whatever loop body keeps the memory that lay below a mark; where it is stopped, what came up so far is how the set's things begin; whether a thing is in a set (package set, Has); the library's table lying where its variable is. -/
import Derived.RangeFuncNested
import Derived.RangeFuncBound
import Derived.RangeFuncCalls
import Derived.RangeFuncLeaves
import Derived.Shelf.Abstract
import Derived.Shelf.RegionOpen
import Derived.WalkKit
import Derived.OwnWalkIn
import Derived.TacticsInMore
import Derived.LoopNIn
import Derived.LoopIn
import Derived.Outline
import Derived.Test.YtkojkiggdbffhaaDoorIter
import Derived.Test.YtkojkiggdbffhaaDoorBMb
namespace Go.Proofs.YtkojkiggdbffhaaDoor
open Go.RowKit Go.Shelf
attribute [local go_sem] Oper.semAt_some
namespace M
/-- the things of a set of at most twenty-four, the least first -/
def bitsB (s : Nat) : List Nat := (List.range 24).filter fun j => s.testBit j
theorem mem_bitsB {s j : Nat} : j ∈ bitsB s ↔ j < 24 ∧ s.testBit j = true := by simp [bitsB]
theorem bitsB_len (s : Nat) : (bitsB s).length ≤ 24 := by
  unfold bitsB
  exact Nat.le_trans (List.length_filter_le _ _) (by simp)
theorem bitsB_zero : bitsB 0 = [] := by decide
theorem low_split (s : Nat) (h : 0 < s) : ∃ k m, s = 2 ^ (k + 1) * m + 2 ^ k := by
  induction s using Nat.strongRecOn with
  | _ s ih =>
    by_cases e : s % 2 = 1
    · exact ⟨0, s / 2, by simp; omega⟩
    · obtain ⟨k, m, hm⟩ := ih (s / 2) (by omega) (by omega)
      refine ⟨k + 1, m, ?_⟩
      have e1 : s = 2 * (s / 2) := by omega
      rw [e1, hm, Nat.pow_succ 2 (k + 1), Nat.pow_succ 2 k, Nat.mul_add]
      generalize 2 ^ k = q
      have : 2 * (q * 2 * m) = q * 2 * 2 * m := by rw [Nat.mul_comm 2 (q * 2 * m), Nat.mul_assoc (q * 2) m 2, Nat.mul_comm m 2, ← Nat.mul_assoc]
      omega
theorem low_bit (k m j : Nat) : (2 ^ (k + 1) * m + 2 ^ k).testBit j = if j < k + 1 then decide (k = j) else m.testBit (j - (k + 1)) := by
  rw [Nat.testBit_two_pow_mul_add m (Nat.pow_lt_pow_right (by omega) (by omega)) j, Nat.testBit_two_pow]
theorem low_bit1 (k m j : Nat) : (2 ^ (k + 1) * m + 2 ^ k - 1).testBit j = if j < k + 1 then decide (j < k) else m.testBit (j - (k + 1)) := by
  have h := Nat.two_pow_pos k
  have h2 : 2 ^ k < 2 ^ (k + 1) := Nat.pow_lt_pow_right (by omega) (by omega)
  rw [show 2 ^ (k + 1) * m + 2 ^ k - 1 = 2 ^ (k + 1) * m + (2 ^ k - 1) by omega, Nat.testBit_two_pow_mul_add m (by omega) j, Nat.testBit_two_pow_sub_one]
end M
def leastB (s : Nat) : Nat := (M.bitsB s).headD 0
theorem tab_24 : ∀ k, k < 24 → 2 ^ k * 285870213051353865 % 18446744073709551616 / 288230376151711744 < 64 ∧ tab[2 ^ k * 285870213051353865 % 18446744073709551616 / 288230376151711744]?.getD 0 = k := by decide
theorem look_big (s : Nat) (hs : s < 16777216) (h0 : 0 < s) : idxN s < 64 ∧ tab[idxN s]?.getD 0 = leastB s ∧ M.bitsB s = leastB s :: M.bitsB (rest s) ∧ rest s < s := by
  obtain ⟨k, m, hm⟩ := M.low_split s h0
  have hp := Nat.two_pow_pos k
  have hk : k < 24 := by
    by_cases h : k < 24
    · exact h
    · have := Nat.pow_le_pow_right (show 0 < 2 by omega) (show 24 ≤ k by omega)
      omega
  have hlow : lowN s = 2 ^ k := by
    apply Nat.eq_of_testBit_eq
    intro j
    unfold lowN
    rw [Nat.testBit_and, show 18446744073709551616 - s = 2 ^ 64 - ((s - 1) + 1) by omega, Nat.testBit_two_pow_sub_succ (by omega), Nat.testBit_two_pow, hm, M.low_bit, M.low_bit1]
    by_cases hj : j < k + 1
    · rw [if_pos hj, if_pos hj]
      by_cases e : k = j
      · subst e; simp; omega
      · simp [e]
    · rw [if_neg hj, if_neg hj]
      have : ¬ k = j := by omega
      cases m.testBit (j - (k + 1)) <;> simp [this]
  have hrest : rest s = 2 ^ (k + 1) * m := by
    apply Nat.eq_of_testBit_eq
    intro j
    unfold rest
    have e0 : (2 ^ (k + 1) * m).testBit j = if j < k + 1 then false else m.testBit (j - (k + 1)) := by
      have := Nat.testBit_two_pow_mul_add m (Nat.two_pow_pos (k + 1)) j
      simpa using this
    rw [Nat.testBit_and, hm, M.low_bit, M.low_bit1, e0]
    by_cases hj : j < k + 1
    · rw [if_pos hj, if_pos hj, if_pos hj]
      by_cases e : k = j
      · subst e; simp
      · simp [e]
    · rw [if_neg hj, if_neg hj, if_neg hj, Bool.and_self]
  have hbits : M.bitsB s = k :: M.bitsB (rest s) := by
    unfold M.bitsB
    have hr : List.range 24 = List.range k ++ k :: (List.range (23 - k)).map (fun x => k + (x + 1)) := by
      have e1 : List.range 24 = List.range (k + (23 - k + 1)) := by rw [show k + (23 - k + 1) = 24 by omega]
      rw [e1, List.range_add, List.range_succ_eq_map, List.map_cons, List.map_map]
      rfl
    have hb : ∀ j, (rest s).testBit j = if j < k + 1 then false else m.testBit (j - (k + 1)) := fun j => by
      rw [hrest]
      have := Nat.testBit_two_pow_mul_add m (Nat.two_pow_pos (k + 1)) j
      simpa using this
    have ha : ∀ j, s.testBit j = if j < k + 1 then decide (k = j) else m.testBit (j - (k + 1)) := fun j => by rw [hm, M.low_bit]
    rw [hr, List.filter_append, List.filter_append, List.filter_cons, List.filter_cons]
    have n1 : (List.range k).filter (fun j => s.testBit j) = [] := by
      rw [List.filter_eq_nil_iff]
      intro j hj
      rw [List.mem_range] at hj
      rw [ha, if_pos (by omega)]
      simp; omega
    have n2 : (List.range k).filter (fun j => (rest s).testBit j) = [] := by
      rw [List.filter_eq_nil_iff]
      intro j hj
      rw [List.mem_range] at hj
      rw [hb, if_pos (by omega)]
      simp
    rw [n1, n2, if_pos (by rw [ha, if_pos (by omega)]; simp), if_neg (by rw [hb, if_pos (by omega)]; simp), List.nil_append, List.nil_append]
    congr 1
    refine List.filter_congr fun j hj => ?_
    obtain ⟨x, _, rfl⟩ := List.mem_map.1 hj
    rw [ha, hb, if_neg (by omega), if_neg (by omega)]
  have hl : leastB s = k := by unfold leastB; rw [hbits]; rfl
  have hi : idxN s = 2 ^ k * 285870213051353865 % 18446744073709551616 / 288230376151711744 := by unfold idxN; rw [hlow]
  obtain ⟨t1, t2⟩ := tab_24 k hk
  rw [hi, hl]
  exact ⟨t1, t2, hbits, by rw [hrest]; omega⟩
theorem negU_big (s : Nat) (hs : s < 16777216) (h0 : 0 < s) : negU s = ((18446744073709551616 - s : Nat) : Int) := by
  unfold negU
  rw [IntKind.wrap_u64]
  omega
theorem and_negB (s : Nat) (hs : s < 16777216) (h0 : 0 < s) : bits .and .u64 (s : Int) (negU s) = (lowN s : Int) := by
  rw [negU_big s hs h0, u64_and_nat s _ (by omega) (by omega)]
  rfl
theorem tz64B (s : Nat) (w : World) (hs : s < 16777216) (h0 : 0 < s) (hT : Tab w) :
    Calls Tryd.prog 54 #[.int .u64 s] w fun e w' => e = .returned (.int .i64 (leastB s)) ∧ w = w' := by
  obtain ⟨h1, h2, -, -⟩ := look_big s hs h0
  have hc := hT _ h1
  have hl := tab_lt _ h1
  rw [h2] at hc hl
  exact tz64_of s (lowN s) (idxN s) (leastB s) (negU s) (mulU s) w (by simp; omega) (negU_def s) (and_negB s hs h0) (mulU_def s) (mulU_idx s) h1 hl hc
set_option maxHeartbeats 400000 in
theorem tzB (s : Nat) (w : World) (hs : s < 16777216) (h0 : 0 < s) (hT : Tab w) :
    Calls Tryd.prog 46 #[.int .u64 s] w fun e w' => e = .returned (.int .i64 (leastB s)) ∧ w = w' := by
  go_enter Tryd.func46, Tryd.ntmps46
  go_wp2_with (go_at_call 54; refine (tz64B s _ hs h0 hT).mono ?_; rintro e w' ⟨rfl, rfl⟩)
  go_ret
  exact ⟨rfl, rfl⟩
theorem leastB_lt {k t : Nat} (ht : t < 2 ^ k) (hk : k ≤ 24) (h0 : 0 < t) : leastB t < k := by
  have h := (look_big t (by have := pow_24 k hk; omega) h0).2.2.1
  have hm : leastB t ∈ M.bitsB t := by rw [h]; exact List.mem_cons_self ..
  exact M.lt_of_testBit ht (M.mem_bitsB.1 hm).2
theorem rest_andB (t : Nat) (ht : t < 16777216) (h0 : 0 < t) : bits .and .u64 (t : Int) ((t : Int) - 1) = (rest t : Int) := by
  have e : ((t : Int) - 1) = ((t - 1 : Nat) : Int) := by omega
  rw [e, u64_and_nat t (t - 1) (by omega) (by omega)]
  rfl
theorem i64_and_big (a b : Nat) (ha : a < 1073741824) (hb : b < 1073741824) : bits .and .i64 (a : Int) (b : Int) = ((a &&& b : Nat) : Int) := by
  have hx : a &&& b < 2 ^ 30 := Nat.and_lt_two_pow _ (by omega)
  show IntKind.i64.wrap ((BitVec.ofInt 64 (a : Int) &&& BitVec.ofInt 64 (b : Int)).toNat : Int) = _
  rw [BitVec.toNat_and, ofInt_i64b a ha, ofInt_i64b b hb, i64_wrap_nat _ (by omega)]
theorem has_bitB (s i : Nat) (hs : s < 16777216) : (bits .and .i64 ((s : Int) / 2 ^ i) 1 == 1) = s.testBit i := by
  have e : ((s : Int) / 2 ^ i) = ((s / 2 ^ i : Nat) : Int) := by simp
  have h1 : s / 2 ^ i ≤ s := Nat.div_le_self _ _
  have h2 := i64_and_big (s / 2 ^ i) 1 (by omega) (by omega)
  rw [e]
  rw [show ((1 : Nat) : Int) = 1 from rfl] at h2
  rw [h2, Nat.testBit_eq_decide_div_mod_eq, Nat.and_one_is_mod]
  rw [Bool.eq_iff_iff]
  simp
  omega
theorem i64_andNot_big (a b : Nat) (ha : a < 16777216) (hb : b < 16777216) : ∃ r : Nat, bits .andNot .i64 (a : Int) (b : Int) = (r : Int) ∧ r ≤ a ∧ ∀ j, r.testBit j = (a.testBit j && !b.testBit j) := by
  obtain ⟨r, hr⟩ : ∃ r : Nat, (BitVec.ofInt 64 (a : Int) &&& ~~~BitVec.ofInt 64 (b : Int)).toNat = r := ⟨_, rfl⟩
  have hle : r ≤ a := by
    rw [← hr, BitVec.toNat_and, ofInt_i64b a (by omega)]
    exact Nat.and_le_left
  have hbit : ∀ j, r.testBit j = (a.testBit j && !b.testBit j) := fun j => by
    rw [← hr, BitVec.toNat_and, BitVec.toNat_not, Nat.testBit_and, ofInt_i64b a (by omega), ofInt_i64b b (by omega)]
    by_cases hj : j < 64
    · rw [show (2 ^ 64 - 1 - b) = 2 ^ 64 - (b + 1) by omega, Nat.testBit_two_pow_sub_succ (by omega)]
      simp [hj]
    · have : a.testBit j = false := Nat.testBit_lt_two_pow (Nat.lt_of_lt_of_le (show a < 2 ^ 24 by omega) (Nat.pow_le_pow_right (n := 2) (by omega) (by omega : 24 ≤ j)))
      rw [this]; simp
  refine ⟨r, ?_, hle, hbit⟩
  show IntKind.i64.wrap ((BitVec.ofInt 64 (a : Int) &&& ~~~BitVec.ofInt 64 (b : Int)).toNat : Int) = _
  rw [hr, i64_wrap_nat _ (by omega)]
set_option maxHeartbeats 400000 in
theorem has_big (s i : Nat) (w : World) (hs : s < 16777216) (hi : i < 24) :
    Calls Tryd.prog 21 #[.int .i64 s, .int .i64 i] w fun e w' => e = .returned (.bool (s.testBit i)) ∧ w = w' := by
  go_enter Tryd.func21, Tryd.ntmps21
  go_wp2
  go_ret
  exact ⟨bool_ret (has_bitB s i hs), rfl⟩
set_option maxRecDepth 100000 in
set_option maxHeartbeats 2000000 in
theorem things1_big (n : Nat) (l Bs n₀ k s : Nat) (hk : k ≤ 24) (hs : s < 2 ^ k) (hn₀ : 1 < n₀) (J Jx : List (Fin k) → World → Prop)
    (hY : ∀ pre x W, J pre W → pre.length < 24 → YieldAt Fence.wide (n - 1) Tryd.prog l #[.int .i64 ((x : Fin k).1 : Nat)] W fun e W' =>
      (e = .returned (.bool true) ∧ J (pre ++ [x]) W' ∧ Below n₀ W W') ∨ (e = .returned (.bool false) ∧ Jx (pre ++ [x]) W'))
    (W : World) (hT : Tab W) (hBs : W.cell? ⟨Bs, 0, none⟩ = some (.int .i64 s)) (h0 : J [] W) :
    CallsIn Fence.wide n Tryd.prog 45 #[.func (.yield l) #[] #[], .pointer (some ⟨Bs, 0, none⟩)] W fun e W' => (∃ v, e = .returned v) ∧
      ((∃ ys, List.map (fun x : Fin k => x.1) ys = M.bitsB s ∧ J ys W') ∨ (∃ pre, (∃ r, M.bitsB s = List.map (fun x : Fin k => x.1) pre ++ r) ∧ Jx pre W')) := by
  have h4 := pow_24 k hk
  refine callsIn_of_wp Tryd.func45 rfl trivial ?_ rfl
  simp only [Tryd.ntmps45, List.size_toArray, List.length_cons, List.length_nil, Nat.reduceAdd, Nat.reduceSub, Array.replicate_succ, Array.replicate_zero, List.push_toArray, List.append_toArray, List.nil_append, List.cons_append]
  gi_wp2
  gi_loopw [3] (fun r wr => ∃ (pre : List (Fin k)) (t : Nat), r = .int .u64 t ∧ t < 2 ^ k ∧ M.bitsB s = pre.map (fun x : Fin k => x.1) ++ M.bitsB t ∧ J pre wr ∧ Below n₀ W wr)
    (fun r _ => (intOf r).toNat)
  case atStart => exact ⟨[], s, rfl, hs, by simp, h0, Below.refl _ _⟩
  case round =>
    obtain ⟨pre, t, rfl, ht, hb, hJ, hB⟩ := hrel
    by_cases hz : t = 0
    · subst hz
      gi_wp2
      go_end0
      exact ⟨⟨_, rfl⟩, .inl ⟨pre, by rw [hb, M.bitsB_zero]; simp, hJ⟩⟩
    · have hp : 0 < t := by omega
      have ht4 : t < 16777216 := by omega
      obtain ⟨-, -, hbits, hrest⟩ := look_big t ht4 hp
      have hlt := leastB_lt ht hk hp
      have hlen : pre.length < 24 := by
        have h12 := M.bitsB_len s
        rw [hb, hbits] at h12
        simp at h12; omega
      obtain ⟨fn, tmps, assign, body, hy, hR⟩ := hY pre ⟨leastB t, hlt⟩ wr hJ hlen
      dsimp only at hy
      have hTr := hT.below hB hn₀
      have htz := (callsIn_wide (n := n - 1)).2 (tzB t wr ht4 hp hTr)
      have hne : ((t : Int) == 0) = false := by simp; omega
      have hra := rest_andB t ht4 hp
      have HB : Hid (M.bitsB s = pre.map (fun x : Fin k => x.1) ++ M.bitsB t) := hb
      have HT : Hid (M.bitsB t = leastB t :: M.bitsB (rest t)) := hbits
      clear hb hbits
      gi_wp2_with (refine ⟨trivial, (fun h => by cases h), ?_⟩; refine htz.mono ?_; rintro e w' ⟨rfl, rfl⟩)
      refine ⟨(fun h => by cases h), hR.mono ?_⟩
      rintro e W3 (⟨rfl, hJ3, hk3⟩ | ⟨rfl, hJx3⟩)
      · gi_wp2
        go_roundw
        case rel => exact ⟨pre ++ [⟨leastB t, hlt⟩], rest t, rfl, by omega, by rw [HB.out, HT.out]; simp, hJ3, hB.trans hk3⟩
        case measure => simp [intOf]; omega
      · gi_wp2
        refine bodyPost_ret (results_none rfl _ _ _) rfl ?_
        exact ⟨⟨_, rfl⟩, .inr ⟨_, ⟨M.bitsB (rest t), by rw [HB.out, HT.out]; simp⟩, hJx3⟩⟩
/-- The things of a set, as the laws of a range over a function want them. -/
theorem things_big (n : Nat) (Bs n₀ k s : Nat) (hk : k ≤ 24) (hs : s < 2 ^ k) (hn₀ : 1 < n₀) (w : World) (hBs : Bs < w.heap.size) (hle : n₀ ≤ w.heap.size) (hT : Tab w) (hc : w.cell? ⟨Bs, 0, none⟩ = some (.int .i64 s)) :
    SeqStopsK Fence.wide n Tryd.prog 45 #[.pointer (some ⟨Bs, 0, none⟩)] (fun x : Fin k => #[Value.int .i64 ((x.1 : Nat) : Int)]) (Below n₀)
      (fun ys => List.map (fun x : Fin k => x.1) ys = M.bitsB s) (fun ys => ∃ r, M.bitsB s = List.map (fun x : Fin k => x.1) ys ++ r) 24 w := fun l J Jx W hW _ _ hY h0 =>
  things1_big n l Bs n₀ k s hk hs hn₀ J Jx hY W (hT.below hW (by omega)) ((hW.cell (p := ⟨Bs, 0, none⟩) hBs).trans hc) h0
end Go.Proofs.YtkojkiggdbffhaaDoor
