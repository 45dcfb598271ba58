/- The document's own answers on orders (package whensteadref1): what is wrong with an order (Order), the order turned round (Turned), and with a step more (More); what lay in memory lies as it lay. -/
import Derived.Test.YtedmpcadinjjdabDoorRefClo
namespace Go.Proofs.YtedmpcadinjjdabDoor
open Go.RowKit

theorem ints_nats {zs : List Int} (h : allSets zs = true) : ints (nats zs) = zs := by
  apply List.ext_getElem
  · rw [ints_length, nats_length]
  · intro i h1 h2
    have e1 := ints_get (nats zs) i
    have e2 := (set_nat h i).1
    rw [List.getElem?_eq_getElem h1] at e1
    rw [List.getElem?_eq_getElem h2] at e2
    simpa using e1.trans e2.symm
set_option maxRecDepth 10000 in
set_option maxHeartbeats 2000000 in
theorem order_any (zs : List Int) (p : Option Addr) (n cap : Nat) (w : World) (hl : zs.length = n) (hmax : n ≤ maxLen) (hc : Has zs p w) :
    Calls Tryd.prog 13 #[.slice p n cap] w fun e w' => e = .returned (.int .i64 (code zs : Nat)) ∧ Below w.heap.size w w' := by
  unfold maxLen at hmax
  by_cases h12 : 12 < n
  · have h4 : Hid (code zs = 4) := code_full (by omega)
    go_enter Tryd.func13, Tryd.ntmps13
    go_wp2
    go_ret
    exact ⟨by rw [h4.out]; rfl, Below.refl _ _⟩
  · have hn : n ≤ 12 := by omega
    go_enter Tryd.func13, Tryd.ntmps13
    go_wp2
    go_loop [3] (fun c => ∃ k : Nat, k ≤ n ∧ c = .int .i64 k ∧ ∀ j, j < k → setB (zs[j]?.getD 0) n = true) (fun c => n - (intOf c).toNat)
    case atStart => exact ⟨0, Nat.zero_le _, rfl, fun j hj => by omega⟩
    case round =>
      obtain ⟨k, hk, rfl, hsets⟩ := hrel
      by_cases hlt : k < n
      · obtain ⟨b, off, rfl, hb, hcell⟩ := hc k (by omega)
        obtain ⟨z, hz⟩ : ∃ z, z = zs[k]?.getD 0 := ⟨_, rfl⟩
        rw [← hz] at hcell
        have HZ : Hid (z = zs[k]?.getD 0) := hz
        clear hz hc
        by_cases hs : setB z n = true
        · go_wp2_with (go_at_call 29; refine (mask_any _ _ _ hn).mono ?_; rintro e w' ⟨rfl, rfl⟩)
          go_round
          case rel => exact ⟨k + 1, by omega, by go_num, fun j hj => by by_cases e : j = k; (· subst e; rw [← HZ.out]; exact hs); (· exact hsets j (by omega))⟩
          case measure => simp [intOf]; omega
        · have hs' : setB z n = false := by simpa using hs
          have hcode : Hid (code zs = 1) := code_range (by omega) (by
            cases h : allSets zs with
            | false => rfl
            | true => exact absurd (by rw [HZ.out, ← hl]; exact (allSets_iff zs).1 h k (by omega)) hs)
          go_wp2_with (go_at_call 29; refine (mask_any _ _ _ hn).mono ?_; rintro e w' ⟨rfl, rfl⟩)
          go_ret
          exact ⟨by rw [hcode.out]; rfl, Below.refl _ _⟩
      · obtain rfl : k = n := by omega
        have hall : allSets zs = true := (allSets_iff zs).2 (by rw [hl]; exact hsets)
        have hlen : (M.clo (nats zs)).length = k := by rw [M.clo_length, nats_length, hl]
        have hok := M.clo_ok (nats_ok hall)
        have hp := pow_lt k hn
        go_wp2_with (go_at_call 30; refine (closed_any (nats zs) p k cap _ (by rw [nats_length, hl]) (nats_ok hall) hn (by rw [ints_nats hall]; exact hc)).mono ?_; rintro e w' ⟨q, c, rfl, hq, hB⟩)
        go_loop [5] (fun c => ∃ j : Nat, j ≤ k ∧ c = .int .i64 j ∧ ∀ x, x < j → (M.row (M.clo (nats zs)) x).testBit x = false) (fun c => k - (intOf c).toNat)
        case atStart => exact ⟨0, Nat.zero_le _, rfl, fun j hj => by omega⟩
        case round =>
          obtain ⟨j, hj, rfl, hno⟩ := hrel
          by_cases hlt : j < k
          · obtain ⟨b, off, rfl, hb, hcell⟩ := hq j (by rw [ints_length]; omega)
            rw [ints_get] at hcell
            have hrk : M.row (M.clo (nats zs)) j < 65536 := by have := hok j; rw [hlen] at this; omega
            cases hbit : (M.row (M.clo (nats zs)) j).testBit j with
            | false =>
              go_wp2_with (go_at_call 31; refine (bit_any _ _ _ hrk (by omega)).mono ?_; rintro e w' ⟨rfl, rfl⟩)
              go_round
              case rel => exact ⟨j + 1, by omega, by go_num, fun x hx => by by_cases e : x = j; (· subst e; exact hbit); (· exact hno x (by omega))⟩
              case measure => simp [intOf]; omega
            | true =>
              have hcode : Hid (code zs = 6) := code_clash (by omega) hall (ringB_iff.2 ⟨j, (M.clo_bit _ j j).1 hbit⟩)
              go_wp2_with (go_at_call 31; refine (bit_any _ _ _ hrk (by omega)).mono ?_; rintro e w' ⟨rfl, rfl⟩)
              go_ret
              exact ⟨by rw [hcode.out]; rfl, hB⟩
          · have hcode : Hid (code zs = 0) := code_ok (by omega) hall (by
              cases h : ringB (nats zs) with
              | false => rfl
              | true =>
                obtain ⟨i, hi⟩ := ringB_iff.1 h
                have h1 := (M.clo_bit _ i i).2 hi
                have h3 := M.clo_in hi
                rw [nats_length] at h3
                rw [hno i (by omega)] at h1; cases h1)
            go_wp2
            go_ret
            exact ⟨by rw [hcode.out]; rfl, hB⟩

/-! ### turned round -/
theorem cnt01_lt (k : Nat) (f : Nat → Bool) : M.cnt01 k f < 2 ^ k := by
  apply Nat.lt_pow_two_of_testBit
  intro i hi
  rw [M.cnt01_bit]
  simp; omega
theorem turned_row (m : List Nat) (i : Nat) (h : i < m.length) : M.row (M.turned m) i = M.cnt01 m.length fun j => (M.row (M.clo m) j).testBit i := by
  simp [M.row, M.turned, M.turn, M.clo_length, h]
set_option maxRecDepth 10000 in
set_option maxHeartbeats 2000000 in
theorem rturned_any (m : List Nat) (p : Option Addr) (n cap : Nat) (w : World) (hl : m.length = n) (hm : M.Ok m) (hn : n ≤ 12) (hc : Has (ints m) p w) :
    Calls Tryd.prog 32 #[.slice p n cap] w fun e w' => ∃ q c, e = .returned (.slice q n c) ∧ Has (ints (M.turned m)) q w' ∧ Below w.heap.size w w' := by
  obtain ⟨i0, hi, hz0, hz1, hz2⟩ := info_parts Tryd.info3
  have hp := pow_lt n hn
  have hcl : (M.clo m).length = n := by rw [M.clo_length, hl]
  have htl : (M.turned m).length = n := by rw [M.turned_length, hl]
  have hok := M.clo_ok hm
  go_enter Tryd.func32, Tryd.ntmps32
  go_wp2_with (go_at_call 30; refine (closed_any m p n cap _ hl hm hn hc).mono ?_; rintro e w1 ⟨pc, cc, rfl, hq, hB1⟩)
  go_loopw [4, 5] (fun v c wr => ∃ k : Nat, k ≤ n ∧ c = .int .i64 k ∧ wr.ownsRow w1.heap.size 3 1 v k (cellsOf (M.turned m) k) ∧ Below w1.heap.size w1 wr) (fun _ c _ => n - (intOf c).toNat)
  case atStart => exact ⟨0, Nat.zero_le _, rfl, World.ownsRow_nil _ _ _ _, Below.refl _ _⟩
  case round =>
    obtain ⟨k, hk, rfl, hown, hB⟩ := hrel
    by_cases hlt : k < n
    · have hqr := hq.later hB
      go_wp2
      go_loop [6, 7] (fun v c => ∃ (j s : Nat), j ≤ n ∧ Hid (s = M.cnt01 j fun x => (M.row (M.clo m) x).testBit k) ∧ s < 4096 ∧ v = .int .i64 s ∧ c = .int .i64 j) (fun _ c => n - (intOf c).toNat)
      case atStart => exact ⟨0, 0, Nat.zero_le _, show _ = _ by rfl, by omega, rfl, rfl⟩
      case round =>
        obtain ⟨j, s, hj, hs, hs4, rfl, rfl⟩ := hrel
        by_cases hjl : j < n
        · obtain ⟨b, off, rfl, hb, hcell⟩ := hqr j (by rw [ints_length]; omega)
          rw [ints_get] at hcell
          have hrj : M.row (M.clo m) j < 65536 := by have := hok j; rw [hcl] at this; omega
          cases hbit : (M.row (M.clo m) j).testBit k with
          | false =>
            have hs1 : Hid (s = M.cnt01 (j + 1) fun x => (M.row (M.clo m) x).testBit k) := by
              show _ = _; simp only [M.cnt01]; rw [← hs.out, if_neg (by rw [hbit]; simp), Nat.or_zero]
            go_wp2_with (go_at_call 31; refine (bit_any _ _ _ hrj (by omega)).mono ?_; rintro e w' ⟨rfl, rfl⟩)
            go_round
            case rel => exact ⟨j + 1, s, by omega, hs1, hs4, rfl, by go_num⟩
            case measure => simp [intOf]; omega
          | true =>
            obtain ⟨q, hqp⟩ : ∃ q, 2 ^ j = q := ⟨_, rfl⟩
            have HQ : Hid (2 ^ j = q) := hqp
            have hs1 : Hid (s + q = M.cnt01 (j + 1) fun x => (M.row (M.clo m) x).testBit k) := by
              show _ = _; simp only [M.cnt01]; rw [← hs.out, if_pos hbit, ← hqp]
              exact add_pow_or s j (by rw [hs.out, M.cnt01_bit]; simp)
            have hs2 : s + q < 4096 := by
              rw [hs1.out]
              have h1 := cnt01_lt (j + 1) fun x => (M.row (M.clo m) x).testBit k
              have h2 := pow_lt (j + 1) (by omega)
              omega
            have hq2 : q ≤ 4096 := by omega
            clear hqp
            go_wp2_with (first | (go_at_call 31; refine (bit_any _ _ _ hrj (by omega)).mono ?_; rintro e w' ⟨rfl, rfl⟩) | (go_at_call 34; refine (pow2_any j q _ (by omega) HQ).mono ?_; rintro e w' ⟨rfl, rfl⟩))
            go_round
            case rel => exact ⟨j + 1, s + q, by omega, hs1, hs2, by go_num, by go_num⟩
            case measure => simp [intOf]; omega
        · obtain rfl : j = n := by omega
          have htc : Hid (s = M.row (M.turned m) k) := by show _ = _; rw [hs.out, turned_row m k (by omega), hl]
          go_wp2_with (at_builtin; refine wpList_append_own _ rfl _ _ 22 rfl w1.heap.size 3 i0 (.int .i64 0) 1 8 Tryd.underlying22 hi hz0 hz1 hz2 rfl (by decide) _ _ _ rfl (hown.alloc _) ⟨wr.heap.size, 0, none⟩ 1 1 [.int .i64 (s : Nat)] rfl rfl (cell_one_new _ _ _) (by simp [Value.oneCell']) (by unfold maxLen; omega) (by omega) (by have := hB.size; simp; omega) ?_; intro v' w2 hown' hgrow _)
          have hcs : Hid (cellsOf (M.turned m) (k + 1) = cellsOf (M.turned m) k ++ [.int .i64 (s : Nat)]) := by show _ = _; rw [cellsOf_succ _ _ (by omega), ← htc.out]
          have hB2 : Below w1.heap.size w1 w2 := (hB.alloc hB.size _).grown hgrow (by have := hB.size; simp; omega) (fun j e => (hown.lt j e).1)
          first | go_roundw | skip
          case rel => exact ⟨k + 1, by omega, by go_num, by rw [hcs.out]; exact hown', hB2⟩
          case measure => simp [intOf]; omega
    · obtain rfl : k = n := by omega
      obtain ⟨pq, cq, rfl, hh⟩ := has_of_owns htl hown
      go_wp2
      go_ret
      exact ⟨pq, cq, rfl, hh, hB1.trans (hB.mono hB1.size)⟩

/-! ### a step more -/
theorem more_row {m : List Nat} {a b : Nat} (ha : a < m.length) (i : Nat) : M.row (M.more m a b) i = if i = a then M.row m i ||| 1 <<< b else M.row m i := by
  unfold M.more
  rw [M.row_set]
  by_cases e : a = i
  · subst e; rw [if_pos ⟨rfl, ha⟩, if_pos rfl]
  · rw [if_neg (fun h => e h.1), if_neg (fun h => e h.symm)]
end Go.Proofs.YtedmpcadinjjdabDoor
