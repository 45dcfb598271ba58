/- Package order's Behind, at whatever numbers: what is wrong is told as the document has it (more than twelve rows, a row that is no set, a thing behind itself), else a new list of all that stand behind; what lay in memory lies as it lay. The library's table lies where its variable is. -/
import Derived.Test.YtajiichehffaaaaDoorReach
namespace Go.Proofs.YtajiichehffaaaaDoor
open Go.RowKit

/-- Numbers as sets. -/
def nats (zs : List Int) : List Nat := zs.map Int.toNat
def allSets (zs : List Int) : Bool := zs.all fun z => setB z zs.length
def ringB (m : List Nat) : Bool := (List.range m.length).any fun i => (M.row (M.clo m) i).testBit i
/-- What is wrong with an order: the number of its error, 0 if nothing is. -/
def code (zs : List Int) : Nat := if 12 < zs.length then 4 else if allSets zs then (if ringB (nats zs) then 6 else 0) else 1
def errV (c : Nat) : Value := if c = 0 then .nilIface else .iface 59 (.int .i64 (c : Nat))

theorem nats_length (zs : List Int) : (nats zs).length = zs.length := by simp [nats]
theorem nats_row (zs : List Int) (k : Nat) : M.row (nats zs) k = (zs[k]?.getD 0).toNat := by
  unfold M.row nats
  rw [List.getElem?_map]
  cases zs[k]? <;> simp
theorem allSets_iff (zs : List Int) : allSets zs = true ↔ ∀ k, k < zs.length → setB (zs[k]?.getD 0) zs.length = true := by
  unfold allSets
  rw [List.all_eq_true]
  constructor
  · intro h k hk
    have := h zs[k] (List.getElem_mem hk)
    simpa [hk] using this
  · intro h z hz
    obtain ⟨k, hk, rfl⟩ := List.getElem_of_mem hz
    have := h k hk
    simpa [hk] using this
theorem set_nat {zs : List Int} (h : allSets zs = true) (k : Nat) : zs[k]?.getD 0 = ((M.row (nats zs) k : Nat) : Int) ∧ M.row (nats zs) k < 2 ^ zs.length := by
  rw [nats_row]
  by_cases hk : k < zs.length
  · have h1 := (allSets_iff zs).1 h k hk
    generalize zs[k]?.getD 0 = z at *
    unfold setB at h1
    have h2 := of_decide_eq_true h1
    have e : ((2 : Int) ^ zs.length) = ((2 ^ zs.length : Nat) : Int) := by simp
    rw [e] at h2
    omega
  · rw [List.getElem?_eq_none (by omega)]
    exact ⟨rfl, Nat.two_pow_pos _⟩
theorem nats_ok {zs : List Int} (h : allSets zs = true) : M.Ok (nats zs) := fun i => by rw [nats_length]; exact (set_nat h i).2
theorem ringB_iff {m : List Nat} : ringB m = true ↔ M.Ring m := by
  unfold ringB
  rw [List.any_eq_true]
  constructor
  · rintro ⟨i, _, h⟩
    exact ⟨i, (M.clo_bit m i i).1 h⟩
  · rintro ⟨i, h⟩
    exact ⟨i, List.mem_range.2 (M.clo_in h), (M.clo_bit m i i).2 h⟩
theorem code_full {zs : List Int} (h : 12 < zs.length) : code zs = 4 := by unfold code; rw [if_pos h]
theorem code_range {zs : List Int} (h : ¬ 12 < zs.length) (h1 : allSets zs = false) : code zs = 1 := by unfold code; rw [if_neg h, if_neg (by rw [h1]; simp)]
theorem code_clash {zs : List Int} (h : ¬ 12 < zs.length) (h1 : allSets zs = true) (h2 : ringB (nats zs) = true) : code zs = 6 := by unfold code; rw [if_neg h, if_pos h1, if_pos h2]
theorem code_ok {zs : List Int} (h : ¬ 12 < zs.length) (h1 : allSets zs = true) (h2 : ringB (nats zs) = false) : code zs = 0 := by unfold code; rw [if_neg h, if_pos h1, if_neg (by rw [h2]; simp)]
theorem code_zero {zs : List Int} (h : code zs = 0) : zs.length ≤ 12 ∧ allSets zs = true ∧ ¬ M.Ring (nats zs) := by
  unfold code at h
  by_cases h1 : 12 < zs.length
  · rw [if_pos h1] at h; omega
  · rw [if_neg h1] at h
    by_cases h2 : allSets zs = true
    · rw [if_pos h2] at h
      by_cases h3 : ringB (nats zs) = true
      · rw [if_pos h3] at h; omega
      · exact ⟨by omega, h2, fun hr => h3 (ringB_iff.2 hr)⟩
    · rw [if_neg h2] at h; omega

theorem reached_zs (zs : List Int) (hset : allSets zs = true) (hn : zs.length ≤ 12) (p : Option Addr) (cap : Nat) (w : World) (hT : Tab w) (h2 : 2 < w.heap.size)
    (hc : ∀ j, j < zs.length → ∃ b off, p = some ⟨b, off, none⟩ ∧ b < w.heap.size ∧ w.cell? ⟨b, off + j, none⟩ = some (.int .i64 (zs[j]?.getD 0))) :
    Calls Tryd.prog 56 #[.slice p zs.length cap] w fun e w' => ∃ A, e = .returned (.slice (some ⟨A, 0, none⟩) zs.length zs.length) ∧ RowAt 3 w' A (M.clo (nats zs)) ∧ w.heap.size ≤ A ∧ Below w.heap.size w w' := by
  have h := reached_any (nats zs) (nats_ok hset) (by rw [nats_length]; exact hn) p cap w hT h2 (fun j hj => by
    rw [nats_length] at hj
    obtain ⟨b, off, h1, h3, h4⟩ := hc j hj
    rw [(set_nat hset j).1] at h4
    exact ⟨b, off, h1, h3, h4⟩)
  rw [nats_length] at h
  exact h

/-- What Behind leaves. -/
def BehindPost (zs : List Int) (w : World) (e : Ending) (w' : World) : Prop :=
  ∃ r, e = .returned (.tuple #[r, errV (code zs)]) ∧ Below w.heap.size w w' ∧ (code zs ≠ 0 → r = .slice none 0 0) ∧
    (code zs = 0 → ∃ A, r = .slice (some ⟨A, 0, none⟩) zs.length zs.length ∧ RowAt 3 w' A (M.clo (nats zs)) ∧ w.heap.size ≤ A)
theorem behindPost_err {zs : List Int} {w w' : World} {c : Nat} (hc : code zs = c) (h0 : c ≠ 0) (hb : Below w.heap.size w w') : BehindPost zs w (.returned (.tuple #[.slice none 0 0, .iface 59 (.int .i64 (c : Nat))])) w' :=
  ⟨_, by rw [hc]; simp [errV, h0], hb, fun _ => rfl, fun h => absurd (hc.symm.trans h) h0⟩
theorem behindPost_ok {zs : List Int} {w w' : World} {A : Nat} (hc : code zs = 0) (hb : Below w.heap.size w w') (hr : RowAt 3 w' A (M.clo (nats zs))) (hA : w.heap.size ≤ A) : BehindPost zs w (.returned (.tuple #[.slice (some ⟨A, 0, none⟩) zs.length zs.length, .nilIface])) w' :=
  ⟨_, by rw [hc]; simp [errV], hb, fun h => absurd hc h, fun _ => ⟨A, rfl, hr, hA⟩⟩

set_option maxHeartbeats 1000000 in
theorem behind_any (zs : List Int) (p : Option Addr) (cap : Nat) (w : World) (hT : Tab w) (h2 : 2 < w.heap.size) (hmax : zs.length ≤ maxLen)
    (hc : ∀ j, j < zs.length → ∃ b off, p = some ⟨b, off, none⟩ ∧ b < w.heap.size ∧ w.cell? ⟨b, off + j, none⟩ = some (.int .i64 (zs[j]?.getD 0))) :
    Calls Tryd.prog 48 #[.slice p zs.length cap] w (BehindPost zs w) := by
  unfold maxLen at hmax
  by_cases h12 : 12 < zs.length
  · go_enter Tryd.func48, Tryd.ntmps48
    go_wp2
    go_ret2
    exact behindPost_err (c := 4) (code_full h12) (by omega) (Below.refl _ _)
  · have hn : zs.length ≤ 12 := by omega
    go_enter Tryd.func48, Tryd.ntmps48
    go_wp2
    go_loop [15] (fun i => ∃ k : Nat, k ≤ zs.length ∧ i = .int .i64 k ∧ ∀ j, j < k → setB (zs[j]?.getD 0) zs.length = true) (fun i => zs.length - (intOf i).toNat)
    case atStart => exact ⟨0, Nat.zero_le _, rfl, fun j hj => by omega⟩
    case round =>
      obtain ⟨k, hk, rfl, hsets⟩ := hrel
      by_cases hlt : k < zs.length
      · obtain ⟨b, off, rfl, hb, hcell⟩ := hc k hlt
        clear hc
        obtain ⟨z, hz⟩ : ∃ z, z = zs[k]?.getD 0 := ⟨_, rfl⟩
        rw [← hz] at hcell
        have HZ : Hid (z = zs[k]?.getD 0) := hz
        clear hz
        by_cases hs : setB z zs.length = true
        · go_wp2_with (go_at_call 55; refine (isSet_any _ _ _ hn).mono ?_; rintro e w' ⟨rfl, rfl⟩)
          go_round
          case rel => exact ⟨k + 1, by omega, by go_num, fun j hj => by by_cases e : j = k; (· subst e; rw [← HZ.out]; exact hs); (· exact hsets j (by omega))⟩
          case measure => simp [intOf]; omega
        · have hs' : setB z zs.length = false := by simpa using hs
          have hcode : Hid (code zs = 1) := code_range h12 (by
            cases h : allSets zs with
            | false => rfl
            | true => exact absurd (by rw [HZ.out]; exact (allSets_iff zs).1 h k hlt) hs)
          go_wp2_with (go_at_call 55; refine (isSet_any _ _ _ hn).mono ?_; rintro e w' ⟨rfl, rfl⟩)
          go_ret2
          exact behindPost_err (c := 1) hcode.out (by omega) (Below.refl _ _)
      · obtain rfl : k = zs.length := by omega
        have hall : allSets zs = true := (allSets_iff zs).2 hsets
        go_wp2_with (go_at_call 56; refine (reached_zs zs hall hn p cap _ hT h2 hc).mono ?_; rintro e w' ⟨A, rfl, hrow, hA, hB⟩)
        have hlen : (M.clo (nats zs)).length = zs.length := by rw [M.clo_length, nats_length]
        have hok := M.clo_ok (nats_ok hall)
        have hp := pow_lt zs.length hn
        go_loop [30] (fun i => ∃ k : Nat, k ≤ zs.length ∧ i = .int .i64 k ∧ ∀ j, j < k → (M.row (M.clo (nats zs)) j).testBit j = false) (fun i => zs.length - (intOf i).toNat)
        case atStart => exact ⟨0, Nat.zero_le _, rfl, fun j hj => by omega⟩
        case round =>
          obtain ⟨k, hk, rfl, hno⟩ := hrel
          by_cases hlt : k < zs.length
          · have hcell := hrow.cell (k := k) (by rw [hlen]; exact hlt)
            have hrk : M.row (M.clo (nats zs)) k < 4096 := by have := hok k; rw [hlen] at this; omega
            cases hbit : (M.row (M.clo (nats zs)) k).testBit k with
            | false =>
              go_wp2_with (go_at_call 41; refine (has_any _ _ _ hrk (by omega)).mono ?_; rintro e w' ⟨rfl, rfl⟩)
              go_round
              case rel => exact ⟨k + 1, by omega, by go_num, fun j hj => by by_cases e : j = k; (· subst e; exact hbit); (· exact hno j (by omega))⟩
              case measure => simp [intOf]; omega
            | true =>
              have hcode : Hid (code zs = 6) := code_clash h12 hall (ringB_iff.2 ⟨k, (M.clo_bit _ k k).1 hbit⟩)
              go_wp2_with (go_at_call 41; refine (has_any _ _ _ hrk (by omega)).mono ?_; rintro e w' ⟨rfl, rfl⟩)
              go_ret2
              exact behindPost_err (c := 6) hcode.out (by omega) hB
          · obtain rfl : k = zs.length := by omega
            have hcode : Hid (code zs = 0) := code_ok h12 hall (by
              cases h : ringB (nats zs) with
              | false => rfl
              | true =>
                obtain ⟨i, hi⟩ := ringB_iff.1 h
                have h1 := (M.clo_bit _ i i).2 hi
                have h3 := M.clo_in hi
                rw [nats_length] at h3
                rw [hno i h3] at h1; cases h1)
            go_wp2
            go_ret2
            exact behindPost_ok hcode.out hB hrow hA
end Go.Proofs.YtajiichehffaaaaDoor
