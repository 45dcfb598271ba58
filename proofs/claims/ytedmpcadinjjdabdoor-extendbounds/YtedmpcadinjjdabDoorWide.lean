/- Package chain's Widest, at whatever numbers: it tells what is wrong as the document has it, else the widest set of things side by side, of several the least number; what lay in memory lies as it lay. -/
import Derived.Test.YtedmpcadinjjdabDoorSideBy
namespace Go.Proofs.YtedmpcadinjjdabDoor
open Go.RowKit Go.Shelf

theorem wUp_lt (c : List Nat) (k : Nat) (hk : k ≤ 2 ^ c.length) : M.wUp c k < 2 ^ c.length := by
  rcases (M.wUp_inv c k).1 with h | h
  · omega
  · rw [h]; exact Nat.two_pow_pos _
set_option maxHeartbeats 1000000 in
theorem rwidest_any (c : List Nat) (p : Option Addr) (n cap : Nat) (w : World) (hl : c.length = n) (he : Env w) (hn : n ≤ 12) (hok : M.Ok c) (hc : Has (ints c) p w) :
    Calls Tryd.prog 26 #[.slice p n cap] w fun e w' => e = .returned (.int .i64 (M.widest c : Nat)) ∧ Below w.heap.size w w' := by
  have hpw := pow_lt n hn
  have hsh : IntKind.i64.wrap (2 ^ n) = ((2 ^ n : Nat) : Int) := by have := i64_shl n hn; rw [Nat.shiftLeft_eq, Nat.one_mul] at this; exact this
  have hlt : ∀ k, k ≤ 2 ^ n → M.wUp c k < 2 ^ n := fun k hk => by have := wUp_lt c k (by rw [hl]; exact hk); rw [hl] at this; exact this
  have hgoal : Hid (M.widest c = M.wUp c (2 ^ n)) := (by unfold M.widest; rw [hl] : M.widest c = M.wUp c (2 ^ n))
  have hsb : ∀ (s : Nat) (w1 : World), s < 2 ^ n → Below w.heap.size w w1 → Calls Tryd.prog 44 #[.slice p n cap, .int .i64 s] w1 fun e w' => e = .returned (.bool (M.side c s)) ∧ Below w1.heap.size w1 w' :=
    fun s w1 hs hB => sideBy_any c s p n cap w1 hl (he.later hB) hn hok hs (hc.later hB)
  have HQ : ∃ q : Nat, 2 ^ n = q := ⟨_, rfl⟩
  obtain ⟨q, hq⟩ := HQ
  rw [hq] at hsh hpw hlt hsb hgoal
  clear hq
  go_enter Tryd.func26, Tryd.ntmps26
  go_wp2
  go_loopw [3, 8] (fun b k wr => ∃ (i z : Nat), i ≤ q ∧ Hid (z = M.wUp c i) ∧ z < q ∧ b = .int .i64 z ∧ k = .int .i64 i ∧ Below w.heap.size w wr) (fun _ k _ => q - (intOf k).toNat)
  case atStart => exact ⟨0, 0, Nat.zero_le _, (rfl : 0 = M.wUp c 0), by have := hlt 0 (Nat.zero_le _); omega, rfl, rfl, Below.refl _ _⟩
  case round =>
    obtain ⟨i, z, hi, hz, hzl, rfl, rfl, hB⟩ := hrel
    by_cases hiq : i < q
    · have h1 := size_any i wr (by omega)
      have h2 := size_any z wr (by omega)
      have h3 := hsb i wr hiq hB
      have hstep : Hid (M.wUp c (i + 1) = if M.pc z < M.pc i && M.side c i then i else z) := (by rw [hz.out]; rfl : M.wUp c (i + 1) = if M.pc z < M.pc i && M.side c i then i else z)
      have hpi : M.pc i ≤ 12 := M.cnt_le 12 i
      have hpz : M.pc z ≤ 12 := M.cnt_le 12 z
      generalize M.pc i = a at *
      generalize M.pc z = b at *
      generalize M.side c i = sd at *
      by_cases hgt : b < a
      · have hne : decide ((b : Int) < a) = true := decide_eq_true (by omega)
        go_wp2_with fail
        refine h1.mono ?_
        rintro e w1 ⟨rfl, rfl⟩
        go_wp2_with fail
        refine h2.mono ?_
        rintro e w1 ⟨rfl, rfl⟩
        go_wp2_with fail
        refine h3.mono ?_
        rintro e w1 ⟨rfl, hB1⟩
        have hB2 := hB.trans (hB1.mono hB.size)
        cases sd with
        | true =>
          go_wp2_with fail
          go_roundw
          case rel => exact ⟨i + 1, i, by omega, (by rw [hstep.out]; simp [hgt] : i = M.wUp c (i + 1)), hiq, rfl, by go_num, hB2⟩
          case measure => simp [intOf]; omega
        | false =>
          go_wp2_with fail
          go_roundw
          case rel => exact ⟨i + 1, z, by omega, (by rw [hstep.out]; simp : z = M.wUp c (i + 1)), hzl, rfl, by go_num, hB2⟩
          case measure => simp [intOf]; omega
      · have hne : decide ((b : Int) < a) = false := decide_eq_false (by omega)
        go_wp2_with fail
        refine h1.mono ?_
        rintro e w1 ⟨rfl, rfl⟩
        go_wp2_with fail
        refine h2.mono ?_
        rintro e w1 ⟨rfl, rfl⟩
        go_wp2_with fail
        go_roundw
        case rel => exact ⟨i + 1, z, by omega, (by rw [hstep.out]; simp [hgt] : z = M.wUp c (i + 1)), hzl, rfl, by go_num, hB⟩
        case measure => simp [intOf]; omega
    · obtain rfl : i = q := by omega
      go_wp2_with fail
      go_ret
      exact ⟨(by rw [hgoal.out, ← hz.out]; rfl), hB⟩
set_option maxHeartbeats 400000 in
theorem widest_err (zs : List Int) (p : Option Addr) (n cap c : Nat) (w : World) (hl : zs.length = n) (he : Env w) (hmax : n ≤ maxLen) (hc : Has zs p w) (h0 : code zs = c) (hne : c ≠ 0) :
    Calls Tryd.prog 10 #[.slice p n cap] w fun e w' => e = .returned (.tuple #[.int .i64 0, .iface 44 (.int .i64 (c : Nat))]) ∧ Below w.heap.size w w' := by
  go_enter Tryd.func10, Tryd.ntmps10
  go_wp2_with (go_at_call 24; refine (behind_err zs p n cap c _ hl he hmax hc h0 hne).mono ?_; rintro e w' ⟨rfl, hB⟩)
  go_ret2
  exact ⟨rfl, hB⟩
set_option maxHeartbeats 400000 in
theorem widest_ok (zs : List Int) (p : Option Addr) (n cap : Nat) (w : World) (hl : zs.length = n) (he : Env w) (hmax : n ≤ maxLen) (hc : Has zs p w) (h0 : code zs = 0) :
    Calls Tryd.prog 10 #[.slice p n cap] w fun e w' => e = .returned (.tuple #[.int .i64 (M.widest (M.clo (nats zs)) : Nat), .nilIface]) ∧ Below w.heap.size w w' := by
  have hz := code_zero h0
  have hlen : (M.clo (nats zs)).length = n := by rw [M.clo_length, nats_length, hl]
  go_enter Tryd.func10, Tryd.ntmps10
  go_wp2_with fail
  refine (behind_ok zs p n cap _ hl he hmax hc h0).mono ?_
  rintro e w1 ⟨A, rfl, hr, hA, hB⟩
  go_wp2_with fail
  refine (rwidest_any (M.clo (nats zs)) (some ⟨A, 0, none⟩) n n w1 hlen (he.later hB) (by omega) (M.clo_ok (nats_ok hz.2.1)) hr.has).mono ?_
  rintro e w2 ⟨rfl, hB2⟩
  go_wp2_with fail
  go_ret2
  exact ⟨rfl, hB.trans (hB2.mono hB.size)⟩
end Go.Proofs.YtedmpcadinjjdabDoor
