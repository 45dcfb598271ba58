/- Package down's Close, Is and Last, at whatever numbers: each tells what is wrong as the document has it, else what a set closes to, whether it is closed, and its last things; what lay in memory lies as it lay. -/
import Derived.Test.YtejnjokjkinpkaaDoorAho
namespace Go.Proofs.YtejnjokjkinpkaaDoor
open Go.RowKit

/-- what is wrong with an order and a set of its things: 0: nothing -/
def dcode (zs : List Int) (z : Int) : Nat := if code zs = 0 then (if setB z zs.length then 0 else 1) else code zs
theorem dcode_zero {zs : List Int} {z : Int} (h : dcode zs z = 0) : code zs = 0 ∧ ∃ s : Nat, z = s ∧ s < 2 ^ zs.length := by
  unfold dcode at h
  split at h
  · rename_i h0
    split at h
    · rename_i h1; exact ⟨h0, nat_setB h1⟩
    · cases h
  · rename_i h0; exact absurd h h0
theorem dcode_ok {zs : List Int} {s : Nat} (h : code zs = 0) (hs : s < 2 ^ zs.length) : dcode zs (s : Int) = 0 := by
  unfold dcode; rw [if_pos h, if_pos (setB_nat hs)]
theorem ahead_bad (zs : List Int) (z : Int) (p : Option Addr) (n cap c : Nat) (w : World) (hl : zs.length = n) (he : Env w) (hmax : n ≤ maxLen) (hc : Has zs p w) (h0 : dcode zs z = c) (hne : c ≠ 0) :
    Calls Tryd.prog 41 #[.slice p n cap, .int .i64 z] w fun e w' => e = .returned (.tuple #[.int .i64 0, .iface 49 (.int .i64 (c : Nat))]) ∧ Below w.heap.size w w' := by
  unfold dcode at h0
  split at h0
  · rename_i h1
    split at h0
    · omega
    · rename_i h2
      subst h0
      exact ahead_range zs z p n cap w hl he hmax hc h1 (by rw [← hl]; simpa using h2)
  · rename_i h1
    exact ahead_err zs z p n cap c w hl he hmax hc h0 hne
set_option maxHeartbeats 400000 in
theorem close_bad (zs : List Int) (z : Int) (p : Option Addr) (n cap c : Nat) (w : World) (hl : zs.length = n) (he : Env w) (hmax : n ≤ maxLen) (hc : Has zs p w) (h0 : dcode zs z = c) (hne : c ≠ 0) :
    Calls Tryd.prog 16 #[.slice p n cap, .int .i64 z] w fun e w' => e = .returned (.tuple #[.int .i64 0, .iface 49 (.int .i64 (c : Nat))]) ∧ Below w.heap.size w w' := by
  go_enter Tryd.func16, Tryd.ntmps16
  go_wp2_with (go_at_call 41; refine (ahead_bad zs z p n cap c _ hl he hmax hc h0 hne).mono ?_; rintro e w' ⟨rfl, hB⟩)
  go_ret2
  exact ⟨rfl, hB⟩
set_option maxHeartbeats 400000 in
theorem dis_bad (zs : List Int) (z : Int) (p : Option Addr) (n cap c : Nat) (w : World) (hl : zs.length = n) (he : Env w) (hmax : n ≤ maxLen) (hc : Has zs p w) (h0 : dcode zs z = c) (hne : c ≠ 0) :
    Calls Tryd.prog 17 #[.slice p n cap, .int .i64 z] w fun e w' => e = .returned (.tuple #[.bool false, .iface 49 (.int .i64 (c : Nat))]) ∧ Below w.heap.size w w' := by
  go_enter Tryd.func17, Tryd.ntmps17
  go_wp2_with (go_at_call 41; refine (ahead_bad zs z p n cap c _ hl he hmax hc h0 hne).mono ?_; rintro e w' ⟨rfl, hB⟩)
  go_ret2
  exact ⟨rfl, hB⟩
set_option maxHeartbeats 400000 in
theorem last_bad (zs : List Int) (z : Int) (p : Option Addr) (n cap c : Nat) (w : World) (hl : zs.length = n) (he : Env w) (hmax : n ≤ maxLen) (hc : Has zs p w) (h0 : dcode zs z = c) (hne : c ≠ 0) :
    Calls Tryd.prog 18 #[.slice p n cap, .int .i64 z] w fun e w' => e = .returned (.tuple #[.int .i64 0, .iface 49 (.int .i64 (c : Nat))]) ∧ Below w.heap.size w w' := by
  go_enter Tryd.func18, Tryd.ntmps18
  go_wp2_with (go_at_call 41; refine (ahead_bad zs z p n cap c _ hl he hmax hc h0 hne).mono ?_; rintro e w' ⟨rfl, hB⟩)
  go_ret2
  exact ⟨rfl, hB⟩
theorem ahs_small {zs : List Int} (n : Nat) (hl : zs.length = n) (hn : n ≤ 12) (s : Nat) : M.ahS (M.turned (nats zs)) s < 4096 := by
  have := M.ahS_lt (M.turned_ok (nats zs)) s
  rw [M.turned_length, nats_length, hl] at this
  have := pow_lt n hn
  omega
set_option maxHeartbeats 400000 in
theorem close_ok (zs : List Int) (s : Nat) (p : Option Addr) (n cap : Nat) (w : World) (hl : zs.length = n) (he : Env w) (hmax : n ≤ maxLen) (hc : Has zs p w) (h0 : code zs = 0) (hs : s < 2 ^ n) :
    Calls Tryd.prog 16 #[.slice p n cap, .int .i64 (s : Nat)] w fun e w' => e = .returned (.tuple #[.int .i64 (M.down (M.turned (nats zs)) s : Nat), .nilIface]) ∧ Below w.heap.size w w' := by
  have hn : n ≤ 12 := by have := (code_zero h0).1; omega
  have hpw := pow_lt n hn
  have h1 := ahead_ok zs s p n cap w hl he hmax hc h0 hs
  have hor := i64_or_nat s (M.ahS (M.turned (nats zs)) s) (by omega) (by have := ahs_small n hl hn s; omega)
  rw [M.ahS_down hn hs] at hor
  obtain ⟨a, ha⟩ : ∃ a, M.ahS (M.turned (nats zs)) s = a := ⟨_, rfl⟩
  rw [ha] at h1 hor
  obtain ⟨d, hd⟩ : ∃ d, M.down (M.turned (nats zs)) s = d := ⟨_, rfl⟩
  rw [hd] at hor
  simp only [hd]
  clear ha hd
  go_enter Tryd.func16, Tryd.ntmps16
  go_wp2_with (go_at_call 41; refine h1.mono ?_; rintro e w' ⟨rfl, hB⟩)
  go_ret2
  exact ⟨rfl, hB⟩
set_option maxHeartbeats 400000 in
theorem dis_ok (zs : List Int) (s : Nat) (p : Option Addr) (n cap : Nat) (w : World) (hl : zs.length = n) (he : Env w) (hmax : n ≤ maxLen) (hc : Has zs p w) (h0 : code zs = 0) (hs : s < 2 ^ n) :
    Calls Tryd.prog 17 #[.slice p n cap, .int .i64 (s : Nat)] w fun e w' => e = .returned (.tuple #[.bool (M.closB (M.turned (nats zs)) s), .nilIface]) ∧ Below w.heap.size w w' := by
  have hn : n ≤ 12 := by have := (code_zero h0).1; omega
  have hpw := pow_lt n hn
  have h1 := ahead_ok zs s p n cap w hl he hmax hc h0 hs
  obtain ⟨r, hr, -, hb⟩ := i64_andNot_bits (M.ahS (M.turned (nats zs)) s) s (by have := ahs_small n hl hn s; omega) (by omega)
  have hz := (andNot_zero hb).trans (M.ahS_closd hn hs)
  obtain ⟨a, ha⟩ : ∃ a, M.ahS (M.turned (nats zs)) s = a := ⟨_, rfl⟩
  rw [ha] at h1 hr
  obtain ⟨d, hd⟩ : ∃ d, M.closB (M.turned (nats zs)) s = d := ⟨_, rfl⟩
  rw [hd] at hz
  simp only [hd]
  clear ha hd hb
  have he0 : ((r : Int) == 0) = d := by
    rw [Bool.eq_iff_iff, ← hz, beq_iff_eq]; omega
  go_enter Tryd.func17, Tryd.ntmps17
  clear hz
  go_wp2_with (go_at_call 41; refine h1.mono ?_; rintro e w' ⟨rfl, hB⟩)
  go_ret2
  exact ⟨rfl, hB⟩
set_option maxHeartbeats 400000 in
theorem last_ok (zs : List Int) (s : Nat) (p : Option Addr) (n cap : Nat) (w : World) (hl : zs.length = n) (he : Env w) (hmax : n ≤ maxLen) (hc : Has zs p w) (h0 : code zs = 0) (hs : s < 2 ^ n) :
    Calls Tryd.prog 18 #[.slice p n cap, .int .i64 (s : Nat)] w fun e w' => e = .returned (.tuple #[.int .i64 (M.lastS (M.clo (nats zs)) s : Nat), .nilIface]) ∧ Below w.heap.size w w' := by
  have hz := code_zero h0
  have hn : n ≤ 12 := by omega
  have hpw := pow_lt n hn
  have hcl : (M.clo (nats zs)).length = n := by rw [M.clo_length, nats_length, hl]
  have h1 := ahead_ok zs s p n cap w hl he hmax hc h0 hs
  obtain ⟨r, hr, -, hb⟩ := i64_andNot_bits s (M.ahS (M.turned (nats zs)) s) (by omega) (by have := ahs_small n hl hn s; omega)
  have hd := M.ahS_last (M.dual_clo (nats_ok hz.2.1)) (by omega) (by rw [hcl]; exact hs) hb
  obtain ⟨a, ha⟩ : ∃ a, M.ahS (M.turned (nats zs)) s = a := ⟨_, rfl⟩
  rw [ha] at h1 hr
  simp only [← hd]
  clear ha hd hb
  go_enter Tryd.func18, Tryd.ntmps18
  go_wp2_with (go_at_call 41; refine h1.mono ?_; rintro e w' ⟨rfl, hB⟩)
  go_ret2
  exact ⟨rfl, hB⟩
end Go.Proofs.YtejnjokjkinpkaaDoor
