/- Package table: how many writes one knows that another one knows (Knows), and that all know (Stable). -/
import Derived.Test.YtelonimdpeenaaaDoorTb2
namespace Go.Proofs.YtelonimdpeenaaaDoor
open Go.RowKit

/-- what Knows tells -/
def M.knT (n : Nat) (k : M.Kt) (a b c : Int) : Int := if (0 ≤ a ∧ a < n) ∧ (0 ≤ b ∧ b < n) ∧ (0 ≤ c ∧ c < n) then (k a.toNat b.toNat c.toNat : Nat) else -1
/-- what Stable tells -/
def M.stT (n : Nat) (k : M.Kt) (a c : Int) : Int := if (0 ≤ a ∧ a < n) ∧ (0 ≤ c ∧ c < n) then (M.lst (fun b => k a.toNat b c.toNat) (k a.toNat a.toNat c.toNat) n : Nat) else -1
theorem M.knT_at (n : Nat) (k : M.Kt) {a b c : Nat} (ha : a < n) (hb : b < n) (hc : c < n) : M.knT n k a b c = (k a b c : Nat) := by
  unfold M.knT
  rw [if_pos ⟨⟨by omega, by omega⟩, ⟨by omega, by omega⟩, ⟨by omega, by omega⟩⟩]
  simp
theorem M.stT_at (n : Nat) (k : M.Kt) {a c : Nat} (ha : a < n) (hc : c < n) : M.stT n k a c = (M.lst (fun b => k a b c) (k a a c) n : Nat) := by
  unfold M.stT
  rw [if_pos ⟨⟨by omega, by omega⟩, ⟨by omega, by omega⟩⟩]
  simp
set_option maxRecDepth 100000 in
set_option maxHeartbeats 2000000 in
theorem tknows_out {S n : Nat} {k : M.Kt} (a b c : Int) (w : World) (h : TV S n k w) (ho : ¬ ((0 ≤ a ∧ a < n) ∧ (0 ≤ b ∧ b < n) ∧ (0 ≤ c ∧ c < n))) :
    Calls Tryd.prog 11 #[.pointer (some ⟨S, 0, none⟩), .int .i64 a, .int .i64 b, .int .i64 c] w fun e w' => e = .returned (.int .i64 (-1)) ∧ w = w' := by
  have HV : Hid (TV S n k w) := h
  clear h
  by_cases ha : 0 ≤ a ∧ a < n
  · have t1 : thingZ a n = true := thingZ_true ha.1 ha.2
    by_cases hb : 0 ≤ b ∧ b < n
    · have t2 : thingZ b n = true := thingZ_true hb.1 hb.2
      have t3 : thingZ c n = false := thingZ_false (fun x => ho ⟨ha, hb, x⟩)
      clear ho ha hb
      go_enter Tryd.func11, Tryd.ntmps11
      go_wp2_with fail
      refine (thas_ok a w HV.out).mono ?_
      rintro e w' ⟨rfl, rfl⟩
      rw [t1]
      go_wp2_with fail
      refine (thas_ok b w HV.out).mono ?_
      rintro e w' ⟨rfl, rfl⟩
      rw [t2]
      go_wp2_with fail
      refine (thas_ok c w HV.out).mono ?_
      rintro e w' ⟨rfl, rfl⟩
      rw [t3]
      go_wp2_with fail
      go_ret
      exact ⟨rfl, by trivial⟩
    · have t2 : thingZ b n = false := thingZ_false hb
      clear ho ha hb
      go_enter Tryd.func11, Tryd.ntmps11
      go_wp2_with fail
      refine (thas_ok a w HV.out).mono ?_
      rintro e w' ⟨rfl, rfl⟩
      rw [t1]
      go_wp2_with fail
      refine (thas_ok b w HV.out).mono ?_
      rintro e w' ⟨rfl, rfl⟩
      rw [t2]
      go_wp2_with fail
      go_ret
      exact ⟨rfl, by trivial⟩
  · have t1 : thingZ a n = false := thingZ_false ha
    clear ho ha
    go_enter Tryd.func11, Tryd.ntmps11
    go_wp2_with fail
    refine (thas_ok a w HV.out).mono ?_
    rintro e w' ⟨rfl, rfl⟩
    rw [t1]
    go_wp2_with fail
    go_ret
    exact ⟨rfl, by trivial⟩
set_option maxRecDepth 100000 in
set_option maxHeartbeats 2000000 in
theorem tknows_ok {S n : Nat} {k : M.Kt} (a b c : Nat) (w : World) (h : TV S n k w) (h5 : n ≤ 5) (ha : a < n) (hb : b < n) (hc : c < n) :
    Calls Tryd.prog 11 #[.pointer (some ⟨S, 0, none⟩), .int .i64 a, .int .i64 b, .int .i64 c] w fun e w' => e = .returned (.int .i64 (k a b c : Nat)) ∧ w = w' := by
  have HV : Hid (TV S n k w) := h
  have t1 : thingZ a n = true := thingZ_true (by omega) (by omega)
  have t2 : thingZ b n = true := thingZ_true (by omega) (by omega)
  have t3 : thingZ c n = true := thingZ_true (by omega) (by omega)
  have hcell := h.know (a := a) (b := b) (c := c) (by omega) (by omega) (by omega)
  have ha5 : (a : Int) < 5 := by omega
  have hb5 : (b : Int) < 5 := by omega
  have hc5 : (c : Int) < 5 := by omega
  obtain ⟨x, hx⟩ : ∃ x, k a b c = x := ⟨_, rfl⟩
  rw [hx] at hcell ⊢
  clear h hx
  go_enter Tryd.func11, Tryd.ntmps11
  go_wp2_with fail
  refine (thas_ok a w HV.out).mono ?_
  rintro e w' ⟨rfl, rfl⟩
  rw [t1]
  go_wp2_with fail
  refine (thas_ok b w HV.out).mono ?_
  rintro e w' ⟨rfl, rfl⟩
  rw [t2]
  go_wp2_with fail
  refine (thas_ok c w HV.out).mono ?_
  rintro e w' ⟨rfl, rfl⟩
  rw [t3]
  go_wp2_with fail
  go_ret
  exact ⟨rfl, by trivial⟩
set_option maxRecDepth 100000 in
set_option maxHeartbeats 2000000 in
theorem tstable_out {S n : Nat} {k : M.Kt} (a c : Int) (w : World) (h : TV S n k w) (ho : ¬ ((0 ≤ a ∧ a < n) ∧ (0 ≤ c ∧ c < n))) :
    Calls Tryd.prog 12 #[.pointer (some ⟨S, 0, none⟩), .int .i64 a, .int .i64 c] w fun e w' => e = .returned (.int .i64 (-1)) ∧ w = w' := by
  have HV : Hid (TV S n k w) := h
  clear h
  by_cases ha : 0 ≤ a ∧ a < n
  · have t1 : thingZ a n = true := thingZ_true ha.1 ha.2
    have t2 : thingZ c n = false := thingZ_false (fun x => ho ⟨ha, x⟩)
    clear ho ha
    go_enter Tryd.func12, Tryd.ntmps12
    go_wp2_with fail
    refine (thas_ok a w HV.out).mono ?_
    rintro e w' ⟨rfl, rfl⟩
    rw [t1]
    go_wp2_with fail
    refine (thas_ok c w HV.out).mono ?_
    rintro e w' ⟨rfl, rfl⟩
    rw [t2]
    go_wp2_with fail
    go_ret
    exact ⟨rfl, by trivial⟩
  · have t1 : thingZ a n = false := thingZ_false ha
    clear ho ha
    go_enter Tryd.func12, Tryd.ntmps12
    go_wp2_with fail
    refine (thas_ok a w HV.out).mono ?_
    rintro e w' ⟨rfl, rfl⟩
    rw [t1]
    go_wp2_with fail
    go_ret
    exact ⟨rfl, by trivial⟩
set_option maxRecDepth 100000 in
set_option maxHeartbeats 2000000 in
theorem tstable_ok {S n : Nat} {k : M.Kt} (a c : Nat) (w : World) (h : TV S n k w) (h5 : n ≤ 5) (ha : a < n) (hc : c < n) :
    Calls Tryd.prog 12 #[.pointer (some ⟨S, 0, none⟩), .int .i64 a, .int .i64 c] w fun e w' => e = .returned (.int .i64 (M.lst (fun b => k a b c) (k a a c) n : Nat)) ∧ Below w.heap.size w w' := by
  have HV : Hid (TV S n k w) := h
  have t1 : thingZ a n = true := thingZ_true (by omega) (by omega)
  have t3 : thingZ c n = true := thingZ_true (by omega) (by omega)
  have hcell := h.know (a := a) (b := a) (c := c) (by omega) (by omega) (by omega)
  have hpr := h.procs
  have ha5 : (a : Int) < 5 := by omega
  have hc5 : (c : Int) < 5 := by omega
  have H0 : Hid (M.lst (fun b => k a b c) (k a a c) 0 = k a a c) := (rfl : M.lst (fun b => k a b c) (k a a c) 0 = k a a c)
  obtain ⟨x, hx⟩ : ∃ x, k a a c = x := ⟨_, rfl⟩
  rw [hx] at hcell H0 ⊢
  clear h hx
  go_enter Tryd.func12, Tryd.ntmps12
  go_wp2_with fail
  refine (thas_ok a w HV.out).mono ?_
  rintro e w' ⟨rfl, rfl⟩
  rw [t1]
  go_wp2_with fail
  refine (thas_ok c w HV.out).mono ?_
  rintro e w' ⟨rfl, rfl⟩
  rw [t3]
  obtain ⟨wo, hwo⟩ : ∃ wo, wo = w := ⟨_, rfl⟩
  subst hwo
  go_wp2_with fail
  clear hcell
  go_loopw [7, 8, 33] (fun u _ v wr => ∃ (j y : Nat), u = .int .i64 (y : Nat) ∧ v = .int .i64 (j : Nat) ∧ j ≤ n ∧ Hid (M.lst (fun b => k a b c) x j = y) ∧ Below wo.heap.size wo wr) (fun _ _ v _ => n - (intOf v).toNat)
  case atStart => exact ⟨0, x, rfl, rfl, Nat.zero_le _, H0, Below.refl _ _⟩
  case round =>
    clear H0
    obtain ⟨j, y, rfl, rfl, hj, HY, hB⟩ := hrel
    by_cases hlt : j < n
    · have hjn : (j : Int) < n := by omega
      have hj5 : (j : Int) < 5 := by omega
      have hcell := (HV.out.below hB).know (a := a) (b := j) (c := c) (by omega) (by omega) (by omega)
      have HY2 : Hid (M.lst (fun b => k a b c) x (j + 1) = Nat.min y (k a j c)) := by rw [← HY.out]; rfl
      obtain ⟨z, hz⟩ : ∃ z, k a j c = z := ⟨_, rfl⟩
      obtain ⟨m, hm⟩ : ∃ m, Nat.min y z = m := ⟨_, rfl⟩
      have hmi : (if z < y then (z : Int) else (y : Int)) = (m : Int) := by subst hm; show _ = ((min y z : Nat) : Int); split <;> omega
      rw [hz, hm] at HY2
      rw [hz] at hcell
      clear hz HY hm
      go_wp2_with fail
      go_roundw
      case rel => exact ⟨j + 1, m, by go_num, by go_num, by omega, HY2, hB⟩
      case measure => simp [intOf]; omega
    · obtain rfl : n = j := by omega
      go_wp2_with fail
      go_ret
      exact ⟨by rw [HY.out]; rfl, hB⟩
end Go.Proofs.YtelonimdpeenaaaDoor
