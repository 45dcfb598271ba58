/- Package table: a new one (New), whether a number is a process (has), a write (Write). -/
import Derived.Test.YtelonimdpeenaaaDoorTbv
import Derived.Test.YtelonimdpeenaaaDoorTb1
namespace Go.Proofs.YtelonimdpeenaaaDoor
open Go.RowKit

theorem bool_and (a b : Bool) : (if (!a) = true then (.bool true : Value) else .bool (!b)) = .bool (!(a && b)) := by cases a <;> cases b <;> rfl
set_option maxHeartbeats 400000 in
theorem thas_ok {S n : Nat} {k : M.Kt} (z : Int) (w : World) (h : TV S n k w) :
    Calls Tryd.prog 17 #[.pointer (some ⟨S, 0, none⟩), .int .i64 z] w fun e w' => e = .returned (.bool (thingZ z n)) ∧ w = w' := by
  have hc := h.procs
  clear h
  go_enter Tryd.func17, Tryd.ntmps17
  go_wp2_with fail
  refine (isThing_z z n w).mono ?_
  rintro e w' ⟨rfl, rfl⟩
  go_wp2_with fail
  go_ret
  exact ⟨rfl, rfl⟩
set_option maxHeartbeats 1000000 in
theorem tnew_err (z : Int) (w : World) (h : ¬ (1 ≤ z ∧ z ≤ 5)) :
    Calls Tryd.prog 4 #[.int .i64 z] w fun e w' => e = .returned (.tuple #[.pointer none, .iface 41 (.int .i64 1)]) ∧ Below w.heap.size w w' := by
  by_cases h1 : z < 1
  · go_enter Tryd.func4, Tryd.ntmps4
    go_wp2_with fail
    go_ret2
    exact ⟨rfl, Below.refl _ _⟩
  · have h2 : 5 < z := by omega
    have h3 : 1 ≤ z := by omega
    go_enter Tryd.func4, Tryd.ntmps4
    go_wp2_with fail
    go_ret2
    exact ⟨rfl, Below.refl _ _⟩
/-- a table of nothing, cell by cell -/
def ztb : Array Value := madeCells #[.int .i64 0] 126
theorem zeroTb : (Tryd.prog.info? 47).map (fun i => i.zero) = some (some (.agg ztb)) := by kernel_rfl
theorem ztb_size : ztb.size = 126 := by kernel_rfl
theorem ztb_ne : ¬ ztb = #[] := fun h => by have := ztb_size; rw [h] at this; cases this
theorem run_ztb (w : World) : (zeroValue 47).run Tryd.prog w = .ok (.agg ztb) w := by
  obtain ⟨i, hi, hz⟩ := Option.map_eq_some_iff.1 zeroTb
  simp [zeroValue, typeInfo, hi, hz]
theorem ztb_at (n i : Nat) (hi : i < (ztb.setIfInBounds 0 (.int .i64 (n : Nat))).size) : (ztb.setIfInBounds 0 (.int .i64 (n : Nat)))[i]? = some (tbF n M.k0 i) := by
  rw [Array.size_setIfInBounds, ztb_size] at hi
  rw [Array.getElem?_setIfInBounds]
  unfold tbF
  rcases i with _ | j
  · rw [if_pos rfl, if_pos (by rw [ztb_size]; omega), if_pos rfl]
  · rw [if_neg (by omega), if_neg (by omega)]
    unfold ztb
    simp [madeCells, hi, M.k0, Nat.mod_one]
set_option maxRecDepth 100000 in
set_option maxHeartbeats 1000000 in
theorem tnew_ok (n : Nat) (w : World) (h1 : 1 ≤ n) (h5 : n ≤ 5) :
    Calls Tryd.prog 4 #[.int .i64 (n : Nat)] w fun e w' => ∃ S, e = .returned (.tuple #[.pointer (some ⟨S, 0, none⟩), .nilIface]) ∧ S = w.heap.size ∧ TV S n M.k0 w' ∧ Below w.heap.size w w' := by
  have a1 : (1 : Int) ≤ (n : Int) := by omega
  have a2 : (n : Int) ≤ 5 := by omega
  have hz := run_ztb
  have hne := ztb_ne
  have FIN : Hid (TV w.heap.size n M.k0 (w.alloc (.cells (ztb.setIfInBounds 0 (.int .i64 (n : Nat))) 47))) := by
    have h := World.rowIs_alloc w (ztb.setIfInBounds 0 (.int .i64 (n : Nat))) 47 (tbF n M.k0) (fun i hi => ztb_at n i hi)
    rw [Array.size_setIfInBounds, ztb_size] at h
    exact h
  obtain ⟨z, hzz⟩ : ∃ z, ztb = z := ⟨_, rfl⟩
  rw [hzz] at hz hne FIN
  clear hzz
  go_enter Tryd.func4, Tryd.ntmps4
  go_wp2_with fail
  go_ret2
  exact ⟨_, rfl, rfl, FIN.out, bel_al (Below.refl _ _) _⟩
set_option maxRecDepth 100000 in
set_option maxHeartbeats 2000000 in
theorem twrite_ok {S n : Nat} {k : M.Kt} (z : Int) (w : World) (h : TV S n k w) (h5 : n ≤ 5) :
    Calls Tryd.prog 8 #[.pointer (some ⟨S, 0, none⟩), .int .i64 z] w fun e w' => e = .returned (terr (M.wrT n k z).2) ∧ TV S n (M.wrT n k z).1 w' ∧ Frm (fun j => j = S) w w' := by
  by_cases hz : 0 ≤ z ∧ z < n
  · obtain ⟨p, rfl⟩ : ∃ p : Nat, z = p := ⟨z.toNat, by omega⟩
    have hp : p < 5 := by omega
    have ht : thingZ (p : Int) n = true := thingZ_true hz.1 hz.2
    have hc := h.know hp hp hp
    by_cases hk : 60 ≤ k p p p
    · have e : M.wrT n k (p : Int) = (k, 4) := by unfold M.wrT; rw [if_neg (by simpa using hz.2), if_pos (by simpa using hk)]
      rw [e]
      have HV : Hid (TV S n k w) := h
      obtain ⟨x, hx⟩ : ∃ x, k p p p = x := ⟨_, rfl⟩
      rw [hx] at hc hk
      have hki : (60 : Int) ≤ (x : Int) := by omega
      have hpi : (p : Int) < 5 := by omega
      clear h e hx hz
      go_enter Tryd.func8, Tryd.ntmps8
      go_wp2_with fail
      refine (thas_ok (p : Int) w HV.out).mono ?_
      rintro e w' ⟨rfl, rfl⟩
      rw [ht]
      go_wp2_with fail
      go_ret
      exact ⟨rfl, HV.out, Frm.refl _ _⟩
    · have e : M.wrT n k (p : Int) = (M.wrK k p, 0) := by unfold M.wrT; rw [if_neg (by simpa using hz.2), if_neg (by simpa using hk)]; simp
      rw [e]
      have HV : Hid (TV S n k w) := h
      have hf := World.rowIs.frozen h (1 + p * 25 + p * 5 + p)
      have FIN : Hid (TV S n (M.wrK k p) (w.setCell ⟨S, 1 + p * 25 + p * 5 + p, none⟩ (.int .i64 ((k p p p + 1 : Nat) : Int))) ∧ Frm (fun j => j = S) w (w.setCell ⟨S, 1 + p * 25 + p * 5 + p, none⟩ (.int .i64 ((k p p p + 1 : Nat) : Int)))) := by
        refine ⟨?_, (Frm.refl (fun j => j = S) w).set (p := ⟨S, 1 + p * 25 + p * 5 + p, none⟩) rfl _⟩
        have := h.put hp hp hp (k p p p + 1)
        rw [M.put3_wr] at this
        exact this
      obtain ⟨x, hx⟩ : ∃ x, k p p p = x := ⟨_, rfl⟩
      rw [hx] at hc hk FIN
      obtain ⟨x1, hx1⟩ : ∃ x1, x + 1 = x1 := ⟨_, rfl⟩
      rw [hx1] at FIN
      have hx1' : (x : Int) + 1 = (x1 : Int) := by omega
      have hki : (x : Int) < 60 := by omega
      have hpi : (p : Int) < 5 := by omega
      clear h e hx hz hk hx1
      go_enter Tryd.func8, Tryd.ntmps8
      go_wp2_with fail
      refine (thas_ok (p : Int) w HV.out).mono ?_
      rintro e w' ⟨rfl, rfl⟩
      rw [ht]
      go_wp2_with fail
      go_ret
      exact ⟨rfl, FIN.out⟩
  · have e : M.wrT n k z = (k, 1) := by unfold M.wrT; rw [if_pos hz]
    rw [e]
    have ht : thingZ z n = false := thingZ_false hz
    have HV : Hid (TV S n k w) := h
    clear h e hz
    go_enter Tryd.func8, Tryd.ntmps8
    go_wp2_with fail
    refine (thas_ok z w HV.out).mono ?_
    rintro e w' ⟨rfl, rfl⟩
    rw [ht]
    go_wp2_with fail
    go_ret
    exact ⟨rfl, HV.out, Frm.refl _ _⟩
end Go.Proofs.YtelonimdpeenaaaDoor
