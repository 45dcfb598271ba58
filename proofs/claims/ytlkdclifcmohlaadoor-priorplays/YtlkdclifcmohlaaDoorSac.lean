/- Two lists of acts that are the same are told to be so (package whensteadsame, Acts); what lay in memory lies as it lay. -/
import Derived.Test.YtlkdclifcmohlaaDoorSc1
import Derived.Laws.StructEq
import Derived.BigQuiet
namespace Go.Proofs.YtlkdclifcmohlaaDoor
open Go.RowKit
theorem ac_fields : Tryd.prog.underlying 31 = some (.struct (Tryd.prog.fieldsOf 31)) := by kernel_rfl
theorem ac_held : Tryd.prog.stoodInHeld 31 = false := by kernel_rfl
theorem ac_guard : Tryd.prog.eqGuardType Tryd.prog.depth 31 = false := by kernel_rfl
theorem ac_list : (Tryd.prog.fieldsOf 31).toList.map (fun f => (f.name, f.type, f.offset)) = [("Tx", 3, 0), ("Item", 3, 1), ("Write", 3, 2)] := by kernel_rfl
theorem eq_act (a b c : Int) (w : World) : (Op.equalIn 10000 31 (.agg #[.int .i64 a, .int .i64 b, .int .i64 c]) (.agg #[.int .i64 a, .int .i64 b, .int .i64 c])).run Tryd.prog w = .ok true w := by
  rw [run_equalIn_struct w 9999 _ _ _ ac_fields ac_held]
  have h := ac_list
  generalize (Tryd.prog.fieldsOf 31).toList = L at h ⊢
  rcases L with _ | ⟨f, _ | ⟨g, _ | ⟨k, _ | ⟨x, L⟩⟩⟩⟩
  · simp at h
  · simp at h
  · simp at h
  · simp only [List.map, List.cons.injEq, Prod.mk.injEq, and_true] at h
    obtain ⟨⟨n1, t1, o1⟩, ⟨n2, t2, o2⟩, n3, t3, o3⟩ := h
    have e1 : ∀ (a b : Int) (w : World), (Op.equalIn 9999 3 (.int .i64 a) (.int .i64 b)).run Tryd.prog w = .ok (a == b) w := fun a b w => run_equalIn_int w 9998 3 .i64 .i64 a b Tryd.underlying3
    have p0 : ∀ (a b c : Int) (w : World), (part 3 #[.int .i64 a, .int .i64 b, .int .i64 c] 0).run Tryd.prog w = .ok (.int .i64 a) w := fun a b c w => by kernel_rfl
    have p1 : ∀ (a b c : Int) (w : World), (part 3 #[.int .i64 a, .int .i64 b, .int .i64 c] 1).run Tryd.prog w = .ok (.int .i64 b) w := fun a b c w => by kernel_rfl
    have p2 : ∀ (a b c : Int) (w : World), (part 3 #[.int .i64 a, .int .i64 b, .int .i64 c] 2).run Tryd.prog w = .ok (.int .i64 c) w := fun a b c w => by kernel_rfl
    simp only [Op.eqFields, n1, n2, n3, t1, t2, t3, o1, o2, o3]
    simp [p0, p1, p2, e1]
  · simp at h
theorem neq_act (a b c : Int) (w : World) : (binOp .neq 31 (.agg #[.int .i64 a, .int .i64 b, .int .i64 c]) (.agg #[.int .i64 a, .int .i64 b, .int .i64 c])).run Tryd.prog w = .ok (.bool false) w := by
  rw [run_neq_struct, eq_act]
  rfl
set_option maxHeartbeats 1000000 in
theorem same_acts (zs : List Az) (p q : Option Addr) (n cap cap' : Nat) (w : World) (hl : zs.length = n) (hmax : n ≤ maxLen) (hp : HasAc zs p w) (hq : HasAc zs q w) :
    Calls Tryd.prog 14 #[.slice p n cap, .slice q n cap'] w fun e w' => e = .returned (.bool true) ∧ Below w.heap.size w w' := by
  unfold maxLen at hmax
  have hneq := neq_act
  have hgd := ac_guard
  go_enter Tryd.func14, Tryd.ntmps14
  go_wp2_with fail
  go_loopw [5] (fun i wr => ∃ k : Nat, k ≤ n ∧ i = .int .i64 k ∧ ∃ m, wr = w.drewN m) (fun i _ => n - (intOf i).toNat)
  case atStart => exact ⟨0, Nat.zero_le _, rfl, 0, rfl⟩
  case round =>
    obtain ⟨k, hk, rfl, m, rfl⟩ := hrel
    by_cases hlt : k < n
    · obtain ⟨b, off, rfl, h1⟩ := hp k (by omega)
      obtain ⟨b', off', rfl, h2⟩ := hq k (by omega)
      obtain ⟨z, hz⟩ : ∃ z, aAt zs k = z := ⟨_, rfl⟩
      rw [hz] at h1 h2
      obtain ⟨hb, c0, c1, c2⟩ := h1
      obtain ⟨hb', e0, e1, e2⟩ := h2
      have hki : (k : Int) < n := by omega
      clear hz hp hq
      go_wp2_with fail
      go_quiet (fail)
      go_wp2_with fail
      go_roundw
      case rel => exact ⟨k + 1, by omega, by go_num, _, rfl⟩
      case measure => simp [intOf]; omega
    · obtain rfl : n = k := by omega
      clear hp hq
      go_wp2_with fail
      go_ret
      exact ⟨rfl, below_drewN _ _⟩
end Go.Proofs.YtlkdclifcmohlaaDoor
