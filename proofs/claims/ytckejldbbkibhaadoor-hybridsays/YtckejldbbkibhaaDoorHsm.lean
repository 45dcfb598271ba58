/- Two lists of stamps that are the same are told to be so (package whensteadsame, Stamps); what lay in memory lies as it lay. -/
import Derived.Test.YtckejldbbkibhaaDoorRwz
import Derived.Laws.StructEq
namespace Go.Proofs.YtckejldbbkibhaaDoor
open Go.RowKit

theorem st_fields : Tryd.prog.underlying 27 = some (.struct (Tryd.prog.fieldsOf 27)) := by kernel_rfl
theorem st_held : Tryd.prog.stoodInHeld 27 = false := by kernel_rfl
theorem st_guard : Tryd.prog.eqGuardType Tryd.prog.depth 27 = false := by kernel_rfl
theorem st_list : (Tryd.prog.fieldsOf 27).toList.map (fun f => (f.name, f.type, f.offset)) = [("Time", 3, 0), ("Count", 3, 1)] := by kernel_rfl
theorem eq_stamps (a c b d : Int) (w : World) : (Op.equalIn 10000 27 (stV a c) (stV b d)).run Tryd.prog w = .ok (a == b && c == d) w := by
  rw [run_equalIn_struct w 9999 _ _ _ st_fields st_held]
  have h := st_list
  generalize (Tryd.prog.fieldsOf 27).toList = L at h ⊢
  rcases L with _ | ⟨f, _ | ⟨g, _ | ⟨x, L⟩⟩⟩
  · simp at h
  · simp at h
  · simp only [List.map, List.cons.injEq, Prod.mk.injEq, and_true] at h
    obtain ⟨⟨n1, t1, o1⟩, n2, t2, o2⟩ := h
    have e1 : ∀ (a b : Int) (w : World), (Op.equalIn 9999 3 (.int .i64 a) (.int .i64 b)).run Tryd.prog w = .ok (a == b) w := fun a b w => run_equalIn_int w 9998 3 .i64 .i64 a b Tryd.underlying3
    have p0 : ∀ (a b : Int) (w : World), (part 3 #[.int .i64 a, .int .i64 b] 0).run Tryd.prog w = .ok (.int .i64 a) w := fun a b w => by kernel_rfl
    have p1 : ∀ (a b : Int) (w : World), (part 3 #[.int .i64 a, .int .i64 b] 1).run Tryd.prog w = .ok (.int .i64 b) w := fun a b w => by kernel_rfl
    simp only [Op.eqFields, n1, n2, t1, t2, o1, o2]
    cases hx : a == b <;> cases hy : c == d <;> simp [p0, p1, e1, hx, hy]
  · simp at h
theorem neq_stamps (a c b d : Int) (w : World) : (binOp .neq 27 (stV a c) (stV b d)).run Tryd.prog w = .ok (.bool (!(a == b && c == d))) w := by
  rw [run_neq_struct, eq_stamps]
  rfl
theorem neq_same (a c : Int) (w : World) : (binOp .neq 27 (stV a c) (stV a c)).run Tryd.prog w = .ok (.bool false) w := by
  rw [neq_stamps]; simp
set_option maxHeartbeats 1000000 in
theorem same_stamps (zs : List Int) (p q : Option Addr) (n cap cap' : Nat) (w : World) (hl : zs.length = n * 2) (hmax : n ≤ maxLen) (hp : HasI zs p w) (hq : HasI zs q w) :
    Calls Tryd.prog 9 #[.slice p n cap, .slice q n cap'] w fun e w' => e = .returned (.bool true) ∧ ∃ m, w' = w.drewN m := by
  unfold maxLen at hmax
  have hneq := neq_same
  have hgd := st_guard
  go_enter Tryd.func9, Tryd.ntmps9
  go_wp2
  go_loopw [5] (fun i wr => ∃ k : Nat, k ≤ n ∧ i = .int .i64 k ∧ ∃ m, wr = w.drewN m) (fun i _ => n - (intOf i).toNat)
  case atStart => exact ⟨0, Nat.zero_le _, rfl, 0, rfl⟩
  case round =>
    obtain ⟨k, hk, rfl, m, rfl⟩ := hrel
    by_cases hlt : k < n
    · obtain ⟨b, off, rfl, hb, hc0⟩ := hp (k * 2) (by omega)
      obtain ⟨b', off', rfl, hb', hc0'⟩ := hq (k * 2) (by omega)
      obtain ⟨_, _, e0, _, hc1⟩ := hp (k * 2 + 1) (by omega)
      cases e0
      obtain ⟨_, _, e0, _, hc1'⟩ := hq (k * 2 + 1) (by omega)
      cases e0
      obtain ⟨z, hz⟩ : ∃ z, zs[k * 2]?.getD 0 = z := ⟨_, rfl⟩
      obtain ⟨z1, hz1⟩ : ∃ z, zs[k * 2 + 1]?.getD 0 = z := ⟨_, rfl⟩
      rw [hz] at hc0 hc0'
      rw [hz1] at hc1 hc1'
      rw [← Nat.add_assoc] at hc1 hc1'
      clear hz hz1 hp hq
      go_wp2
      go_quiet (fail)
      go_wp2
      go_roundw
      case rel => exact ⟨k + 1, by omega, by go_num, _, rfl⟩
      case measure => simp [intOf]; omega
    · clear hp hq
      go_wp2
      go_ret
      exact ⟨rfl, m, rfl⟩
end Go.Proofs.YtckejldbbkibhaaDoor
