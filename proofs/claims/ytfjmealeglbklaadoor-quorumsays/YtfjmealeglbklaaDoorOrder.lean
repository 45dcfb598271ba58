/- Package order's Behind, at whatever numbers: what is wrong is told as the document has it (more than twelve rows, a row that is no set, a thing behind itself), else a new list of all that stand behind; what lay in memory lies as it lay. The library's table lies where its variable is. -/
import Derived.Test.YtfjmealeglbklaaDoorReach
namespace Go.Proofs.YtfjmealeglbklaaDoor
open Go.RowKit

/-- Numbers as sets. -/
def nats (zs : List Int) : List Nat := zs.map Int.toNat
def allSets (zs : List Int) : Bool := zs.all fun z => setB z zs.length
def ringB (m : List Nat) : Bool := (List.range m.length).any fun i => (M.row (M.clo m) i).testBit i
/-- What is wrong with an order: the number of its error, 0 if nothing is. -/
def code (zs : List Int) : Nat := if 12 < zs.length then 4 else if allSets zs then (if ringB (nats zs) then 6 else 0) else 1
def errV (c : Nat) : Value := if c = 0 then .nilIface else .iface 53 (.int .i64 (c : Nat))

theorem nats_length (zs : List Int) : (nats zs).length = zs.length := by simp [nats]
theorem nats_row (zs : List Int) (k : Nat) : M.row (nats zs) k = (zs[k]?.getD 0).toNat := by
  unfold M.row nats
  rw [List.getElem?_map]
  cases zs[k]? <;> simp
theorem allSets_iff (zs : List Int) : allSets zs = true ↔ ∀ k, k < zs.length → setB (zs[k]?.getD 0) zs.length = true := by
  unfold allSets
  rw [List.all_eq_true]
  constructor
  · intro h k hk
    have := h zs[k] (List.getElem_mem hk)
    simpa [hk] using this
  · intro h z hz
    obtain ⟨k, hk, rfl⟩ := List.getElem_of_mem hz
    have := h k hk
    simpa [hk] using this
theorem set_nat {zs : List Int} (h : allSets zs = true) (k : Nat) : zs[k]?.getD 0 = ((M.row (nats zs) k : Nat) : Int) ∧ M.row (nats zs) k < 2 ^ zs.length := by
  rw [nats_row]
  by_cases hk : k < zs.length
  · have h1 := (allSets_iff zs).1 h k hk
    generalize zs[k]?.getD 0 = z at *
    unfold setB at h1
    have h2 := of_decide_eq_true h1
    have e : ((2 : Int) ^ zs.length) = ((2 ^ zs.length : Nat) : Int) := by simp
    rw [e] at h2
    omega
  · rw [List.getElem?_eq_none (by omega)]
    exact ⟨rfl, Nat.two_pow_pos _⟩
theorem nats_ok {zs : List Int} (h : allSets zs = true) : M.Ok (nats zs) := fun i => by rw [nats_length]; exact (set_nat h i).2
theorem ringB_iff {m : List Nat} : ringB m = true ↔ M.Ring m := by
  unfold ringB
  rw [List.any_eq_true]
  constructor
  · rintro ⟨i, _, h⟩
    exact ⟨i, (M.clo_bit m i i).1 h⟩
  · rintro ⟨i, h⟩
    exact ⟨i, List.mem_range.2 (M.clo_in h), (M.clo_bit m i i).2 h⟩
theorem code_full {zs : List Int} (h : 12 < zs.length) : code zs = 4 := by unfold code; rw [if_pos h]
theorem code_range {zs : List Int} (h : ¬ 12 < zs.length) (h1 : allSets zs = false) : code zs = 1 := by unfold code; rw [if_neg h, if_neg (by rw [h1]; simp)]
theorem code_clash {zs : List Int} (h : ¬ 12 < zs.length) (h1 : allSets zs = true) (h2 : ringB (nats zs) = true) : code zs = 6 := by unfold code; rw [if_neg h, if_pos h1, if_pos h2]
theorem code_ok {zs : List Int} (h : ¬ 12 < zs.length) (h1 : allSets zs = true) (h2 : ringB (nats zs) = false) : code zs = 0 := by unfold code; rw [if_neg h, if_pos h1, if_neg (by rw [h2]; simp)]
theorem code_zero {zs : List Int} (h : code zs = 0) : zs.length ≤ 12 ∧ allSets zs = true ∧ ¬ M.Ring (nats zs) := by
  unfold code at h
  by_cases h1 : 12 < zs.length
  · rw [if_pos h1] at h; omega
  · rw [if_neg h1] at h
    by_cases h2 : allSets zs = true
    · rw [if_pos h2] at h
      by_cases h3 : ringB (nats zs) = true
      · rw [if_pos h3] at h; omega
      · exact ⟨by omega, h2, fun hr => h3 (ringB_iff.2 hr)⟩
    · rw [if_neg h2] at h; omega

/-- What Behind leaves. -/
def BehindPost (zs : List Int) (w : World) (e : Ending) (w' : World) : Prop :=
  ∃ r, e = .returned (.tuple #[r, errV (code zs)]) ∧ Below w.heap.size w w' ∧ (code zs ≠ 0 → r = .slice none 0 0) ∧
    (code zs = 0 → ∃ A, r = .slice (some ⟨A, 0, none⟩) zs.length zs.length ∧ RowAt 3 w' A (M.clo (nats zs)) ∧ w.heap.size ≤ A)
theorem behindPost_err {zs : List Int} {w w' : World} {c : Nat} (hc : code zs = c) (h0 : c ≠ 0) (hb : Below w.heap.size w w') : BehindPost zs w (.returned (.tuple #[.slice none 0 0, .iface 53 (.int .i64 (c : Nat))])) w' :=
  ⟨_, by rw [hc]; simp [errV, h0], hb, fun _ => rfl, fun h => absurd (hc.symm.trans h) h0⟩
theorem behindPost_ok {zs : List Int} {w w' : World} {A : Nat} (hc : code zs = 0) (hb : Below w.heap.size w w') (hr : RowAt 3 w' A (M.clo (nats zs))) (hA : w.heap.size ≤ A) : BehindPost zs w (.returned (.tuple #[.slice (some ⟨A, 0, none⟩) zs.length zs.length, .nilIface])) w' :=
  ⟨_, by rw [hc]; simp [errV], hb, fun h => absurd hc h, fun _ => ⟨A, rfl, hr, hA⟩⟩

end Go.Proofs.YtfjmealeglbklaaDoor
