/- Package order's Check, Less and With, at whatever numbers: each tells what is wrong as the document has it, else whether a thing is ahead of another one, and the order with a step more; what lay in memory lies as it lay. -/
import Derived.Test.YtfjmealeglbklaaDoorOrder
import Derived.LaidEql
namespace Go.Proofs.YtfjmealeglbklaaDoor
open Go.RowKit

/-- The library's table lies where its variable is. -/
structure Env (w : World) : Prop where
  tab : Tab w
  two : 2 < w.heap.size
theorem Env.later {w w' : World} (h : Env w) (hb : Below w.heap.size w w') : Env w' := ⟨h.tab.below hb h.two, by have := hb.size; have := h.two; omega⟩
/-- The slice's address p leads to the numbers zs. -/
def Has (zs : List Int) (p : Option Addr) (w : World) : Prop := ∀ j, j < zs.length → ∃ b off, p = some ⟨b, off, none⟩ ∧ b < w.heap.size ∧ w.cell? ⟨b, off + j, none⟩ = some (.int .i64 (zs[j]?.getD 0))
theorem Has.later {zs : List Int} {p : Option Addr} {w w' : World} (h : Has zs p w) (hb : Below w.heap.size w w') : Has zs p w' := fun j hj => by
  obtain ⟨b, off, h1, h2, h3⟩ := h j hj
  exact ⟨b, off, h1, by have := hb.size; omega, (hb.cell (p := ⟨b, off + j, none⟩) h2).trans h3⟩
theorem RowAt.has {w : World} {A : Nat} {m : List Nat} (h : RowAt 3 w A m) : Has (ints m) (some ⟨A, 0, none⟩) w := fun j hj => by
  rw [ints_length] at hj
  exact ⟨A, 0, rfl, h.lt, by rw [ints_get, Nat.zero_add]; exact h.cell hj⟩
theorem nats_ints (m : List Nat) : nats (ints m) = m := by
  apply List.ext_getElem
  · rw [nats_length, ints_length]
  · intro i h1 h2
    simp [nats, ints]
theorem allSets_ints {m : List Nat} (h : M.Ok m) : allSets (ints m) = true := by
  rw [allSets_iff]
  intro k hk
  rw [ints_get, ints_length]
  unfold setB
  have h1 := h k
  have e : ((2 : Int) ^ m.length) = ((2 ^ m.length : Nat) : Int) := by simp
  rw [e]
  exact decide_eq_true (by omega)
theorem code_ints {m : List Nat} (h : M.Ok m) (hn : m.length ≤ 12) : code (ints m) = if ringB m then 6 else 0 := by
  have hl : ¬ 12 < (ints m).length := by rw [ints_length]; omega
  cases hr : ringB m with
  | true => rw [code_clash hl (allSets_ints h) (by rw [nats_ints]; exact hr)]; rfl
  | false => rw [code_ok hl (allSets_ints h) (by rw [nats_ints]; exact hr)]; rfl

theorem thingB_nat {i n : Nat} (h : i < n) : thingB (i : Int) n = true := by unfold thingB; exact decide_eq_true (by omega)
theorem thing_nat {z : Int} {n : Nat} (h : thingB z n = true) : ∃ i : Nat, z = i ∧ i < n := by
  unfold thingB at h
  have := of_decide_eq_true h
  exact ⟨z.toNat, by omega, by omega⟩
/-! ### With -/
theorem ringB_more_clo {r : List Nat} (hr : M.Ok r) {a b : Nat} (ha : a < r.length) (hb : b < r.length) : ringB (M.more (M.clo r) a b) = ringB (M.more r a b) := by
  unfold ringB
  rw [M.clo_more_clo hr ha hb, M.more_length, M.more_length, M.clo_length]
theorem shl_one (j : Nat) : (2 : Int) ^ j = ((1 <<< j : Nat) : Int) := by rw [Nat.shiftLeft_eq, Nat.one_mul]; simp
theorem i64_shl (j : Nat) (hj : j ≤ 12) : IntKind.i64.wrap (2 ^ j) = ((1 <<< j : Nat) : Int) := by
  rw [shl_one]
  refine i64_wrap_nat _ ?_
  rw [Nat.shiftLeft_eq, Nat.one_mul]; have := pow_lt j hj; omega
end Go.Proofs.YtfjmealeglbklaaDoor
