/- A slice of integers that a call makes by appending. No walk. Two lists of numbers, and two lists of lists, that are the same are told to be so (package whensteadsame, Ints, Rows); what lay in memory lies as it lay. -/
import Derived.Test.YtkojkiggdbffhaaDoorBTr
import Derived.WalkSpells
import Derived.OwnWalk
namespace Go.Proofs.YtkojkiggdbffhaaDoor
open Go.RowKit

/-- Numbers as cells. -/
def icells (m : List Nat) : List Value := m.map fun x => Value.int .i64 ((x : Nat) : Int)
theorem icells_snoc (m : List Nat) (x : Nat) : icells (m ++ [x]) = icells m ++ [.int .i64 (x : Nat)] := by simp [icells]
theorem owns_slice {w : World} {base n size : Nat} {e : TypeId} {v : Value} {xs : List Value} (h : w.ownsRow base e size v n xs) : ∃ p c, v = .slice p n c := by
  rcases h.2 with ⟨rfl, rfl⟩ | ⟨g, cap, _, rfl, _⟩
  · exact ⟨none, 0, rfl⟩
  · exact ⟨_, cap, rfl⟩
theorem hasI_of_owns {w : World} {base n cap : Nat} {p : Option Addr} {m : List Nat} (hm : m.length = n) (h : w.ownsRow base 3 1 (.slice p n cap) n (icells m)) : HasI (ints m) p w := by
  rcases h.2 with ⟨e, rfl⟩ | ⟨g, cap, cur, e, hb, hg, h1, h2, h3, h4⟩
  · exact fun j hj => by rw [ints_length] at hj; omega
  · cases e
    refine fun j hj => ⟨g, 0, rfl, (Array.getElem?_eq_some_iff.1 hg).1, ?_⟩
    rw [ints_length] at hj
    have hc := h.cellAt j (by omega)
    rw [Nat.zero_add, hc, ints_get]
    unfold icells M.row
    rw [List.getElem?_map]
    simp [hj]
theorem owns_below {w w' : World} {base n size : Nat} {e : TypeId} {v : Value} {xs : List Value} (h : w.ownsRow base e size v n xs) (hb : Below w.heap.size w w') : w'.ownsRow base e size v n xs := by
  refine ⟨h.1, ?_⟩
  rcases h.2 with h2 | ⟨g, cap, cur, h1, h2, h3, h4⟩
  · exact .inl h2
  · exact .inr ⟨g, cap, cur, h1, h2, (hb.block g (Array.getElem?_eq_some_iff.1 h3).1).trans h3, h4⟩
theorem ownsRow_drN {w : World} {base n size : Nat} {e : TypeId} {v : Value} {xs : List Value} (h : w.ownsRow base e size v n xs) (k : Nat) : (w.drewN k).ownsRow base e size v n xs := by
  induction k with
  | zero => exact h
  | succ k ih => exact ih
end Go.Proofs.YtkojkiggdbffhaaDoor
namespace Go.Proofs.YtkojkiggdbffhaaDoor
open Go.RowKit

set_option maxHeartbeats 1000000 in
theorem same_intsQ (zs : List Int) (p q : Option Addr) (n cap cap' : Nat) (w : World) (hl : zs.length = n) (hmax : n ≤ maxLen) (hp : HasI zs p w) (hq : HasI zs q w) :
    Calls Tryd.prog 5 #[.slice p n cap, .slice q n cap'] w fun e w' => e = .returned (.bool true) ∧ ∃ m, w' = w.drewN m := by
  unfold maxLen at hmax
  go_enter Tryd.func5, Tryd.ntmps5
  go_wp2
  go_loopw [5] (fun i wr => ∃ k : Nat, k ≤ n ∧ i = .int .i64 k ∧ ∃ m, wr = w.drewN m) (fun i _ => n - (intOf i).toNat)
  case atStart => exact ⟨0, Nat.zero_le _, rfl, 0, rfl⟩
  case round =>
    obtain ⟨k, hk, rfl, m, rfl⟩ := hrel
    by_cases hlt : k < n
    · obtain ⟨b, off, rfl, hb, hcell⟩ := hp k (by omega)
      obtain ⟨b', off', rfl, hb', hcell'⟩ := hq k (by omega)
      obtain ⟨z, hz⟩ : ∃ z, zs[k]?.getD 0 = z := ⟨_, rfl⟩
      rw [hz] at hcell hcell'
      clear hz hp hq
      go_wp2
      go_quiet (fail)
      go_wp2
      go_roundw
      case rel => exact ⟨k + 1, by omega, by go_num, _, rfl⟩
      case measure => simp [intOf]; omega
    · clear hp hq
      go_wp2
      go_ret
      exact ⟨rfl, m, rfl⟩
/-- The slice's address p leads to slices of the numbers L. -/
def HasR (L : List (List Int)) (p : Option Addr) (w : World) : Prop := ∀ j, j < L.length → ∃ b off, p = some ⟨b, off, none⟩ ∧ b < w.heap.size ∧ ∃ q cap, w.cell? ⟨b, off + j, none⟩ = some (.slice q (L[j]?.getD []).length cap) ∧ HasI (L[j]?.getD []) q w
theorem HasR.later {L : List (List Int)} {p : Option Addr} {w w' : World} (h : HasR L p w) (hb : Below w.heap.size w w') : HasR L p w' := fun j hj => by
  obtain ⟨b, off, h1, h2, q, cap, h3, h4⟩ := h j hj
  exact ⟨b, off, h1, by have := hb.size; omega, q, cap, (hb.cell (p := ⟨b, off + j, none⟩) h2).trans h3, h4.later hb⟩
theorem HasI.drN {zs : List Int} {p : Option Addr} {w : World} (h : HasI zs p w) (m : Nat) : HasI zs p (w.drewN m) := h.later (below_drewN w m)
end Go.Proofs.YtkojkiggdbffhaaDoor
