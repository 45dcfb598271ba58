/- A slice of integers that a call makes by appending. No walk. -/
import Derived.Test.YtfjmealeglbklaaDoorSin
import Derived.WalkSpells
import Derived.OwnWalk
namespace Go.Proofs.YtfjmealeglbklaaDoor
open Go.RowKit

/-- Numbers as cells. -/
def icells (m : List Nat) : List Value := m.map fun x => Value.int .i64 ((x : Nat) : Int)
theorem icells_snoc (m : List Nat) (x : Nat) : icells (m ++ [x]) = icells m ++ [.int .i64 (x : Nat)] := by simp [icells]
theorem owns_slice {w : World} {base n size : Nat} {e : TypeId} {v : Value} {xs : List Value} (h : w.ownsRow base e size v n xs) : ∃ p c, v = .slice p n c := by
  rcases h.2 with ⟨rfl, rfl⟩ | ⟨g, cap, _, rfl, _⟩
  · exact ⟨none, 0, rfl⟩
  · exact ⟨_, cap, rfl⟩
theorem hasI_of_owns {w : World} {base n cap : Nat} {p : Option Addr} {m : List Nat} (hm : m.length = n) (h : w.ownsRow base 3 1 (.slice p n cap) n (icells m)) : HasI (ints m) p w := by
  rcases h.2 with ⟨e, rfl⟩ | ⟨g, cap, cur, e, hb, hg, h1, h2, h3, h4⟩
  · exact fun j hj => by rw [ints_length] at hj; omega
  · cases e
    refine fun j hj => ⟨g, 0, rfl, (Array.getElem?_eq_some_iff.1 hg).1, ?_⟩
    rw [ints_length] at hj
    have hc := h.cellAt j (by omega)
    rw [Nat.zero_add, hc, ints_get]
    unfold icells M.row
    rw [List.getElem?_map]
    simp [hj]
theorem owns_below {w w' : World} {base n size : Nat} {e : TypeId} {v : Value} {xs : List Value} (h : w.ownsRow base e size v n xs) (hb : Below w.heap.size w w') : w'.ownsRow base e size v n xs := by
  refine ⟨h.1, ?_⟩
  rcases h.2 with h2 | ⟨g, cap, cur, h1, h2, h3, h4⟩
  · exact .inl h2
  · exact .inr ⟨g, cap, cur, h1, h2, (hb.block g (Array.getElem?_eq_some_iff.1 h3).1).trans h3, h4⟩
theorem ownsRow_drN {w : World} {base n size : Nat} {e : TypeId} {v : Value} {xs : List Value} (h : w.ownsRow base e size v n xs) (k : Nat) : (w.drewN k).ownsRow base e size v n xs := by
  induction k with
  | zero => exact h
  | succ k ih => exact ih
end Go.Proofs.YtfjmealeglbklaaDoor
