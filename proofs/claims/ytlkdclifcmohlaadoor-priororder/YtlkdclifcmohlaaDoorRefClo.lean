/- The document's own closure (package whensteadref1, Closed): at rows that are all sets, at most twelve, the closed rows in a new list; what lay in memory lies as it lay. -/
import Derived.Test.YtlkdclifcmohlaaDoorBRf
import Derived.Test.YtlkdclifcmohlaaDoorRefMath
import Derived.Test.YtlkdclifcmohlaaDoorBFt
import Derived.WalkSpells
import Derived.OwnWalk
namespace Go.Proofs.YtlkdclifcmohlaaDoor
open Go.RowKit

/-- The first k of some sets, as cells. -/
def cellsOf (m : List Nat) (k : Nat) : List Value := (m.take k).map fun x => Value.int .i64 ((x : Nat) : Int)
theorem cellsOf_succ (m : List Nat) (k : Nat) (h : k < m.length) : cellsOf m (k + 1) = cellsOf m k ++ [.int .i64 (M.row m k : Nat)] := by
  unfold cellsOf M.row
  rw [List.take_succ_eq_append_getElem h, List.map_append]
  congr 1
  simp [h]
theorem has_of_owns {w : World} {base n : Nat} {v : Value} {m : List Nat} (hm : m.length = n) (h : w.ownsRow base 3 1 v n (cellsOf m n)) : ∃ p cap, v = .slice p n cap ∧ Has (ints m) p w := by
  rcases h.2 with ⟨rfl, rfl⟩ | ⟨g, cap, cur, rfl, hb, hg, h1, h2, h3, h4⟩
  · exact ⟨none, 0, rfl, fun j hj => by rw [ints_length] at hj; omega⟩
  · refine ⟨_, cap, rfl, fun j hj => ⟨g, 0, rfl, (Array.getElem?_eq_some_iff.1 hg).1, ?_⟩⟩
    rw [ints_length] at hj
    have hc := h.cellAt j (by omega)
    rw [Nat.zero_add, hc, ints_get]
    unfold cellsOf M.row
    rw [List.getElem?_map, List.getElem?_take, if_pos (by omega)]
    simp [hj]

end Go.Proofs.YtlkdclifcmohlaaDoor
