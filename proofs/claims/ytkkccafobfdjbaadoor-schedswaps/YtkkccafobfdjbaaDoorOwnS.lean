/- A slice of integers that a call made by appending: its cells, and a cell stored into. No walk. -/
import Derived.Test.YtkkccafobfdjbaaDoorOwnI
namespace Go.Proofs.YtkkccafobfdjbaaDoor
open Go.RowKit

theorem heap_put {W : World} {b : Nat} {cs : Array Value} {t : TypeId} {f : Nat × Nat} (h : W.heap[b]? = some (.cells cs t f)) (i : Nat) (v : Value) : (W.setCell ⟨b, i, none⟩ v).heap[b]? = some (.cells (cs.setIfInBounds i v) t f) := by
  obtain ⟨hlt, hk⟩ := Array.getElem?_eq_some_iff.1 h
  show (W.heap.modify b _)[b]? = _
  rw [Array.getElem?_eq_getElem (by rw [Array.size_modify]; exact hlt), Array.getElem_modify_self, hk]
  simp
theorem owns_mono {w : World} {base base' n size : Nat} {e : TypeId} {v : Value} {xs : List Value} (h : w.ownsRow base e size v n xs) (hb : base' ≤ base) : w.ownsRow base' e size v n xs := by
  refine ⟨h.1, ?_⟩
  rcases h.2 with h2 | ⟨g, cap, cur, h1, h2, h3⟩
  · exact .inl h2
  · exact .inr ⟨g, cap, cur, h1, by omega, h3⟩
theorem icells_set (m : List Nat) (i x : Nat) : icells (m.set i x) = (icells m).set i (.int .i64 (x : Nat)) := by simp [icells, List.map_set]
theorem owns_open {W : World} {N n : Nat} {v : Value} {m : List Nat} (hm : m.length = n) (h : W.ownsRow N 3 1 v n (icells m)) (h0 : 0 < n) : ∃ g cap, v = .slice (some ⟨g, 0, none⟩) n cap ∧ N ≤ g ∧ g < W.heap.size ∧ (∀ i, i < n → W.cell? ⟨g, i, none⟩ = some (.int .i64 (M.row m i : Nat)) ∧ W.frozen? ⟨g, i, none⟩ = false) ∧
    ∀ i x, i < n → (W.setCell ⟨g, i, none⟩ (.int .i64 (x : Nat))).ownsRow N 3 1 (.slice (some ⟨g, 0, none⟩) n cap) n (icells (m.set i x)) := by
  obtain ⟨hl, h2⟩ := h
  rcases h2 with ⟨_, e⟩ | ⟨g, cap, cur, rfl, hb, hg, h1, h3, h4, h5⟩
  · omega
  · refine ⟨g, cap, rfl, hb, (Array.getElem?_eq_some_iff.1 hg).1, fun i hi => ⟨?_, ?_⟩, fun i x hi => ⟨by simp [icells, hm], .inr ⟨g, cap, _, rfl, hb, heap_put hg i _, h1, h3, by simpa using h4, ?_⟩⟩⟩
    · have e : cur[i]? = (icells m)[i]? := by
        rw [← h5, List.getElem?_take, if_pos (by omega)]; simp
      simp only [World.cell?, hg, e]
      unfold icells M.row
      rw [List.getElem?_map, List.getElem?_eq_getElem (by omega)]
      rfl
    · simp [World.frozen?, hg]
    · rw [icells_set, ← h5, Array.toList_setIfInBounds, List.take_set]
end Go.Proofs.YtkkccafobfdjbaaDoor
