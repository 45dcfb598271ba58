/- A row of acts of the call's own, stored into; the swap of two neighbours in range. No walk. -/
import Derived.Test.YtkkccafobfdjbaaDoorSca
import Derived.Test.YtkkccafobfdjbaaDoorOwnS
namespace Go.Proofs.YtkkccafobfdjbaaDoor
open Go.RowKit

theorem acells_set : ∀ (s : List M.SAct) (i : Nat) (a : M.SAct), acells (s.set i a) = (((acells s).set (i * 3) (.int .i64 (a.tx : Nat))).set (i * 3 + 1) (.int .i64 (a.it : Nat))).set (i * 3 + 2) (.int .i64 (a.wr : Nat))
  | [], _, _ => by simp [acells]
  | b :: r, 0, a => rfl
  | b :: r, i + 1, a => by
    have ih := acells_set r i a
    show acells (b :: r.set i a) = _
    simp only [acells]
    rw [ih]
    have e : (i + 1) * 3 = i * 3 + 3 := by omega
    rw [e]
    rfl
/-- An act stored at i. -/
abbrev setA (W : World) (g i : Nat) (a : M.SAct) : World := ((W.setCell ⟨g, i * 3, none⟩ (.int .i64 (a.tx : Nat))).setCell ⟨g, i * 3 + 1, none⟩ (.int .i64 (a.it : Nat))).setCell ⟨g, i * 3 + 2, none⟩ (.int .i64 (a.wr : Nat))
theorem setA_below {N : Nat} {w W : World} {g : Nat} (h : Below N w W) (hg : N ≤ g) (i : Nat) (a : M.SAct) : Below N w (setA W g i a) :=
  ((h.setCell (p := ⟨g, i * 3, none⟩) hg _).setCell (p := ⟨g, i * 3 + 1, none⟩) hg _).setCell (p := ⟨g, i * 3 + 2, none⟩) hg _
theorem owns_openA {W : World} {N n : Nat} {v : Value} {s : List M.SAct} (hm : s.length = n) (h : W.ownsRow N 45 3 v n (acells s)) (h0 : 0 < n) : ∃ g cap, v = .slice (some ⟨g, 0, none⟩) n cap ∧ N ≤ g ∧ g < W.heap.size ∧ n ≤ cap ∧
    (∀ i, i < n → AcAt (azN (M.sat s i)) g (i * 3) W ∧ W.frozen? ⟨g, i * 3, none⟩ = false ∧ W.frozen? ⟨g, i * 3 + 1, none⟩ = false ∧ W.frozen? ⟨g, i * 3 + 2, none⟩ = false) ∧
    ∀ i a, i < n → (setA W g i a).ownsRow N 45 3 (.slice (some ⟨g, 0, none⟩) n cap) n (acells (s.set i a)) := by
  have hh := h
  obtain ⟨hl, h2⟩ := h
  rcases h2 with ⟨_, e⟩ | ⟨g, cap, cur, rfl, hb, hg, h1, h3, h4, h5⟩
  · omega
  · refine ⟨g, cap, rfl, hb, (Array.getElem?_eq_some_iff.1 hg).1, h1, fun i hi => ⟨?_, by simp [World.frozen?, hg], by simp [World.frozen?, hg], by simp [World.frozen?, hg]⟩, fun i a hi => ⟨by rw [acells_len, List.length_set, hm], .inr ⟨g, cap, _, rfl, hb, heap_put (heap_put (heap_put hg _ _) _ _) _ _, h1, h3, by simpa using h4, ?_⟩⟩⟩
    · obtain ⟨_, _, e, hop⟩ := hasAc_of_owns hm hh i (by rw [az_len]; omega)
      cases e
      rw [aAt_az, Nat.zero_add] at hop
      exact hop
    · rw [acells_set, ← h5, Array.toList_setIfInBounds, Array.toList_setIfInBounds, Array.toList_setIfInBounds, List.take_set, List.take_set, List.take_set]
theorem swK_aok {s : List M.SAct} (hk : M.AOk s) {i : Nat} (h1 : 1 ≤ i) (h : i < s.length) : M.AOk (M.swK s i) := by
  refine ⟨by rw [M.swK_length]; exact hk.len, fun j => ?_, fun j => ?_, fun j => ?_⟩
  · rw [M.swK_at h1 h]; exact hk.tx _
  · rw [M.swK_at h1 h]; exact hk.it _
  · rw [M.swK_at h1 h]; exact hk.wr _
/-- is there nothing to be said? -/
def swSk (s : List M.SAct) (iz : Int) : Bool := decide (iz < 1) || decide ((s.length : Int) ≤ iz) || ((M.sat s iz.toNat).tx == (M.sat s (iz.toNat - 1)).tx || M.clash (M.sat s (iz.toNat - 1)) (M.sat s iz.toNat))
theorem swSk_no {s : List M.SAct} {iz : Int} (h : swSk s iz = false) : 1 ≤ iz ∧ iz < s.length ∧ M.clash (M.sat s (iz.toNat - 1)) (M.sat s iz.toNat) = false := by
  unfold swSk at h
  simp only [Bool.or_eq_false_iff, decide_eq_false_iff_not] at h
  exact ⟨by omega, by omega, h.2.2⟩
end Go.Proofs.YtkkccafobfdjbaaDoor
