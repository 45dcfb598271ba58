/- Two slices of integers that a call makes by appending lie apart. No walk. -/
import Derived.Deep.AppendLies
import Derived.Test.YtcmlkioaclkgnaaDoorOwnS
namespace Go.Proofs.YtcmlkioaclkgnaaDoor
open Go.RowKit

/-- Two rows that a call has made lie apart. -/
def ApartA (v u : Value) : Prop := ∀ k, v.ownBlock = some k → u.ownBlock = some k → False
theorem ApartA.ne {v u : Value} (h : ApartA v u) : v.ownBlock = none ∨ v.ownBlock ≠ u.ownBlock := by
  cases hv : v.ownBlock with
  | none => exact .inl rfl
  | some k => exact .inr fun e => h k hv (e.symm)
theorem ApartA.symm {v u : Value} (h : ApartA v u) : ApartA u v := fun k h1 h2 => h k h2 h1
theorem apA_step {v u : Value} {g n c S H : Nat} (h : ApartA v u) (hu : ∀ k, u.ownBlock = some k → k < S) (hS : S ≤ H) (hg : v.ownBlock = some g ∨ g = H) : ApartA (.slice (some ⟨g, 0, none⟩) n c) u := fun k h1 h2 => by
  obtain rfl : g = k := by simpa [Value.ownBlock] using h1
  rcases hg with hg | rfl
  · exact h _ hg h2
  · have := hu _ h2; omega
/-- A row is as it was behind a store into the other one. -/
theorem owns_apart {w : World} {base n size : Nat} {e : TypeId} {v : Value} {xs : List Value} {g i : Nat} (h : w.ownsRow base e size v n xs) (ha : v.ownBlock ≠ some g) (x : Value) : (w.setCell ⟨g, i, none⟩ x).ownsRow base e size v n xs := by
  refine ⟨h.1, ?_⟩
  rcases h.2 with h2 | ⟨b, cap, cur, rfl, h2, h3, h4⟩
  · exact .inl h2
  · refine .inr ⟨b, cap, cur, rfl, h2, (Below.heap_setCell w ⟨g, i, none⟩ x b ?_).trans h3, h4⟩
    rintro rfl
    exact ha rfl
theorem infoA_parts {P : Program} {t : TypeId} {z : Value} {s b : Nat} (h : (P.info? t).map (fun i => (i.zero, i.size, i.bytes)) = some (some z, s, b)) : ∃ i, P.info? t = some i ∧ i.zero = some z ∧ i.size = s ∧ i.bytes = b := by
  obtain ⟨i, hi, hzz⟩ := Option.map_eq_some_iff.1 h
  simp only [Prod.mk.injEq] at hzz
  exact ⟨i, hi, hzz.1, hzz.2.1, hzz.2.2⟩
end Go.Proofs.YtcmlkioaclkgnaaDoor
