/- What a slice of slices of numbers that came in gives a walk. -/
import Derived.Test.YtelonimdpeenaaaDoorOpn
import Derived.Test.YtelonimdpeenaaaDoorHss
namespace Go.Proofs.YtelonimdpeenaaaDoor
open Go.ChangeShapes Go.WideShapes Go.ChangeAt Go.RowKit Go.Deep

theorem cellsSl : Tryd.prog.cellsOf 29 = 1 := by kernel_rfl
/-- What a walk is told of a slice of slices of numbers. -/
structure IsSS (W : World) (a : Option Addr) (len : Nat) (ss : List (List Int)) : Prop where
  len_eq : ss.length = len
  max : len ≤ maxLen
  has : HasSS ss a W
theorem open_I1 {H : Type} {enc : TypeId × Value → H} {W : World} {base : Nat} {sp : Nat → Bool} {held : Bool} {fuel : Nat} {v : Value} {x : DataW H × List MemPlace}
    (hf : DataW.trod enc Tryd.prog W base sp held fuel 29 [v] = some x) : ∃ zs a c, v = .slice a zs.length c ∧ HasI zs a W ∧ zs.length ≤ maxLen := by
  have : ∃ a len cap, v = .slice a len cap := by
    rcases open_ints Tryd.underlying29 Tryd.underlying3 (by kernel_rfl) hf with ⟨hcs, _⟩ | ⟨y, l, c, zs, hcs, _⟩
    · simp at hcs; exact ⟨_, _, _, hcs⟩
    · simp at hcs; exact ⟨_, _, _, hcs⟩
  obtain ⟨a, len, cap, rfl⟩ := this
  obtain ⟨zs, hz⟩ := open_I hf
  exact ⟨zs, a, cap, by rw [hz.len_eq], hz.has, by rw [hz.len_eq]; exact hz.max⟩
set_option maxRecDepth 100000 in
theorem open_SS {H : Type} {enc : TypeId × Value → H} {W : World} {base : Nat} {sp : Nat → Bool} {held : Bool} {fuel : Nat} {a : Option Addr} {len cap : Nat} {x : DataW H × List MemPlace}
    (hf : DataW.trod enc Tryd.prog W base sp held fuel 22 [.slice a len cap] = some x) : ∃ ss, IsSS W a len ss := by
  rcases open_slice Tryd.underlying22 hf with ⟨h0, _⟩ | ⟨a', len', cap', m, n, D, Pl, h0, _, hl, hm, hmm, _, hx⟩
  · simp at h0
    obtain ⟨rfl, rfl, rfl⟩ := h0
    exact ⟨[], rfl, Nat.zero_le _, fun j hj => absurd hj (Nat.not_lt_zero _)⟩
  · simp at h0
    obtain ⟨rfl, rfl, rfl⟩ := h0
    have hlm : len ≤ m := by rw [hmm]; split <;> omega
    have each : ∀ i, ∃ z : List Int × Option Addr × Nat, i < len → W.cell? (a'.add i) = some (.slice z.2.1 z.1.length z.2.2) ∧ HasI z.1 z.2.1 W ∧ z.1.length ≤ maxLen := fun i => by
      by_cases hi : i < len
      · obtain ⟨cs', h1, h2⟩ := hx i (by omega)
        rw [cellsSl] at h1
        obtain ⟨_, hlen, hcell⟩ := World.cells?_some h1
        match cs', hlen with
        | [v0], _ =>
          have e0 := hcell 0 (by omega)
          rw [add_add] at e0
          obtain ⟨zs, a2, c2, rfl, hh, hmx⟩ := open_I1 h2
          exact ⟨⟨zs, a2, c2⟩, fun _ => ⟨by simpa using e0, hh, hmx⟩⟩
      · exact ⟨⟨[], none, 0⟩, fun h => absurd h hi⟩
    obtain ⟨f, hf⟩ := Classical.axiomOfChoice each
    refine ⟨(List.range len).map (fun i => (f i).1), by simp, by omega, fun j hj => ?_⟩
    have hj' : j < len := by simpa using hj
    have em : ssAt ((List.range len).map (fun i => (f i).1)) j = (f j).1 := by simp [ssAt, hj']
    obtain ⟨h1, h2, h3⟩ := hf j hj'
    obtain ⟨b, off, spot⟩ := a'
    have hspot : spot = none := by simpa [Addr.add] using World.cell?_spot (hf 0 (by omega)).1
    subst hspot
    rw [add_plain] at h1
    rw [em]
    exact ⟨b, off, _, _, rfl, World.block_lt_of_cell? _ _ h1, h1, h2, h3⟩
end Go.Proofs.YtelonimdpeenaaaDoor
