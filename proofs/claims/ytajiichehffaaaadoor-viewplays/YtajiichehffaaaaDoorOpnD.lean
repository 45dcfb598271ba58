/- What a slice of deeds that came in gives a walk. -/
import Derived.Test.YtajiichehffaaaaDoorOpn
import Derived.Test.YtajiichehffaaaaDoorDee
namespace Go.Proofs.YtajiichehffaaaaDoor
open Go.ChangeShapes Go.WideShapes Go.ChangeAt Go.RowKit Go.Deep

theorem cellsDe : Tryd.prog.cellsOf 31 = 4 := by kernel_rfl
/-- What a walk is told of a slice of deeds. -/
structure IsD (W : World) (a : Option Addr) (len : Nat) (ms : List Dz) : Prop where
  len_eq : ms.length = len
  max : len ≤ maxLen
  has : HasD ms a W
set_option maxRecDepth 100000 in
theorem open_D {H : Type} {enc : TypeId × Value → H} {W : World} {base : Nat} {sp : Nat → Bool} {held : Bool} {fuel : Nat} {a : Option Addr} {len cap : Nat} {x : DataW H × List MemPlace}
    (hf : DataW.trod enc Tryd.prog W base sp held fuel 22 [.slice a len cap] = some x) : ∃ ms, IsD W a len ms := by
  rcases open_slice Tryd.underlying22 hf with ⟨h0, _⟩ | ⟨a', len', cap', m, n, D, Pl, h0, _, hl, hm, hmm, _, hx⟩
  · simp at h0
    obtain ⟨rfl, rfl, rfl⟩ := h0
    exact ⟨[], rfl, Nat.zero_le _, fun j hj => absurd hj (Nat.not_lt_zero _)⟩
  · simp at h0
    obtain ⟨rfl, rfl, rfl⟩ := h0
    have hlm : len ≤ m := by rw [hmm]; split <;> omega
    have each : ∀ i, ∃ z : Dz, i < len → W.cell? (a'.add (i * 4)) = some (.int .i64 z.k) ∧ W.cell? (a'.add (i * 4 + 1)) = some (.int .i64 z.t) ∧ W.cell? (a'.add (i * 4 + 2)) = some (.int .i64 z.i) ∧ W.cell? (a'.add (i * 4 + 3)) = some (.int .i64 z.x) := fun i => by
      by_cases hi : i < len
      · obtain ⟨cs', h1, h2⟩ := hx i (by omega)
        rw [cellsDe] at h1
        obtain ⟨_, hlen, hcell⟩ := World.cells?_some h1
        obtain ⟨xs, k, hk, hxy, _, hxl, hff⟩ := DataW.trod_struct Tryd.underlying31 h2
        match xs, hxl, cs', hlen with
        | [y0, y1, y2, y3], _, [v0, v1, v2, v3], _ =>
          have g0 := hff 0 _ rfl
          have g1 := hff 1 _ rfl
          have g2 := hff 2 _ rfl
          have g3 := hff 3 _ rfl
          simp [cellsIn] at g0 g1 g2 g3
          have e0 := hcell 0 (by omega)
          have e1 := hcell 1 (by omega)
          have e2 := hcell 2 (by omega)
          have e3 := hcell 3 (by omega)
          rw [add_add] at e0 e1 e2 e3
          obtain ⟨z0, q0, _, _⟩ := DataW.trod_int Tryd.underlying3 g0
          obtain ⟨z1, q1, _, _⟩ := DataW.trod_int Tryd.underlying3 g1
          obtain ⟨z2, q2, _, _⟩ := DataW.trod_int Tryd.underlying3 g2
          obtain ⟨z3, q3, _, _⟩ := DataW.trod_int Tryd.underlying3 g3
          simp at q0 q1 q2 q3
          subst q0 q1 q2 q3
          exact ⟨⟨z0, z1, z2, z3⟩, fun _ => ⟨by simpa using e0, by simpa using e1, by simpa using e2, by simpa using e3⟩⟩
      · exact ⟨⟨0, 0, 0, 0⟩, fun h => absurd h hi⟩
    obtain ⟨f, hf⟩ := Classical.axiomOfChoice each
    refine ⟨(List.range len).map f, by simp, by omega, fun j hj => ?_⟩
    have hj' : j < len := by simpa using hj
    have em : dAt ((List.range len).map f) j = f j := by simp [dAt, hj']
    obtain ⟨h1, h2, h3, h4⟩ := hf j hj'
    obtain ⟨b, off, spot⟩ := a'
    have hspot : spot = none := by simpa [Addr.add] using World.cell?_spot (hf 0 (by omega)).1
    subst hspot
    rw [add_plain] at h1 h2 h3 h4
    rw [em]
    rw [← Nat.add_assoc] at h2 h3 h4
    exact ⟨b, off, rfl, World.block_lt_of_cell? _ _ h1, h1, h2, h3, h4⟩
end Go.Proofs.YtajiichehffaaaaDoor
