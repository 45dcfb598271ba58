/- What a slice of ops that came in gives a walk. -/
import Derived.Test.YtcmlkioaclkgnaaDoorOpn
import Derived.Test.YtcmlkioaclkgnaaDoorHi0
namespace Go.Proofs.YtcmlkioaclkgnaaDoor
open Go.ChangeShapes Go.WideShapes Go.ChangeAt Go.RowKit Go.Deep

theorem cellsOp : Tryd.prog.cellsOf 36 = 6 := by kernel_rfl
/-- What a walk is told of a slice of ops. -/
structure IsO (W : World) (a : Option Addr) (len cap : Nat) (zs : List Oz) : Prop where
  len_eq : zs.length = len
  max : len ≤ maxLen
  cap_ge : len ≤ cap
  has : HasO zs a W
set_option maxRecDepth 100000 in
theorem open_O {H : Type} {enc : TypeId × Value → H} {W : World} {base : Nat} {sp : Nat → Bool} {held : Bool} {fuel : Nat} {a : Option Addr} {len cap : Nat} {x : DataW H × List MemPlace}
    (hf : DataW.trod enc Tryd.prog W base sp held fuel 22 [.slice a len cap] = some x) : ∃ zs, IsO W a len cap zs := by
  rcases open_slice Tryd.underlying22 hf with ⟨h0, _⟩ | ⟨a', len', cap', m, n, D, Pl, h0, _, hl, hm, hmm, _, hx⟩
  · simp at h0
    obtain ⟨rfl, rfl, rfl⟩ := h0
    exact ⟨[], rfl, Nat.zero_le _, Nat.zero_le _, fun j hj => absurd hj (Nat.not_lt_zero _)⟩
  · simp at h0
    obtain ⟨rfl, rfl, rfl⟩ := h0
    have hlm : len ≤ m := by rw [hmm]; split <;> omega
    have each : ∀ i, ∃ z : Oz, i < len → W.cell? (a'.add (i * 6)) = some (.int .i64 z.pr) ∧ W.cell? (a'.add (i * 6 + 1)) = some (.int .i64 z.ob) ∧ W.cell? (a'.add (i * 6 + 2)) = some (.int .i64 z.wr) ∧ W.cell? (a'.add (i * 6 + 3)) = some (.int .i64 z.va) ∧ W.cell? (a'.add (i * 6 + 4)) = some (.int .i64 z.fr) ∧ W.cell? (a'.add (i * 6 + 5)) = some (.int .i64 z.to) := fun i => by
      by_cases hi : i < len
      · obtain ⟨cs', h1, h2⟩ := hx i (by omega)
        rw [cellsOp] at h1
        obtain ⟨_, hlen, hcell⟩ := World.cells?_some h1
        obtain ⟨xs, k, hk, hxy, _, hxl, hff⟩ := DataW.trod_struct Tryd.underlying36 h2
        match xs, hxl, cs', hlen with
        | [y0, y1, y2, y3, y4, y5], _, [v0, v1, v2, v3, v4, v5], _ =>
          have g0 := hff 0 _ rfl
          have g1 := hff 1 _ rfl
          have g2 := hff 2 _ rfl
          have g3 := hff 3 _ rfl
          have g4 := hff 4 _ rfl
          have g5 := hff 5 _ rfl
          simp [cellsIn] at g0 g1 g2 g3 g4 g5
          have e0 := hcell 0 (by omega)
          have e1 := hcell 1 (by omega)
          have e2 := hcell 2 (by omega)
          have e3 := hcell 3 (by omega)
          have e4 := hcell 4 (by omega)
          have e5 := hcell 5 (by omega)
          rw [add_add] at e0 e1 e2 e3 e4 e5
          obtain ⟨z0, q0, _, _⟩ := DataW.trod_int Tryd.underlying3 g0
          obtain ⟨z1, q1, _, _⟩ := DataW.trod_int Tryd.underlying3 g1
          obtain ⟨z2, q2, _, _⟩ := DataW.trod_int Tryd.underlying3 g2
          obtain ⟨z3, q3, _, _⟩ := DataW.trod_int Tryd.underlying3 g3
          obtain ⟨z4, q4, _, _⟩ := DataW.trod_int Tryd.underlying3 g4
          obtain ⟨z5, q5, _, _⟩ := DataW.trod_int Tryd.underlying3 g5
          simp at q0 q1 q2 q3 q4 q5
          subst q0 q1 q2 q3 q4 q5
          exact ⟨⟨z0, z1, z2, z3, z4, z5⟩, fun _ => ⟨by simpa using e0, by simpa using e1, by simpa using e2, by simpa using e3, by simpa using e4, by simpa using e5⟩⟩
      · exact ⟨⟨0, 0, 0, 0, 0, 0⟩, fun h => absurd h hi⟩
    obtain ⟨f, hf⟩ := Classical.axiomOfChoice each
    refine ⟨(List.range len).map f, by simp, by omega, by omega, fun j hj => ?_⟩
    have hj' : j < len := by simpa using hj
    have em : oAt ((List.range len).map f) j = f j := by simp [oAt, hj']
    obtain ⟨h1, h2, h3, h4, h5, h6⟩ := hf j hj'
    obtain ⟨b, off, spot⟩ := a'
    have hspot : spot = none := by simpa [Addr.add] using World.cell?_spot (hf 0 (by omega)).1
    subst hspot
    rw [add_plain] at h1 h2 h3 h4 h5 h6
    rw [em]
    rw [← Nat.add_assoc] at h2 h3 h4 h5 h6
    exact ⟨b, off, rfl, World.block_lt_of_cell? _ _ h1, h1, h2, h3, h4, h5, h6⟩
end Go.Proofs.YtcmlkioaclkgnaaDoor
