/- What a trace, and a slice of integers, that came in give a walk. -/
import Derived.Test.YtkojkiggdbffhaaDoorRows
import Derived.Test.YtkojkiggdbffhaaDoorBTr
import Derived.ProofKit
import Derived.OpenShut
import Derived.ShutString
import Derived.ChangeOld
import Derived.Below
import Derived.Deep.SlicePairs
namespace Go.Proofs.YtkojkiggdbffhaaDoor
open Go.ChangeShapes Go.WideShapes Go.ChangeAt Go.RowKit Go.Deep

theorem ownT : ownKnob Tryd.prog.godebug = none := by kernel_rfl
theorem laidOutT : laidOutB Tryd.prog = true := by kernel_rfl
theorem cellsTr : Tryd.prog.cellsOf 24 = 2 := by kernel_rfl
theorem cellsEv : Tryd.prog.cellsOf 53 = 2 := by kernel_rfl
theorem cellsIn : Tryd.prog.cellsOf 3 = 1 := by kernel_rfl
theorem cellsEs : Tryd.prog.cellsOf 22 = 1 := by kernel_rfl
/-- What a walk is told of a slice of integers. -/
structure IsI (W : World) (a : Option Addr) (len : Nat) (zs : List Int) : Prop where
  len_eq : zs.length = len
  max : len ≤ maxLen
  has : HasI zs a W
  wf : ∀ k : Nat, zs[k]?.getD 0 < 9223372036854775808
/-- What a walk is told of a trace. -/
structure IsT (W : World) (a : Option Addr) (len : Nat) (T : List (Int × Int)) : Prop where
  len_eq : T.length = len
  max : len ≤ maxLen
  has : HasE T a W
theorem wf_lt {n : Int} (h : (Lit.int .i64 n).wf = true) : n < 9223372036854775808 := by
  have := bounds_i64 h
  omega
theorem open_I {H : Type} {enc : TypeId × Value → H} {W : World} {base : Nat} {sp : Nat → Bool} {held : Bool} {fuel : Nat} {a : Option Addr} {len cap : Nat} {x : DataW H × List MemPlace}
    (hf : DataW.trod enc Tryd.prog W base sp held fuel 25 [.slice a len cap] = some x) : ∃ zs, IsI W a len zs := by
  rcases open_ints Tryd.underlying25 Tryd.underlying3 (by kernel_rfl) hf with ⟨hcs, _⟩ | ⟨y, l, c, zs, hcs, _, hl, hm, hz, _, hcell, hwz⟩
  · simp at hcs
    obtain ⟨rfl, rfl, rfl⟩ := hcs
    exact ⟨[], rfl, Nat.zero_le _, fun j hj => absurd hj (Nat.not_lt_zero _), fun k => by simp⟩
  · simp at hcs
    obtain ⟨rfl, rfl, rfl⟩ := hcs
    have hzl : len ≤ zs.length := by rw [hz]; split <;> omega
    refine ⟨zs.take len, by rw [List.length_take]; omega, by omega, fun j hj => ?_, fun k => ?_⟩
    · rw [List.length_take] at hj
      obtain ⟨b, off, rfl, hc⟩ := ints_at hcell (by omega)
      have hj' : j < zs.length := by omega
      have hcj := hc j hj'
      refine ⟨b, off, rfl, World.block_lt_of_cell? _ _ hcj, ?_⟩
      rw [hcj, List.getElem?_take, if_pos (by omega)]
      simp
    · cases e : (zs.take len)[k]? with
      | none => simp
      | some z =>
        have h1 := List.mem_of_getElem? e
        exact wf_lt (hwz z (List.mem_of_mem_take h1))
/-- The events that are read. -/
theorem open_T {H : Type} {enc : TypeId × Value → H} {W : World} {base : Nat} {sp : Nat → Bool} {held : Bool} {fuel : Nat} {cs : List Value} {x : DataW H × List MemPlace}
    (hf : DataW.trod enc Tryd.prog W base sp held fuel 22 cs = some x) : ∃ a len cap T, cs = [.slice a len cap] ∧ IsT W a len T := by
  rcases open_slice_pairs Tryd.underlying22 Tryd.underlying53 cellsEv rfl rfl cellsIn cellsIn hf with ⟨rfl, _⟩ | ⟨a, len, cap, m, n, V0, V1, D0, D1, P0, P1, rfl, _, hl, hm, hmm, _, hx⟩
  · exact ⟨none, 0, 0, [], rfl, rfl, Nat.zero_le _, fun j hj => absurd hj (Nat.not_lt_zero _)⟩
  · have hlm : len ≤ m := by rw [hmm]; split <;> omega
    have each : ∀ i, ∃ z : Int × Int, i < len → V0 i = .int .i64 z.1 ∧ V1 i = .int .i64 z.2 := fun i => by
      by_cases hi : i < len
      · obtain ⟨_, _, h1, h2⟩ := hx i (by omega)
        obtain ⟨z0, e0, _, _⟩ := DataW.trod_int Tryd.underlying3 h1
        obtain ⟨z1, e1, _, _⟩ := DataW.trod_int Tryd.underlying3 h2
        exact ⟨(z0, z1), fun _ => ⟨by simpa using e0, by simpa using e1⟩⟩
      · exact ⟨(0, 0), fun h => absurd h hi⟩
    have each' := Classical.axiomOfChoice each
    obtain ⟨f, hf⟩ := each'
    refine ⟨some a, len, cap, (List.range len).map f, rfl, by simp, by omega, fun j hj => ?_⟩
    have hj' : j < len := by simpa using hj
    obtain ⟨h1, h2, _, _⟩ := hx j (by omega)
    obtain ⟨e1, e2⟩ := hf j hj'
    rw [e1] at h1
    rw [e2] at h2
    obtain ⟨b, off, spot⟩ := a
    have hspot : spot = none := by simpa [Addr.add] using World.cell?_spot (hx 0 (by omega)).1
    subst hspot
    rw [add_plain] at h1 h2
    refine ⟨b, off, rfl, World.block_lt_of_cell? _ _ h1, ?_, ?_⟩
    · rw [h1]; simp [M.pr, hj']
    · rw [← Nat.add_assoc] at h2
      rw [h2]; simp [M.fm, hj']
set_option maxRecDepth 100000 in
/-- A trace that came in. -/
theorem open_trace {H : Type} {enc : TypeId × Value → H} {W : World} {base base' : Nat} {sp : Nat → Bool} {held : Bool} {v : Value} {d : DataW H} {ps : List MemPlace} {r : Reach}
    (hv : Value.okWide Tryd.prog W r base' 24 v) (h : DataW.Trod enc Tryd.prog W base sp held 24 v d ps) : ∃ P a len cap T, v = trV P a len cap ∧ IsT W a len T := by
  obtain ⟨cs, rfl, hsz⟩ := okWide_struct Tryd.underlying24 hv
  obtain ⟨fuel, hf⟩ := h
  obtain ⟨y0, y1, m, hx, hl, hy0, hy1⟩ := trod_struct2 Tryd.underlying24 hf
  rw [cellsTr] at hsz
  match cs, hsz with
  | ⟨[c0, c1]⟩, _ =>
    rw [show (Value.agg ⟨[c0, c1]⟩).cells.toList = [c0, c1] from rfl] at hy0 hy1
    simp [cellsIn, cellsEs] at hy0 hy1
    obtain ⟨P, e0, _, _⟩ := DataW.trod_int Tryd.underlying3 hy0
    obtain ⟨a, len, cap, T, e1, hT⟩ := open_T hy1
    simp at e0 e1
    subst e0 e1
    exact ⟨P, a, len, cap, T, rfl, hT⟩
end Go.Proofs.YtkojkiggdbffhaaDoor
