/- What a trace, and a slice of integers, that came in give a walk. -/
import Derived.Test.YtfjmealeglbklaaDoorRows
import Derived.Test.YtfjmealeglbklaaDoorSin
import Derived.ProofKit
import Derived.OpenShut
import Derived.ShutString
import Derived.ChangeOld
import Derived.Below
import Derived.Deep.SlicePairs
namespace Go.Proofs.YtfjmealeglbklaaDoor
open Go.ChangeShapes Go.WideShapes Go.ChangeAt Go.RowKit Go.Deep

theorem ownT : ownKnob Tryd.prog.godebug = none := by kernel_rfl
theorem laidOutT : laidOutB Tryd.prog = true := by kernel_rfl
theorem cellsIn : Tryd.prog.cellsOf 3 = 1 := by kernel_rfl
/-- What a walk is told of a slice of integers. -/
structure IsI (W : World) (a : Option Addr) (len : Nat) (zs : List Int) : Prop where
  len_eq : zs.length = len
  max : len ≤ maxLen
  has : HasI zs a W
  wf : ∀ k : Nat, zs[k]?.getD 0 < 9223372036854775808
/-- What a walk is told of a trace. -/
structure IsT (W : World) (a : Option Addr) (len : Nat) (T : List (Int × Int)) : Prop where
  len_eq : T.length = len
  max : len ≤ maxLen
  has : HasE T a W
theorem wf_lt {n : Int} (h : (Lit.int .i64 n).wf = true) : n < 9223372036854775808 := by
  have := bounds_i64 h
  omega
theorem open_I {H : Type} {enc : TypeId × Value → H} {W : World} {base : Nat} {sp : Nat → Bool} {held : Bool} {fuel : Nat} {a : Option Addr} {len cap : Nat} {x : DataW H × List MemPlace}
    (hf : DataW.trod enc Tryd.prog W base sp held fuel 22 [.slice a len cap] = some x) : ∃ zs, IsI W a len zs := by
  rcases open_ints Tryd.underlying22 Tryd.underlying3 (by kernel_rfl) hf with ⟨hcs, _⟩ | ⟨y, l, c, zs, hcs, _, hl, hm, hz, _, hcell, hwz⟩
  · simp at hcs
    obtain ⟨rfl, rfl, rfl⟩ := hcs
    exact ⟨[], rfl, Nat.zero_le _, fun j hj => absurd hj (Nat.not_lt_zero _), fun k => by simp⟩
  · simp at hcs
    obtain ⟨rfl, rfl, rfl⟩ := hcs
    have hzl : len ≤ zs.length := by rw [hz]; split <;> omega
    refine ⟨zs.take len, by rw [List.length_take]; omega, by omega, fun j hj => ?_, fun k => ?_⟩
    · rw [List.length_take] at hj
      obtain ⟨b, off, rfl, hc⟩ := ints_at hcell (by omega)
      have hj' : j < zs.length := by omega
      have hcj := hc j hj'
      refine ⟨b, off, rfl, World.block_lt_of_cell? _ _ hcj, ?_⟩
      rw [hcj, List.getElem?_take, if_pos (by omega)]
      simp
    · cases e : (zs.take len)[k]? with
      | none => simp
      | some z =>
        have h1 := List.mem_of_getElem? e
        exact wf_lt (hwz z (List.mem_of_mem_take h1))
end Go.Proofs.YtfjmealeglbklaaDoor
