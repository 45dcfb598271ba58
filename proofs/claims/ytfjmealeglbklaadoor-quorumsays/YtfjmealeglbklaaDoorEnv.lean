/- What a row's condition on the library's tables gives a walk, and what a slice of integers that came in gives it. -/
import Derived.Test.YtfjmealeglbklaaDoorRows
import Derived.Test.YtfjmealeglbklaaDoorFaces
import Derived.ProofKit
import Derived.OpenShut
import Derived.ShutString
import Derived.ChangeOld
import Derived.Below
import Derived.LaidMore
import Derived.Stop.Joined
import Derived.Lib.LaidTab
namespace Go.Proofs.YtfjmealeglbklaaDoor
open Go.ChangeShapes Go.WideShapes Go.ChangeAt Go.RowKit

theorem own : ownKnob Tryd.prog.godebug = none := by kernel_rfl
theorem laidOut : laidOutB Tryd.prog = true := by kernel_rfl
theorem g32 : Tryd.prog.globalNamed "math/bits.deBruijn32tab" = some 1 := by kernel_rfl
theorem g64 : Tryd.prog.globalNamed "math/bits.deBruijn64tab" = some 2 := by kernel_rfl
theorem t64 : (Tryd.prog.globals[2]?).map (·.type) = some 99 := by kernel_rfl
theorem c82 : Tryd.prog.cellsOf 99 = 64 := by kernel_rfl
theorem c5 : Tryd.prog.cellsOf 5 = 1 := by kernel_rfl
theorem tab_data : (Rows.laid_math_bits_deBruijn64tab : DataW Unit) = Lib.tabData .u8 (tab.map fun x => ((x : Nat) : Int)) := by kernel_rfl

/-- The two tables' condition gives what the walks ask. -/
theorem env_of_tabs {W : World} (h : laidMet Tryd.prog [("math/bits.deBruijn32tab", Rows.laid_math_bits_deBruijn32tab), ("math/bits.deBruijn64tab", Rows.laid_math_bits_deBruijn64tab)] W) : Env W := by
  obtain ⟨ps, ⟨g0, t0, cs0, f0, p0, q0, hg0, ht0, hv0, hd0, ⟨g1, t1, cs1, f1, p1, q1, hg1, ht1, hv1, hd1, _, _⟩, _⟩, _, _⟩ := h
  obtain rfl := Option.some.inj (g64.symm.trans hg1)
  obtain rfl := Option.some.inj (t64.symm.trans ht1)
  rw [tab_data] at hd1
  have hcs := Lib.cells_of_tab Tryd.underlying99 Tryd.underlying5 c5 c82 hd1
  have hcell : ∀ k, k < 64 → W.cell? ⟨2, k, none⟩ = some (.int .u8 (tab[k]?.getD 0 : Nat)) := by
    intro k hk
    have := World.var?_cell hg1 hv1 k
    rw [this]
    have hk' : k < tab.length := hk
    have e : cs1[k]? = cs1.toList[k]? := by simp
    rw [e, hcs]
    simp [hk']
  exact ⟨hcell, World.block_lt_of_cell? _ _ (hcell 0 (by omega))⟩

/-- A slice of integers that came in. -/
def IsRow (w : World) (a : Option Addr) (len cap : Nat) (zs : List Int) : Prop :=
  (a = none ∧ len = 0 ∧ cap = 0 ∧ zs = []) ∨
  ∃ x, a = some x ∧ len ≤ cap ∧ cap ≤ maxLen ∧ zs.length = cap ∧ (∀ i, i < zs.length → w.cell? (x.add i) = some (.int .i64 (zs.getD i 0))) ∧ ∀ n ∈ zs, (Lit.int .i64 n).wf = true
theorem IsRow.has {w : World} {a : Option Addr} {len cap : Nat} {zs : List Int} (h : IsRow w a len cap zs) : (zs.take len).length = len ∧ len ≤ maxLen ∧ Has (zs.take len) a w := by
  rcases h with ⟨rfl, rfl, rfl, rfl⟩ | ⟨x, rfl, h1, h2, h3, h4, _⟩
  · exact ⟨rfl, Nat.zero_le _, fun j hj => absurd hj (Nat.not_lt_zero _)⟩
  · refine ⟨by rw [List.length_take]; omega, by omega, fun j hj => ?_⟩
    rw [List.length_take] at hj
    obtain ⟨b, off, rfl, hc⟩ := ints_at h4 (by omega)
    have hj' : j < zs.length := by omega
    have hcj := hc j hj'
    refine ⟨b, off, rfl, World.block_lt_of_cell? _ _ hcj, ?_⟩
    rw [hcj, List.getElem?_take, if_pos (by omega)]
    simp
end Go.Proofs.YtfjmealeglbklaaDoor
