/- What a stamp that came in gives a walk. -/
import Derived.Test.YtckejldbbkibhaaDoorOpn
import Derived.Test.YtckejldbbkibhaaDoorRwz
namespace Go.Proofs.YtckejldbbkibhaaDoor
open Go.ChangeShapes Go.WideShapes Go.ChangeAt Go.RowKit Go.Deep

theorem cellsSt : Tryd.prog.cellsOf 27 = 2 := by kernel_rfl
set_option maxRecDepth 100000 in
theorem open_stamp {H : Type} {enc : TypeId × Value → H} {W : World} {base base' : Nat} {sp : Nat → Bool} {held : Bool} {v : Value} {d : DataW H} {ps : List MemPlace} {r : Reach}
    (hv : Value.okWide Tryd.prog W r base' 27 v) (h : DataW.Trod enc Tryd.prog W base sp held 27 v d ps) : ∃ a c, v = stV a c := by
  obtain ⟨cs, rfl, hsz⟩ := okWide_struct Tryd.underlying27 hv
  obtain ⟨fuel, hf⟩ := h
  obtain ⟨y0, y1, m, hx, hl, hy0, hy1⟩ := trod_struct2 Tryd.underlying27 hf
  rw [cellsSt] at hsz
  match cs, hsz with
  | ⟨[c0, c1]⟩, _ =>
    rw [show (Value.agg ⟨[c0, c1]⟩).cells.toList = [c0, c1] from rfl] at hy0 hy1
    simp [cellsIn] at hy0 hy1
    obtain ⟨a, e0, _, _⟩ := DataW.trod_int Tryd.underlying3 hy0
    obtain ⟨c, e1, _, _⟩ := DataW.trod_int Tryd.underlying3 hy1
    simp at e0 e1
    subst e0 e1
    exact ⟨a, c, rfl⟩
end Go.Proofs.YtckejldbbkibhaaDoor
