/- Package extend's First and Is, at whatever numbers: each tells what is wrong as the document has it, else the first row, place by place, and whether a list is a row, number by number; what lay in memory lies as it lay. -/
import Derived.Test.YtlhpkpjcfjdgaaaDoorNxt
import Derived.Test.YtlhpkpjcfjdgaaaDoorSame
namespace Go.Proofs.YtlhpkpjcfjdgaaaDoor
open Go.RowKit

theorem dual_of {m : List Nat} (hm : M.Ok m) : M.Dual (M.clo m) (M.turned m) := ⟨by rw [M.clo_length, M.turned_length], fun i j => by rw [Bool.eq_iff_iff, M.turned_bit hm, M.clo_bit]⟩
theorem cloTr {m : List Nat} (hm : M.Ok m) (hr : ¬ M.Ring m) : M.Tr (M.clo m) := by
  refine ⟨fun i => ?_, fun i j k h1 h2 => ?_⟩
  · cases hb : (M.row (M.clo m) i).testBit i with
    | false => rfl
    | true => exact absurd ⟨i, (M.clo_bit m i i).1 hb⟩ hr
  · rw [M.clo_bit] at *
    exact M.clo_trans hm h1 h2
theorem nextS_pos {c t : List Nat} (hd : M.Dual c t) (hn : c.length ≤ 12) {d i : Nat} (hi : i < c.length) (h : M.nextB t d i = true) : 0 < M.nextS t d := by
  rcases Nat.eq_zero_or_pos (M.nextS t d) with h0 | h0
  · have := (M.nextS_mem (t := t) (by rw [← hd.1]; exact hn) d i).2 ⟨by rw [← hd.1]; exact hi, h⟩
    rw [h0, bits_zero] at this; cases this
  · exact h0
end Go.Proofs.YtlhpkpjcfjdgaaaDoor
