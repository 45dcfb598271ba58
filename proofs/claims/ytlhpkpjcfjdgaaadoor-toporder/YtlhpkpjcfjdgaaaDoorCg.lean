/- Cuts that may be, as lists of numbers. No walk. -/
import Derived.Test.YtlhpkpjcfjdgaaaDoorCt4
import Derived.Test.YtlhpkpjcfjdgaaaDoorCtc
namespace Go.Proofs.YtlhpkpjcfjdgaaaDoor
open Go.RowKit
theorem cof0_ints (c : List Nat) : M.cof0 (ints c) = c := by
  unfold M.cof0 ints
  rw [List.map_map]
  refine List.ext_getElem (by simp) fun k h1 h2 => ?_
  simp
theorem ccode_get {P : Int} {T : List (Int × Int)} {zs : List Int} (h : M.ccode P T zs = 0) : ∃ c, zs = ints c ∧ M.COk P T c := by
  obtain ⟨h1, h2, h3⟩ := M.ccode_zero.1 h
  exact ⟨M.cof0 zs, h3, h2⟩
theorem ccode_ints {P : Int} {T : List (Int × Int)} {c : List Nat} (hk : M.TOk P T) (hc : M.COk P T c) : M.ccode P T (ints c) = 0 :=
  M.ccode_zero.2 ⟨hk, by rw [cof0_ints]; exact hc, by rw [cof0_ints]; rfl⟩
theorem hasI_nat {c : List Nat} {p : Option Addr} {w : World} (h : HasI (ints c) p w) {j : Nat} (hj : j < c.length) {x : Nat} (hx : M.row c j = x) : ∃ b off, p = some ⟨b, off, none⟩ ∧ b < w.heap.size ∧ w.cell? ⟨b, off + j, none⟩ = some (.int .i64 (x : Nat)) := by
  obtain ⟨b, off, h1, h2, h3⟩ := h j (by rw [ints_length]; exact hj)
  exact ⟨b, off, h1, h2, by rw [h3, ints_get, hx]⟩
end Go.Proofs.YtlhpkpjcfjdgaaaDoor
