/- Plain mathematics of a store of views: its edges, while the row is gone along. No program text is named. -/
import Derived.Test.YtajiichehffaaaaDoorVw0
namespace Go.Proofs.YtajiichehffaaaaDoor.M
theorem mem_seg {l : List Nat} (h : l.Nodup) {i k b : Nat} : b ∈ (l.drop i).take k ↔ b ∈ l ∧ i ≤ l.idxOf b ∧ l.idxOf b < i + k := by
  constructor
  · intro hb
    obtain ⟨j, hj, rfl⟩ := List.getElem_of_mem hb
    rw [List.length_take, List.length_drop] at hj
    rw [List.getElem_take, List.getElem_drop]
    rw [h.idxOf_getElem]
    exact ⟨List.getElem_mem _, by omega, by omega⟩
  · rintro ⟨h1, h2, h3⟩
    obtain ⟨j, hj, rfl⟩ := List.getElem_of_mem h1
    rw [h.idxOf_getElem] at h2 h3
    rw [List.mem_iff_getElem]
    refine ⟨j - i, by rw [List.length_take, List.length_drop]; omega, ?_⟩
    rw [List.getElem_take, List.getElem_drop]
    congr 1
    omega
/-- what is left of what one wrote, behind those that wrote it since -/
def LfS (s : Vw) (p k lf : Nat) : Prop := lf < 16 ∧ ∀ j, lf.testBit j = ((s.wr (row s.ro p)).testBit j && ((s.ro.drop (p + 1)).take k).all fun c => !(s.wr c).testBit j)
theorem LfS.zero {s : Vw} (h : VI s) (p : Nat) : LfS s p 0 (s.wr (row s.ro p)) := ⟨h.wb _, fun j => by simp⟩
theorem seg_succ {l : List Nat} {i k : Nat} (hk : i + k < l.length) : (l.drop i).take (k + 1) = (l.drop i).take k ++ [row l (i + k)] := by
  rw [take_rowV (by rw [List.length_drop]; omega), drop_row]
theorem LfS.cut {s : Vw} {p k lf r : Nat} (h : LfS s p k lf) (hk : p + 1 + k < s.ro.length) (hr : r ≤ lf) (hb : ∀ j, r.testBit j = (lf.testBit j && !(s.wr (row s.ro (p + 1 + k))).testBit j)) : LfS s p (k + 1) r := by
  refine ⟨by have := h.1; omega, fun j => ?_⟩
  rw [hb, h.2, seg_succ hk, List.all_append]
  simp only [List.all_cons, List.all_nil, Bool.and_true, Bool.and_assoc]
theorem LfS.none {s : Vw} {p k lf : Nat} (h : LfS s p k lf) (hk : p + 1 + k < s.ro.length) (h0 : (s.wr (row s.ro (p + 1 + k)) &&& lf) = 0) : LfS s p (k + 1) lf :=
  h.cut hk (Nat.le_refl _) fun j => by
    cases e1 : lf.testBit j with
    | false => rfl
    | true =>
      cases e2 : (s.wr (row s.ro (p + 1 + k))).testBit j with
      | false => rfl
      | true => exact absurd h0 (and_ne.2 ⟨j, e2, e1⟩)
theorem nx_cond {s : Vw} (h : VI s) {p k lf : Nat} (hl : LfS s p k lf) (hk : p + 1 + k < s.ro.length) : (s.wr (row s.ro (p + 1 + k)) &&& lf) ≠ 0 ↔ nxF s (row s.ro p) (row s.ro (p + 1 + k)) = true := by
  have e1 : s.ro.idxOf (row s.ro p) = p := row_idx h.nd (by omega)
  have e2 : s.ro.idxOf (row s.ro (p + 1 + k)) = p + 1 + k := row_idx h.nd hk
  rw [nxF_iff, and_ne, e1, e2]
  constructor
  · rintro ⟨o, h1, h2⟩
    rw [hl.2, Bool.and_eq_true, List.all_eq_true] at h2
    refine ⟨o, bit16 (h.wb _) h1, h2.1, h1, fun c hc c1 c2 => ?_⟩
    have := h2.2 c ((mem_seg h.nd).2 ⟨hc, by omega, by omega⟩)
    simpa using this
  · rintro ⟨o, _, h1, h2, h3⟩
    refine ⟨o, h2, ?_⟩
    rw [hl.2, Bool.and_eq_true, List.all_eq_true]
    refine ⟨h1, fun c hc => ?_⟩
    obtain ⟨m1, m2, m3⟩ := (mem_seg h.nd).1 hc
    rw [h3 c m1 (by omega) (by omega)]; rfl
/-- of those behind a place, k of them gone along -/
theorem orS_zero (l : List Nat) (f : Nat → Bool) : orL (l.take 0) f = 0 := by rw [List.take_zero]; rfl
theorem orS_yes {l : List Nat} {f : Nat → Bool} {i k u : Nat} (hk : i + k < l.length) (hu : row l (i + k) = u) (h : f u = true) : orL ((l.drop i).take (k + 1)) f = orL ((l.drop i).take k) f ||| 1 <<< u := by
  rw [seg_succ hk, orL_snoc, hu, if_pos h]
theorem orS_no {l : List Nat} {f : Nat → Bool} {i k u : Nat} (hk : i + k < l.length) (hu : row l (i + k) = u) (h : f u = false) : orL ((l.drop i).take (k + 1)) f = orL ((l.drop i).take k) f := by
  rw [seg_succ hk, orL_snoc, hu, if_neg (by rw [h]; simp)]
theorem orS_all {l : List Nat} {f : Nat → Bool} {i k : Nat} (hk : l.length ≤ i + k) : orL ((l.drop i).take k) f = orL (l.drop i) f := by
  rw [List.take_of_length_le (by rw [List.length_drop]; omega)]
theorem VI.orS_lt {s : Vw} (h : VI s) (i k : Nat) (f : Nat → Bool) : orL ((s.ro.drop i).take k) f < 32 := orL_lt fun _ hx => h.lt5 (List.mem_of_mem_drop (List.mem_of_mem_take hx))
end Go.Proofs.YtajiichehffaaaaDoor.M
