/- A store of views in memory (package view, Store): its one block of 21 cells, and that of the row; what a deed changes in it. No walk. -/
import Derived.Test.YtajiichehffaaaaDoorVw0
import Derived.Test.YtajiichehffaaaaDoorFrm
namespace Go.Proofs.YtajiichehffaaaaDoor
open Go.RowKit
/-- Cell k of a store: of each transaction what it is doing, what it sees, read, wrote; the row. -/
def vwF (s : M.Vw) (v : Value) (k : Nat) : Value :=
  if k < 20 then (if k % 4 = 0 then .int .i64 (s.dg (k / 4) : Nat) else if k % 4 = 1 then .int .i64 (s.se (k / 4) : Nat) else if k % 4 = 2 then .int .i64 (s.rd (k / 4) : Nat) else .int .i64 (s.wr (k / 4) : Nat)) else v
structure VVr (w : World) (S : Nat) (s : M.Vw) (v : Value) : Prop where
  blk : w.rowIs S 57 21 (vwF s v)
  row : w.ownsRow 0 3 1 v s.ro.length (icells s.ro)
/-- A store, both of whose blocks are in O. -/
def VV (O : Nat → Prop) (S : Nat) (s : M.Vw) (w : World) : Prop := ∃ v, VVr w S s v ∧ O S ∧ ∀ g, v.ownBlock = some g → O g
section
variable {w w' : World} {S : Nat} {s : M.Vw} {v : Value}
theorem vwF_dg (s : M.Vw) (v : Value) {t : Nat} (ht : t < 5) : vwF s v (t * 4) = .int .i64 (s.dg t : Nat) := by
  unfold vwF; rw [if_pos (by omega), if_pos (by omega), show t * 4 / 4 = t by omega]
theorem vwF_se (s : M.Vw) (v : Value) {t : Nat} (ht : t < 5) : vwF s v (t * 4 + 1) = .int .i64 (s.se t : Nat) := by
  unfold vwF; rw [if_pos (by omega), if_neg (by omega), if_pos (by omega), show (t * 4 + 1) / 4 = t by omega]
theorem vwF_rd (s : M.Vw) (v : Value) {t : Nat} (ht : t < 5) : vwF s v (t * 4 + 2) = .int .i64 (s.rd t : Nat) := by
  unfold vwF; rw [if_pos (by omega), if_neg (by omega), if_neg (by omega), if_pos (by omega), show (t * 4 + 2) / 4 = t by omega]
theorem vwF_wr (s : M.Vw) (v : Value) {t : Nat} (ht : t < 5) : vwF s v (t * 4 + 3) = .int .i64 (s.wr t : Nat) := by
  unfold vwF; rw [if_pos (by omega), if_neg (by omega), if_neg (by omega), if_neg (by omega), show (t * 4 + 3) / 4 = t by omega]
theorem VVr.lt (h : VVr w S s v) : S < w.heap.size := h.blk.lt
theorem VVr.dg (h : VVr w S s v) {t : Nat} (ht : t < 5) : w.cell? ⟨S, t * 4, none⟩ = some (.int .i64 (s.dg t : Nat)) := by rw [h.blk.cell (i := t * 4) (by omega), vwF_dg _ _ ht]
theorem VVr.se (h : VVr w S s v) {t : Nat} (ht : t < 5) : w.cell? ⟨S, t * 4 + 1, none⟩ = some (.int .i64 (s.se t : Nat)) := by rw [h.blk.cell (i := t * 4 + 1) (by omega), vwF_se _ _ ht]
theorem VVr.rd (h : VVr w S s v) {t : Nat} (ht : t < 5) : w.cell? ⟨S, t * 4 + 2, none⟩ = some (.int .i64 (s.rd t : Nat)) := by rw [h.blk.cell (i := t * 4 + 2) (by omega), vwF_rd _ _ ht]
theorem VVr.wr (h : VVr w S s v) {t : Nat} (ht : t < 5) : w.cell? ⟨S, t * 4 + 3, none⟩ = some (.int .i64 (s.wr t : Nat)) := by rw [h.blk.cell (i := t * 4 + 3) (by omega), vwF_wr _ _ ht]
theorem VVr.ro (h : VVr w S s v) : w.cell? ⟨S, 20, none⟩ = some v := h.blk.cell (i := 20) (by omega)
theorem VVr.fz (h : VVr w S s v) (i : Nat) : w.frozen? ⟨S, i, none⟩ = false := h.blk.frozen i
theorem VVr.neS (h : VVr w S s v) : v.ownBlock ≠ some S := rowIs_owns h.blk h.row (by decide)
theorem VVr.at_ (h : VVr w S s v) (hb : ∀ k, k < w.heap.size → (k = S ∨ v.ownBlock = some k) → w'.heap[k]? = w.heap[k]?) : VVr w' S s v :=
  ⟨h.blk.of_block (hb S h.lt (.inl rfl)), owns_blk h.row (fun g hg => hb g (h.row.lt g hg).2 (.inr hg))⟩
theorem VVr.below (h : VVr w S s v) (hb : Below w.heap.size w w') : VVr w' S s v := h.at_ (fun k hk _ => hb.block k hk)
/-- a store into the block, not of the row -/
theorem VVr.set (h : VVr w S s v) {i : Nat} {u : Value} {s' : M.Vw} (ha : s'.ro = s.ro) (e : ∀ k, k < 21 → (if k = i then u else vwF s v k) = vwF s' v k) : VVr (w.setCell ⟨S, i, none⟩ u) S s' v := by
  refine ⟨(World.rowIs.set h.blk _ _).congr e, ?_⟩
  rw [ha]
  exact owns_blk h.row (fun g hg => Below.heap_setCell _ _ _ _ (fun x => h.neS (hg.trans (congrArg some x))))
/-- two states that differ in one number of one transaction -/
theorem vwF_at {s s' : M.Vw} {v u : Value} {t r : Nat} (_ : r < 4) (h0 : ∀ x, x ≠ t ∨ r ≠ 0 → s'.dg x = s.dg x) (h1 : ∀ x, x ≠ t ∨ r ≠ 1 → s'.se x = s.se x) (h2 : ∀ x, x ≠ t ∨ r ≠ 2 → s'.rd x = s.rd x) (h3 : ∀ x, x ≠ t ∨ r ≠ 3 → s'.wr x = s.wr x) (hu : vwF s' v (t * 4 + r) = u) : ∀ k, k < 21 → (if k = t * 4 + r then u else vwF s v k) = vwF s' v k := fun k hk => by
  by_cases e : k = t * 4 + r
  · rw [if_pos e, e, hu]
  · rw [if_neg e]
    unfold vwF
    by_cases c : k < 20
    · rw [if_pos c, if_pos c]
      by_cases c0 : k % 4 = 0
      · rw [if_pos c0, if_pos c0, h0 _ (by omega)]
      · rw [if_neg c0, if_neg c0]
        by_cases c1 : k % 4 = 1
        · rw [if_pos c1, if_pos c1, h1 _ (by omega)]
        · rw [if_neg c1, if_neg c1]
          by_cases c2 : k % 4 = 2
          · rw [if_pos c2, if_pos c2, h2 _ (by omega)]
          · rw [if_neg c2, if_neg c2, h3 _ (by omega)]
    · rw [if_neg c, if_neg c]
/-- what it is doing is stored -/
theorem VVr.setDg (h : VVr w S s v) {t : Nat} (ht : t < 5) (n : Nat) : VVr (w.setCell ⟨S, t * 4, none⟩ (.int .i64 (n : Nat))) S { s with dg := M.up1 s.dg t n } v :=
  h.set rfl (vwF_at (s' := { s with dg := M.up1 s.dg t n }) (r := 0) (by omega) (fun x hx => M.up1_other _ _ (by omega)) (fun _ _ => rfl) (fun _ _ => rfl) (fun _ _ => rfl) (by rw [Nat.add_zero, vwF_dg _ _ ht]; show Value.int .i64 ((M.up1 s.dg t n t : Nat) : Int) = _; rw [M.up1_same]))
theorem VVr.setSe (h : VVr w S s v) {t : Nat} (ht : t < 5) (n : Nat) : VVr (w.setCell ⟨S, t * 4 + 1, none⟩ (.int .i64 (n : Nat))) S { s with se := M.up1 s.se t n } v :=
  h.set rfl (vwF_at (s' := { s with se := M.up1 s.se t n }) (r := 1) (by omega) (fun _ _ => rfl) (fun x hx => M.up1_other _ _ (by omega)) (fun _ _ => rfl) (fun _ _ => rfl) (by rw [vwF_se _ _ ht]; show Value.int .i64 ((M.up1 s.se t n t : Nat) : Int) = _; rw [M.up1_same]))
theorem VVr.setRd (h : VVr w S s v) {t : Nat} (ht : t < 5) (n : Nat) : VVr (w.setCell ⟨S, t * 4 + 2, none⟩ (.int .i64 (n : Nat))) S { s with rd := M.up1 s.rd t n } v :=
  h.set rfl (vwF_at (s' := { s with rd := M.up1 s.rd t n }) (r := 2) (by omega) (fun _ _ => rfl) (fun _ _ => rfl) (fun x hx => M.up1_other _ _ (by omega)) (fun _ _ => rfl) (by rw [vwF_rd _ _ ht]; show Value.int .i64 ((M.up1 s.rd t n t : Nat) : Int) = _; rw [M.up1_same]))
theorem VVr.setWr (h : VVr w S s v) {t : Nat} (ht : t < 5) (n : Nat) : VVr (w.setCell ⟨S, t * 4 + 3, none⟩ (.int .i64 (n : Nat))) S { s with wr := M.up1 s.wr t n } v :=
  h.set rfl (vwF_at (s' := { s with wr := M.up1 s.wr t n }) (r := 3) (by omega) (fun _ _ => rfl) (fun _ _ => rfl) (fun _ _ => rfl) (fun x hx => M.up1_other _ _ (by omega)) (by rw [vwF_wr _ _ ht]; show Value.int .i64 ((M.up1 s.wr t n t : Nat) : Int) = _; rw [M.up1_same]))
/-- the row is stored, one longer -/
theorem VVr.did {w1 : World} {s' : M.Vw} {u : Value} (h : VVr w S s v) (h0 : s'.dg = s.dg) (h1 : s'.se = s.se) (h2 : s'.rd = s.rd) (h3 : s'.wr = s.wr) (hgr : ∀ k, k < w.heap.size → v.ownBlock ≠ some k → w1.heap[k]? = w.heap[k]?) (hown : w1.ownsRow 0 3 1 u s'.ro.length (icells s'.ro)) : VVr (w1.setCell ⟨S, 20, none⟩ u) S s' u := by
  have hb1 := h.blk.of_block (w' := w1) (hgr S h.lt h.neS)
  have hu : u.ownBlock ≠ some S := rowIs_owns hb1 hown (by decide)
  refine ⟨(World.rowIs.set hb1 _ _).congr fun i hi => ?_, owns_blk hown (fun g hg => Below.heap_setCell _ _ _ _ (fun x => hu (hg.trans (congrArg some x))))⟩
  unfold vwF
  rw [h0, h1, h2, h3]
  by_cases e : i = 20
  · subst e; rfl
  · rw [if_neg e, if_pos (show i < 20 by omega), if_pos (show i < 20 by omega)]
variable {O : Nat → Prop}
theorem VV.below (h : VV O S s w) (hb : Below w.heap.size w w') : VV O S s w' := by
  obtain ⟨v, h1, h2⟩ := h
  exact ⟨v, h1.below hb, h2⟩
theorem VV.mono {O' : Nat → Prop} (h : VV O S s w) (e : ∀ k, k < w.heap.size → O k → O' k) : VV O' S s w := by
  obtain ⟨v, h1, h2, h3⟩ := h
  exact ⟨v, h1, e S h1.lt h2, fun g hg => e g (h1.row.lt g hg).2 (h3 g hg)⟩
theorem VV.frm {O' : Nat → Prop} (h : VV O S s w) (hf : Frm O' w w') (e : ∀ k, O k → ¬ O' k) : VV O S s w' := by
  obtain ⟨v, h1, h2, h3⟩ := h
  refine ⟨v, h1.at_ (fun k hk hh => hf.block k hk ?_), h2, h3⟩
  rcases hh with rfl | hh
  · exact e _ h2
  · exact e _ (h3 _ hh)
theorem VV.heap (h : VV O S s w) (e : w'.heap = w.heap) : VV O S s w' := by
  obtain ⟨v, h1, h2⟩ := h
  exact ⟨v, h1.at_ (fun k _ _ => by rw [e]), h2⟩
theorem VV.lt (h : VV O S s w) : S < w.heap.size := by obtain ⟨v, h1, _⟩ := h; exact h1.lt
theorem VV.own (h : VV O S s w) : O S := by obtain ⟨v, h1, h2, _⟩ := h; exact h2
/-- what a walk takes of a store: the address of its row -/
theorem VV.parts (h : VV O S s w) : ∃ p c, VVr w S s (.slice p s.ro.length c) ∧ HasI (ints s.ro) p w ∧ O S ∧ ∀ g, (Value.slice p s.ro.length c).ownBlock = some g → O g := by
  obtain ⟨v, h1, h2, h3⟩ := h
  obtain ⟨p, c, rfl⟩ := owns_slice h1.row
  exact ⟨p, c, h1, hasI_of_owns rfl h1.row, h2, h3⟩
end
theorem vw_new (w : World) : VVr (w.alloc (.cells #[.int .i64 0, .int .i64 0, .int .i64 0, .int .i64 0, .int .i64 0, .int .i64 0, .int .i64 0, .int .i64 0, .int .i64 0, .int .i64 0, .int .i64 0, .int .i64 0, .int .i64 0, .int .i64 0, .int .i64 0, .int .i64 0, .int .i64 0, .int .i64 0, .int .i64 0, .int .i64 0, .slice none 0 0] 57)) w.heap.size M.vw0 (.slice none 0 0) := by
  refine ⟨World.rowIs_alloc w #[.int .i64 0, .int .i64 0, .int .i64 0, .int .i64 0, .int .i64 0, .int .i64 0, .int .i64 0, .int .i64 0, .int .i64 0, .int .i64 0, .int .i64 0, .int .i64 0, .int .i64 0, .int .i64 0, .int .i64 0, .int .i64 0, .int .i64 0, .int .i64 0, .int .i64 0, .int .i64 0, .slice none 0 0] _ _ (fun i hi => ?_), World.ownsRow_nil _ _ _ _⟩
  have hi' : i < 21 := hi
  rcases Nat.lt_or_ge i 20 with c | c
  · have e1 : vwF M.vw0 (.slice none 0 0) i = .int .i64 0 := by
      unfold vwF M.vw0
      rw [if_pos c]
      split
      · rfl
      · split
        · rfl
        · split <;> rfl
    rw [e1]
    have : i = 0 ∨ i = 1 ∨ i = 2 ∨ i = 3 ∨ i = 4 ∨ i = 5 ∨ i = 6 ∨ i = 7 ∨ i = 8 ∨ i = 9 ∨ i = 10 ∨ i = 11 ∨ i = 12 ∨ i = 13 ∨ i = 14 ∨ i = 15 ∨ i = 16 ∨ i = 17 ∨ i = 18 ∨ i = 19 := by omega
    rcases this with rfl | rfl | rfl | rfl | rfl | rfl | rfl | rfl | rfl | rfl | rfl | rfl | rfl | rfl | rfl | rfl | rfl | rfl | rfl | rfl <;> rfl
  · obtain rfl : i = 20 := by omega
    rfl
end Go.Proofs.YtajiichehffaaaaDoor
