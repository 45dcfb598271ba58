/- A store of views in memory (package view, Store): its one block of 21 cells, and that of the row; what a deed changes in it. No walk. Whether a deed may be (package view, isDeed), a new store, and what is read (read). -/
import Derived.Test.YtajiichehffaaaaDoorBVa
import Derived.Test.YtajiichehffaaaaDoorFrm
import Derived.Test.YtajiichehffaaaaDoorDee
import Derived.Test.YtajiichehffaaaaDoorBFt
import Derived.BigRegion
import Derived.BigQuiet
namespace Go.Proofs.YtajiichehffaaaaDoor
open Go.RowKit
/-- Cell k of a store: of each transaction what it is doing, what it sees, read, wrote; the row. -/
def vwF (s : M.Vw) (v : Value) (k : Nat) : Value :=
  if k < 20 then (if k % 4 = 0 then .int .i64 (s.dg (k / 4) : Nat) else if k % 4 = 1 then .int .i64 (s.se (k / 4) : Nat) else if k % 4 = 2 then .int .i64 (s.rd (k / 4) : Nat) else .int .i64 (s.wr (k / 4) : Nat)) else v
structure VVr (w : World) (S : Nat) (s : M.Vw) (v : Value) : Prop where
  blk : w.rowIs S 57 21 (vwF s v)
  row : w.ownsRow 0 3 1 v s.ro.length (icells s.ro)
/-- A store, both of whose blocks are in O. -/
def VV (O : Nat → Prop) (S : Nat) (s : M.Vw) (w : World) : Prop := ∃ v, VVr w S s v ∧ O S ∧ ∀ g, v.ownBlock = some g → O g
section
variable {w w' : World} {S : Nat} {s : M.Vw} {v : Value}
theorem vwF_dg (s : M.Vw) (v : Value) {t : Nat} (ht : t < 5) : vwF s v (t * 4) = .int .i64 (s.dg t : Nat) := by
  unfold vwF; rw [if_pos (by omega), if_pos (by omega), show t * 4 / 4 = t by omega]
theorem vwF_se (s : M.Vw) (v : Value) {t : Nat} (ht : t < 5) : vwF s v (t * 4 + 1) = .int .i64 (s.se t : Nat) := by
  unfold vwF; rw [if_pos (by omega), if_neg (by omega), if_pos (by omega), show (t * 4 + 1) / 4 = t by omega]
theorem vwF_rd (s : M.Vw) (v : Value) {t : Nat} (ht : t < 5) : vwF s v (t * 4 + 2) = .int .i64 (s.rd t : Nat) := by
  unfold vwF; rw [if_pos (by omega), if_neg (by omega), if_neg (by omega), if_pos (by omega), show (t * 4 + 2) / 4 = t by omega]
theorem vwF_wr (s : M.Vw) (v : Value) {t : Nat} (ht : t < 5) : vwF s v (t * 4 + 3) = .int .i64 (s.wr t : Nat) := by
  unfold vwF; rw [if_pos (by omega), if_neg (by omega), if_neg (by omega), if_neg (by omega), show (t * 4 + 3) / 4 = t by omega]
theorem VVr.lt (h : VVr w S s v) : S < w.heap.size := h.blk.lt
theorem VVr.dg (h : VVr w S s v) {t : Nat} (ht : t < 5) : w.cell? ⟨S, t * 4, none⟩ = some (.int .i64 (s.dg t : Nat)) := by rw [h.blk.cell (i := t * 4) (by omega), vwF_dg _ _ ht]
theorem VVr.se (h : VVr w S s v) {t : Nat} (ht : t < 5) : w.cell? ⟨S, t * 4 + 1, none⟩ = some (.int .i64 (s.se t : Nat)) := by rw [h.blk.cell (i := t * 4 + 1) (by omega), vwF_se _ _ ht]
theorem VVr.rd (h : VVr w S s v) {t : Nat} (ht : t < 5) : w.cell? ⟨S, t * 4 + 2, none⟩ = some (.int .i64 (s.rd t : Nat)) := by rw [h.blk.cell (i := t * 4 + 2) (by omega), vwF_rd _ _ ht]
theorem VVr.wr (h : VVr w S s v) {t : Nat} (ht : t < 5) : w.cell? ⟨S, t * 4 + 3, none⟩ = some (.int .i64 (s.wr t : Nat)) := by rw [h.blk.cell (i := t * 4 + 3) (by omega), vwF_wr _ _ ht]
theorem VVr.ro (h : VVr w S s v) : w.cell? ⟨S, 20, none⟩ = some v := h.blk.cell (i := 20) (by omega)
theorem VVr.fz (h : VVr w S s v) (i : Nat) : w.frozen? ⟨S, i, none⟩ = false := h.blk.frozen i
theorem VVr.neS (h : VVr w S s v) : v.ownBlock ≠ some S := rowIs_owns h.blk h.row (by decide)
theorem VVr.at_ (h : VVr w S s v) (hb : ∀ k, k < w.heap.size → (k = S ∨ v.ownBlock = some k) → w'.heap[k]? = w.heap[k]?) : VVr w' S s v :=
  ⟨h.blk.of_block (hb S h.lt (.inl rfl)), owns_blk h.row (fun g hg => hb g (h.row.lt g hg).2 (.inr hg))⟩
theorem VVr.below (h : VVr w S s v) (hb : Below w.heap.size w w') : VVr w' S s v := h.at_ (fun k hk _ => hb.block k hk)
/-- a store into the block, not of the row -/
theorem VVr.set (h : VVr w S s v) {i : Nat} {u : Value} {s' : M.Vw} (ha : s'.ro = s.ro) (e : ∀ k, k < 21 → (if k = i then u else vwF s v k) = vwF s' v k) : VVr (w.setCell ⟨S, i, none⟩ u) S s' v := by
  refine ⟨(World.rowIs.set h.blk _ _).congr e, ?_⟩
  rw [ha]
  exact owns_blk h.row (fun g hg => Below.heap_setCell _ _ _ _ (fun x => h.neS (hg.trans (congrArg some x))))
/-- two states that differ in one number of one transaction -/
theorem vwF_at {s s' : M.Vw} {v u : Value} {t r : Nat} (_ : r < 4) (h0 : ∀ x, x ≠ t ∨ r ≠ 0 → s'.dg x = s.dg x) (h1 : ∀ x, x ≠ t ∨ r ≠ 1 → s'.se x = s.se x) (h2 : ∀ x, x ≠ t ∨ r ≠ 2 → s'.rd x = s.rd x) (h3 : ∀ x, x ≠ t ∨ r ≠ 3 → s'.wr x = s.wr x) (hu : vwF s' v (t * 4 + r) = u) : ∀ k, k < 21 → (if k = t * 4 + r then u else vwF s v k) = vwF s' v k := fun k hk => by
  by_cases e : k = t * 4 + r
  · rw [if_pos e, e, hu]
  · rw [if_neg e]
    unfold vwF
    by_cases c : k < 20
    · rw [if_pos c, if_pos c]
      by_cases c0 : k % 4 = 0
      · rw [if_pos c0, if_pos c0, h0 _ (by omega)]
      · rw [if_neg c0, if_neg c0]
        by_cases c1 : k % 4 = 1
        · rw [if_pos c1, if_pos c1, h1 _ (by omega)]
        · rw [if_neg c1, if_neg c1]
          by_cases c2 : k % 4 = 2
          · rw [if_pos c2, if_pos c2, h2 _ (by omega)]
          · rw [if_neg c2, if_neg c2, h3 _ (by omega)]
    · rw [if_neg c, if_neg c]
/-- what it is doing is stored -/
theorem VVr.setDg (h : VVr w S s v) {t : Nat} (ht : t < 5) (n : Nat) : VVr (w.setCell ⟨S, t * 4, none⟩ (.int .i64 (n : Nat))) S { s with dg := M.up1 s.dg t n } v :=
  h.set rfl (vwF_at (s' := { s with dg := M.up1 s.dg t n }) (r := 0) (by omega) (fun x hx => M.up1_other _ _ (by omega)) (fun _ _ => rfl) (fun _ _ => rfl) (fun _ _ => rfl) (by rw [Nat.add_zero, vwF_dg _ _ ht]; show Value.int .i64 ((M.up1 s.dg t n t : Nat) : Int) = _; rw [M.up1_same]))
theorem VVr.setSe (h : VVr w S s v) {t : Nat} (ht : t < 5) (n : Nat) : VVr (w.setCell ⟨S, t * 4 + 1, none⟩ (.int .i64 (n : Nat))) S { s with se := M.up1 s.se t n } v :=
  h.set rfl (vwF_at (s' := { s with se := M.up1 s.se t n }) (r := 1) (by omega) (fun _ _ => rfl) (fun x hx => M.up1_other _ _ (by omega)) (fun _ _ => rfl) (fun _ _ => rfl) (by rw [vwF_se _ _ ht]; show Value.int .i64 ((M.up1 s.se t n t : Nat) : Int) = _; rw [M.up1_same]))
theorem VVr.setRd (h : VVr w S s v) {t : Nat} (ht : t < 5) (n : Nat) : VVr (w.setCell ⟨S, t * 4 + 2, none⟩ (.int .i64 (n : Nat))) S { s with rd := M.up1 s.rd t n } v :=
  h.set rfl (vwF_at (s' := { s with rd := M.up1 s.rd t n }) (r := 2) (by omega) (fun _ _ => rfl) (fun _ _ => rfl) (fun x hx => M.up1_other _ _ (by omega)) (fun _ _ => rfl) (by rw [vwF_rd _ _ ht]; show Value.int .i64 ((M.up1 s.rd t n t : Nat) : Int) = _; rw [M.up1_same]))
theorem VVr.setWr (h : VVr w S s v) {t : Nat} (ht : t < 5) (n : Nat) : VVr (w.setCell ⟨S, t * 4 + 3, none⟩ (.int .i64 (n : Nat))) S { s with wr := M.up1 s.wr t n } v :=
  h.set rfl (vwF_at (s' := { s with wr := M.up1 s.wr t n }) (r := 3) (by omega) (fun _ _ => rfl) (fun _ _ => rfl) (fun _ _ => rfl) (fun x hx => M.up1_other _ _ (by omega)) (by rw [vwF_wr _ _ ht]; show Value.int .i64 ((M.up1 s.wr t n t : Nat) : Int) = _; rw [M.up1_same]))
/-- the row is stored, one longer -/
theorem VVr.did {w1 : World} {s' : M.Vw} {u : Value} (h : VVr w S s v) (h0 : s'.dg = s.dg) (h1 : s'.se = s.se) (h2 : s'.rd = s.rd) (h3 : s'.wr = s.wr) (hgr : ∀ k, k < w.heap.size → v.ownBlock ≠ some k → w1.heap[k]? = w.heap[k]?) (hown : w1.ownsRow 0 3 1 u s'.ro.length (icells s'.ro)) : VVr (w1.setCell ⟨S, 20, none⟩ u) S s' u := by
  have hb1 := h.blk.of_block (w' := w1) (hgr S h.lt h.neS)
  have hu : u.ownBlock ≠ some S := rowIs_owns hb1 hown (by decide)
  refine ⟨(World.rowIs.set hb1 _ _).congr fun i hi => ?_, owns_blk hown (fun g hg => Below.heap_setCell _ _ _ _ (fun x => hu (hg.trans (congrArg some x))))⟩
  unfold vwF
  rw [h0, h1, h2, h3]
  by_cases e : i = 20
  · subst e; rfl
  · rw [if_neg e, if_pos (show i < 20 by omega), if_pos (show i < 20 by omega)]
variable {O : Nat → Prop}
theorem VV.below (h : VV O S s w) (hb : Below w.heap.size w w') : VV O S s w' := by
  obtain ⟨v, h1, h2⟩ := h
  exact ⟨v, h1.below hb, h2⟩
theorem VV.mono {O' : Nat → Prop} (h : VV O S s w) (e : ∀ k, k < w.heap.size → O k → O' k) : VV O' S s w := by
  obtain ⟨v, h1, h2, h3⟩ := h
  exact ⟨v, h1, e S h1.lt h2, fun g hg => e g (h1.row.lt g hg).2 (h3 g hg)⟩
theorem VV.frm {O' : Nat → Prop} (h : VV O S s w) (hf : Frm O' w w') (e : ∀ k, O k → ¬ O' k) : VV O S s w' := by
  obtain ⟨v, h1, h2, h3⟩ := h
  refine ⟨v, h1.at_ (fun k hk hh => hf.block k hk ?_), h2, h3⟩
  rcases hh with rfl | hh
  · exact e _ h2
  · exact e _ (h3 _ hh)
theorem VV.heap (h : VV O S s w) (e : w'.heap = w.heap) : VV O S s w' := by
  obtain ⟨v, h1, h2⟩ := h
  exact ⟨v, h1.at_ (fun k _ _ => by rw [e]), h2⟩
theorem VV.lt (h : VV O S s w) : S < w.heap.size := by obtain ⟨v, h1, _⟩ := h; exact h1.lt
theorem VV.own (h : VV O S s w) : O S := by obtain ⟨v, h1, h2, _⟩ := h; exact h2
/-- what a walk takes of a store: the address of its row -/
theorem VV.parts (h : VV O S s w) : ∃ p c, VVr w S s (.slice p s.ro.length c) ∧ HasI (ints s.ro) p w ∧ O S ∧ ∀ g, (Value.slice p s.ro.length c).ownBlock = some g → O g := by
  obtain ⟨v, h1, h2, h3⟩ := h
  obtain ⟨p, c, rfl⟩ := owns_slice h1.row
  exact ⟨p, c, h1, hasI_of_owns rfl h1.row, h2, h3⟩
end
theorem vw_new (w : World) : VVr (w.alloc (.cells #[.int .i64 0, .int .i64 0, .int .i64 0, .int .i64 0, .int .i64 0, .int .i64 0, .int .i64 0, .int .i64 0, .int .i64 0, .int .i64 0, .int .i64 0, .int .i64 0, .int .i64 0, .int .i64 0, .int .i64 0, .int .i64 0, .int .i64 0, .int .i64 0, .int .i64 0, .int .i64 0, .slice none 0 0] 57)) w.heap.size M.vw0 (.slice none 0 0) := by
  refine ⟨World.rowIs_alloc w #[.int .i64 0, .int .i64 0, .int .i64 0, .int .i64 0, .int .i64 0, .int .i64 0, .int .i64 0, .int .i64 0, .int .i64 0, .int .i64 0, .int .i64 0, .int .i64 0, .int .i64 0, .int .i64 0, .int .i64 0, .int .i64 0, .int .i64 0, .int .i64 0, .int .i64 0, .int .i64 0, .slice none 0 0] _ _ (fun i hi => ?_), World.ownsRow_nil _ _ _ _⟩
  have hi' : i < 21 := hi
  rcases Nat.lt_or_ge i 20 with c | c
  · have e1 : vwF M.vw0 (.slice none 0 0) i = .int .i64 0 := by
      unfold vwF M.vw0
      rw [if_pos c]
      split
      · rfl
      · split
        · rfl
        · split <;> rfl
    rw [e1]
    have : i = 0 ∨ i = 1 ∨ i = 2 ∨ i = 3 ∨ i = 4 ∨ i = 5 ∨ i = 6 ∨ i = 7 ∨ i = 8 ∨ i = 9 ∨ i = 10 ∨ i = 11 ∨ i = 12 ∨ i = 13 ∨ i = 14 ∨ i = 15 ∨ i = 16 ∨ i = 17 ∨ i = 18 ∨ i = 19 := by omega
    rcases this with rfl | rfl | rfl | rfl | rfl | rfl | rfl | rfl | rfl | rfl | rfl | rfl | rfl | rfl | rfl | rfl | rfl | rfl | rfl | rfl <;> rfl
  · obtain rfl : i = 20 := by omega
    rfl
end Go.Proofs.YtajiichehffaaaaDoor
namespace Go.Proofs.YtajiichehffaaaaDoor
open Go.RowKit

/-- may the numbers of a deed be? -/
def vdIn (k t i x : Int) : Bool := decide (3 ≤ k ∧ k ≤ 5) && thingZ t 5 && (decide (k ≠ 3) || (thingZ i 4 && thingZ x 2))
abbrev dvV (k t i x : Int) : Value := .agg #[.int .i64 k, .int .i64 t, .int .i64 i, .int .i64 x]
set_option maxHeartbeats 2000000 in
theorem visDeed_ok (k t i x : Int) (w : World) : Calls Tryd.prog 23 #[dvV k t i x] w fun e w' => e = .returned (.bool (vdIn k t i x)) ∧ Below w.heap.size w w' := by
  have F : ∀ o, Hid (Below w.heap.size w (w.alloc o)) := fun o => bel_al (Below.refl _ _) o
  by_cases h1 : k < 3
  · have e : vdIn k t i x = false := by unfold vdIn; rw [decide_eq_false (by omega)]; rfl
    rw [e]
    clear e
    go_enter Tryd.func23, Tryd.ntmps23
    go_wp2_with fail
    go_ret
    exact ⟨rfl, (F _).out⟩
  by_cases h2 : 5 < k
  · have e : vdIn k t i x = false := by unfold vdIn; rw [decide_eq_false (by omega)]; rfl
    rw [e]
    have h1' : 3 ≤ k := by omega
    clear e h1
    go_enter Tryd.func23, Tryd.ntmps23
    go_wp2_with fail
    go_ret
    exact ⟨rfl, (F _).out⟩
  have hk0 : 3 ≤ k := by omega
  have hk3 : k ≤ 5 := by omega
  have e0 : Hid (vdIn k t i x = (thingZ t 5 && (decide (k ≠ 3) || (thingZ i 4 && thingZ x 2)))) := by
    show _ = _
    unfold vdIn; rw [decide_eq_true ⟨hk0, hk3⟩]; simp
  have c1 := fun w' => isThing_z t 5 w'
  have c2 := fun w' => isThing_z i 4 w'
  have c3 := fun w' => isThing_z x 2 w'
  obtain ⟨b1, hb1⟩ : ∃ b, thingZ t 5 = b := ⟨_, rfl⟩
  obtain ⟨b2, hb2⟩ : ∃ b, thingZ i 4 = b := ⟨_, rfl⟩
  obtain ⟨b3, hb3⟩ : ∃ b, thingZ x 2 = b := ⟨_, rfl⟩
  rw [hb1] at c1
  rw [hb2] at c2
  rw [hb3] at c3
  rw [hb1, hb2, hb3] at e0
  clear h1 h2 hb1 hb2 hb3
  cases b1 with
  | false =>
    go_enter Tryd.func23, Tryd.ntmps23
    go_wp2_with fail
    refine (c1 _).mono ?_
    rintro e w' ⟨rfl, rfl⟩
    go_wp2_with fail
    go_ret
    exact ⟨by rw [e0.out]; rfl, (F _).out⟩
  | true =>
  by_cases h3 : k = 3
  · subst h3
    cases b2 with
    | false =>
      go_enter Tryd.func23, Tryd.ntmps23
      go_wp2_with fail
      refine (c1 _).mono ?_
      rintro e w' ⟨rfl, rfl⟩
      go_wp2_with fail
      refine (c2 _).mono ?_
      rintro e w' ⟨rfl, rfl⟩
      go_wp2_with fail
      go_ret
      exact ⟨by rw [e0.out]; rfl, (F _).out⟩
    | true =>
      have e1 : Hid (vdIn 3 t i x = b3) := by show _ = _; rw [e0.out]; simp
      clear e0
      go_enter Tryd.func23, Tryd.ntmps23
      go_wp2_with fail
      refine (c1 _).mono ?_
      rintro e w' ⟨rfl, rfl⟩
      go_wp2_with fail
      refine (c2 _).mono ?_
      rintro e w' ⟨rfl, rfl⟩
      go_wp2_with fail
      refine (c3 _).mono ?_
      rintro e w' ⟨rfl, rfl⟩
      go_wp2_with fail
      go_ret
      exact ⟨by rw [e1.out]; rfl, (F _).out⟩
  · have e1 : Hid (vdIn k t i x = true) := by show _ = _; rw [e0.out]; simp [h3]
    have h3' : (k == 3) = false := by simp [h3]
    have h3n : (k != 3) = true := by simp [h3]
    clear e0 h3
    go_enter Tryd.func23, Tryd.ntmps23
    go_wp2_with fail
    refine (c1 _).mono ?_
    rintro e w' ⟨rfl, rfl⟩
    go_wp2_with fail
    go_ret
    exact ⟨by rw [e1.out]; rfl, (F _).out⟩
theorem vnew_ok {O : Nat → Prop} (w : World) (hO : O w.heap.size) :
    Calls Tryd.prog 8 #[] w fun e w' => ∃ S, S = w.heap.size ∧ e = .returned (.pointer (some ⟨S, 0, none⟩)) ∧ VV O S M.vw0 w' ∧ Below w.heap.size w w' := by
  go_enter Tryd.func8, Tryd.ntmps8
  go_wp2_with fail
  go_ret
  exact ⟨_, rfl, rfl, ⟨_, vw_new w, hO, fun g h => by simp [Value.ownBlock] at h⟩, bel_al (Below.refl _ _) _⟩
theorem belowEq {N : Nat} {a b : World} (e : b.heap = a.heap) (e1 : b.os = a.os) (e2 : b.tape = a.tape) (e3 : b.output = a.output) : Below N a b :=
  { os := e1, tape := e2, output := e3, size := by rw [e]; exact Nat.le_refl _, block := fun _ _ => by rw [e] }
theorem belowOn {N : Nat} {a b c : World} (h : Below N a b) (e : c.heap = b.heap) (e1 : c.os = b.os) (e2 : c.tape = b.tape) (e3 : c.output = b.output) : Below N a c :=
  { os := e1.trans h.os, tape := e2.trans h.tape, output := e3.trans h.output, size := by rw [e]; exact h.size, block := fun i hi => by rw [e]; exact h.block i hi }
/-! ### what is read -/
theorem one16 (o : Nat) : (2 : Int) ^ o = ((1 <<< o : Nat) : Int) := by rw [Nat.shiftLeft_eq, Nat.one_mul]; simp
set_option maxHeartbeats 2000000 in
theorem vread_own {O : Nat → Prop} {S : Nat} {s : M.Vw} (t o : Nat) (w : World) (h : VV O S s w) (hI : M.VI s) (ht : t < 5) (ho : o < 4) (hw : (s.wr t).testBit o = true) :
    Calls Tryd.prog 25 #[.pointer (some ⟨S, 0, none⟩), .int .i64 (t : Nat), .int .i64 (o : Nat)] w fun e w' => e = .returned (.int .i64 (t : Nat)) ∧ w = w' := by
  obtain ⟨p, c, h1, _⟩ := h.parts
  have l1 := h1.lt
  have c3 := h1.wr ht
  have hh := fun W => has_any (s.wr t) o W (by have := hI.wb t; omega) (by omega)
  obtain ⟨x, hx⟩ : ∃ x, s.wr t = x := ⟨_, rfl⟩
  rw [hw] at hh
  rw [hx] at hh c3
  have hti : (t : Int) < 5 := by omega
  clear hx hw h1 h hI
  go_enter Tryd.func25, Tryd.ntmps25
  go_wp2_with fail
  refine (hh _).mono ?_
  rintro e w' ⟨rfl, rfl⟩
  go_wp2_with fail
  go_ret
  exact ⟨rfl, rfl⟩
set_option maxRecDepth 100000 in
set_option maxHeartbeats 4000000 in
theorem vread_ok {O : Nat → Prop} {S : Nat} {s : M.Vw} (t o : Nat) (w : World) (h : VV O S s w) (hI : M.VI s) (ht : t < 5) (ho : o < 4) (hw : (s.wr t).testBit o = false) :
    Calls Tryd.prog 25 #[.pointer (some ⟨S, 0, none⟩), .int .i64 (t : Nat), .int .i64 (o : Nat)] w fun e w' => e = .returned (.int .i64 (M.lastW s o (s.se t))) ∧ VV O S (M.vRd s t o) w' ∧ Frm O w w' := by
  obtain ⟨p, c, h1, hrow, hOS, hOv⟩ := h.parts
  have l1 := h1.lt
  have c3 := h1.wr ht
  have c2 := h1.rd ht
  have c1 := h1.se ht
  have cr := h1.ro
  have fz := h1.fz (t * 4 + 2)
  have hh := fun W => has_any (s.wr t) o W (by have := hI.wb t; omega) (by omega)
  have hti : (t : Int) < 5 := by omega
  have hor := i64_or_nat (s.rd t) (1 <<< o) (by have := hI.rb t; omega) (by have := M.one_lt16 ho; omega)
  have hsh : IntKind.i64.wrap (2 ^ o) = ((1 <<< o : Nat) : Int) := i64_shl o (by omega)
  obtain ⟨w1, hw1⟩ : ∃ w1, w.setCell ⟨S, t * 4 + 2, none⟩ (.int .i64 (s.rd t ||| 1 <<< o : Nat)) = w1 := ⟨_, rfl⟩
  have V1 : VVr w1 S (M.vRd s t o) (.slice p s.ro.length c) := by rw [← hw1]; exact h1.setRd ht _
  have FV : Hid (VV O S (M.vRd s t o) w1 ∧ Frm O w w1) := ⟨⟨_, V1, hOS, hOv⟩, by rw [← hw1]; exact (Frm.refl O w).set (p := ⟨S, t * 4 + 2, none⟩) hOS _⟩
  have m1 := V1.se ht
  have mr : w1.cell? ⟨S, 20, none⟩ = some (.slice p s.ro.length c) := V1.ro
  have ml := V1.lt
  have mh : HasI (ints s.ro) p w1 := hasI_of_owns rfl V1.row
  have mw : Hid (∀ u, u < 5 → w1.cell? ⟨S, u * 4 + 3, none⟩ = some (.int .i64 (s.wr u : Nat))) := fun u hu => V1.wr hu
  have H2 : Hid (∀ u, u < 5 → s.wr u < 16) := fun u _ => hI.wb u
  have H5 : Hid (∀ i, i < s.ro.length → M.row s.ro i < 5) := fun i hi => hI.row5 hi
  have hse := hI.se t
  have hsl := hI.len
  have m1' : w1.cell? ⟨S, t * 4 + 1, none⟩ = some (.int .i64 (s.se t : Nat)) := m1
  obtain ⟨x, hx⟩ : ∃ x, s.wr t = x := ⟨_, rfl⟩
  obtain ⟨y, hy⟩ : ∃ y, s.rd t = y := ⟨_, rfl⟩
  obtain ⟨z, hz⟩ : ∃ z, s.se t = z := ⟨_, rfl⟩
  obtain ⟨L, hL⟩ : ∃ L, s.ro.length = L := ⟨_, rfl⟩
  obtain ⟨q, hq⟩ : ∃ q, 1 <<< o = q := ⟨_, rfl⟩
  rw [hw] at hh
  rw [hx] at hh c3
  rw [hy, hq] at hor hw1
  rw [hy] at c2
  rw [hz] at m1' hse c1 ⊢
  rw [hL] at mr hse hsl cr H5
  rw [hq] at hsh
  obtain ⟨r, hr⟩ : ∃ r, y ||| q = r := ⟨_, rfl⟩
  rw [hr] at hor hw1
  clear hx hy hz hq hr hw h1 h hI V1 hrow m1
  go_enter Tryd.func25, Tryd.ntmps25
  go_wp2_with fail
  refine (hh _).mono ?_
  rintro e w' ⟨rfl, rfl⟩
  go_wp2_with fail
  go_region
  clear c1 c2 c3 cr fz hh hor hsh
  go_wp2_with fail
  go_loopw [8] (fun u wr => ∃ m : Nat, u = .int .i64 ((m : Int) - 1) ∧ m ≤ z ∧ Hid (M.lastW s o z = M.lastW s o m) ∧ Hid (Below w1.heap.size w1 wr)) (fun u _ => (intOf u + 1).toNat)
  case atStart => exact ⟨z, by go_num, Nat.le_refl _, (rfl : M.lastW s o z = _), belowEq rfl rfl rfl rfl⟩
  case round =>
    obtain ⟨m, rfl, hm, hL, hB⟩ := hrel
    have hcr := (hB.out.cell (p := ⟨S, 20, none⟩) ml).trans mr
    have hls : S < wr.heap.size := by have := hB.out.size; omega
    rcases m with _ | m
    · have hm0 : ((0 : Nat) : Int) - 1 = -1 := by omega
      rw [hm0]
      have HL : Hid (M.lastW s o z = -1) := (hL.out.trans rfl : M.lastW s o z = -1)
      clear hm0 hcr
      go_wp2_with fail
      go_ret
      exact ⟨by rw [HL.out]; rfl, FV.out.1.below hB.out, FV.out.2.trans (Frm.of_below hB.out)⟩
    · have hm0 : ((m + 1 : Nat) : Int) - 1 = (m : Int) := by omega
      rw [hm0]
      have hms : m < L := by omega
      obtain ⟨b, off, rfl, hb, hcell⟩ := mh.later hB.out m (by rw [ints_length]; omega)
      rw [ints_get] at hcell
      have hu5 := H5.out m hms
      have hcu := (hB.out.cell (p := ⟨S, M.row s.ro m * 4 + 3, none⟩) ml).trans (mw.out _ hu5)
      have hq := fun W => has_any (s.wr (M.row s.ro m)) o W (by have := H2.out _ hu5; omega) (by omega)
      have hst : M.lastW s o (m + 1) = if (s.wr (M.row s.ro m)).testBit o = true then ((M.row s.ro m : Nat) : Int) else M.lastW s o m := rfl
      obtain ⟨u, hu⟩ : ∃ u, M.row s.ro m = u := ⟨_, rfl⟩
      rw [hu] at hcell hu5 hcu hq hst
      obtain ⟨x, hx⟩ : ∃ x, s.wr u = x := ⟨_, rfl⟩
      rw [hx] at hcu hq hst
      have hui : (u : Int) < 5 := by omega
      have hmi : (m : Int) < L := by omega
      clear hu hx
      cases e : x.testBit o with
      | true =>
        rw [e] at hq hst
        have HL : Hid (M.lastW s o z = (u : Nat)) := hL.out.trans (hst.trans (if_pos rfl))
        clear e hst hm0
        go_wp2_with fail
        go_big_quiet ((go_at_call 41; exact Calls.quiet_of_same ((hq _).mono (fun e w' h => ⟨h.1, h.2.symm⟩))))
        go_wp2_with fail
        go_ret
        exact ⟨by rw [HL.out]; rfl, (FV.out.1.below hB.out).heap rfl, (FV.out.2.trans (Frm.of_below hB.out)).heap rfl rfl rfl rfl⟩
      | false =>
        rw [e] at hq hst
        have HL : Hid (M.lastW s o z = M.lastW s o m) := hL.out.trans (hst.trans (if_neg (by simp)))
        clear e hst hm0
        go_wp2_with fail
        go_big_quiet ((go_at_call 41; exact Calls.quiet_of_same ((hq _).mono (fun e w' h => ⟨h.1, h.2.symm⟩))))
        go_wp2_with fail
        go_roundw
        case rel => exact ⟨m, by go_num, by omega, HL, belowOn hB.out rfl rfl rfl rfl⟩
        case measure => simp [intOf]
end Go.Proofs.YtajiichehffaaaaDoor
