/- The document's edges of a store of views: what makes one, item by item; rows of bits as they grow; the walk's state. No walk. -/
import Derived.Test.YtajiichehffaaaaDoorRefV1
import Derived.Test.YtajiichehffaaaaDoorBFt
namespace Go.Proofs.YtajiichehffaaaaDoor
open Go.RowKit
/-! ### what makes an edge -/
def p1Z (D : List Dz) (a b o : Nat) : Prop := wrZ D a o = true ∧ wrZ D b o = true ∧ whZ D a 5 < whZ D b 5 ∧ laZ D o (whZ D b 5).toNat = ((a : Nat) : Int)
def p2Z (D : List Dz) (a b o : Nat) : Prop := wrZ D a o = true ∧ rfZ D b o = true ∧ whZ D a 5 < whZ D b 4
def p3Z (D : List Dz) (a b o : Nat) : Prop := rfZ D a o = true ∧ wrZ D b o = true ∧ whZ D a 4 < whZ D b 5
def goodZ (D : List Dz) (a b : Nat) : Prop := a ≠ b ∧ 0 ≤ whZ D a 5 ∧ 0 ≤ whZ D b 5
def fbZ (D : List Dz) (a b o : Nat) : Prop := goodZ D a b ∧ (p1Z D a b o ∨ p2Z D a b o ∨ p3Z D a b o)
def foZ (D : List Dz) (a b o : Nat) : Prop := goodZ D a b ∧ p3Z D a b o ∧ whZ D b 4 < whZ D a 5
theorem VD.com_iff {s : M.Vw} {D : List Dz} {st : Nat} (h : VD s D st) (a : Nat) : 0 ≤ whZ D a 5 ↔ s.dg a = 2 := by
  constructor
  · intro e
    apply Classical.byContradiction
    intro c
    rw [h.c0 a c] at e
    omega
  · intro e
    obtain ⟨c, _, e2, _⟩ := h.c1 a e
    omega
theorem VD.ov {s : M.Vw} {D : List Dz} {st a b : Nat} (h : VD s D st) (ha : s.dg a = 2) (hb : s.dg b = 2) (o : Nat) : p3Z D a b o ↔ (s.se a ≤ s.ro.idxOf b ∧ (s.rd a).testBit o = true ∧ (s.wr b).testBit o = true) := by
  unfold p3Z
  rw [h.rd, h.wr, (h.cb hb (show s.dg a ≠ 0 by omega)).2]
  exact ⟨fun ⟨x, y, z⟩ => ⟨z, x, y⟩, fun ⟨x, y, z⟩ => ⟨y, z, x⟩⟩
theorem VD.rdE {s : M.Vw} {D : List Dz} {st a b : Nat} (h : VD s D st) (ha : s.dg a = 2) (hb : s.dg b = 2) (o : Nat) : p2Z D a b o ↔ (s.ro.idxOf a < s.se b ∧ (s.wr a).testBit o = true ∧ (s.rd b).testBit o = true) := by
  unfold p2Z
  rw [h.rd, h.wr, (h.cb ha (show s.dg b ≠ 0 by omega)).1]
  exact ⟨fun ⟨x, y, z⟩ => ⟨z, x, y⟩, fun ⟨x, y, z⟩ => ⟨y, z, x⟩⟩
theorem VD.nxE {s : M.Vw} {D : List Dz} {st a b : Nat} (h : VD s D st) (ha : s.dg a = 2) (hb : s.dg b = 2) (o : Nat) : p1Z D a b o ↔ (s.ro.idxOf a < s.ro.idxOf b ∧ (s.wr a).testBit o = true ∧ (s.wr b).testBit o = true ∧ ∀ c, c ∈ s.ro → s.ro.idxOf a < s.ro.idxOf c → s.ro.idxOf c < s.ro.idxOf b → (s.wr c).testBit o = false) := by
  obtain ⟨c, _, e2, _⟩ := h.c1 b hb
  unfold p1Z
  rw [h.cc ha hb, h.wr, h.wr, e2, Int.toNat_natCast]
  constructor
  · rintro ⟨x, y, z, v⟩
    have := (h.nx ha hb o e2 x).1 ⟨z, v⟩
    exact ⟨z, x, y, this.2⟩
  · rintro ⟨z, x, y, v⟩
    have := (h.nx ha hb o e2 x).2 ⟨z, v⟩
    exact ⟨x, y, z, this.2⟩
theorem VD.beh {s : M.Vw} {D : List Dz} {st a b : Nat} (h : VD s D st) : (∃ o, o < 4 ∧ fbZ D a b o) ↔ M.eVw s a b := by
  unfold fbZ goodZ M.eVw
  constructor
  · rintro ⟨o, ho, ⟨g1, g2, g3⟩, k⟩
    have ha := (h.com_iff a).1 g2
    have hb := (h.com_iff b).1 g3
    refine ⟨(h.vi.ro a).2 ha, (h.vi.ro b).2 hb, g1, ?_⟩
    rcases k with k | k | k
    · obtain ⟨x, y, z, v⟩ := (h.nxE ha hb o).1 k
      exact .inl ⟨x, o, ho, y, z, v⟩
    · obtain ⟨x, y, z⟩ := (h.rdE ha hb o).1 k
      exact .inr (.inl ⟨x, o, ho, y, z⟩)
    · obtain ⟨x, y, z⟩ := (h.ov ha hb o).1 k
      exact .inr (.inr ⟨x, o, ho, y, z⟩)
  · rintro ⟨ma, mb, g1, k⟩
    have ha := (h.vi.ro a).1 ma
    have hb := (h.vi.ro b).1 mb
    have g2 := (h.com_iff a).2 ha
    have g3 := (h.com_iff b).2 hb
    rcases k with ⟨x, o, ho, y, z, v⟩ | ⟨x, o, ho, y, z⟩ | ⟨x, o, ho, y, z⟩
    · exact ⟨o, ho, ⟨g1, g2, g3⟩, .inl ((h.nxE ha hb o).2 ⟨x, y, z, v⟩)⟩
    · exact ⟨o, ho, ⟨g1, g2, g3⟩, .inr (.inl ((h.rdE ha hb o).2 ⟨x, y, z⟩))⟩
    · exact ⟨o, ho, ⟨g1, g2, g3⟩, .inr (.inr ((h.ov ha hb o).2 ⟨x, y, z⟩))⟩
theorem VD.ovr {s : M.Vw} {D : List Dz} {st a b : Nat} (h : VD s D st) : (∃ o, o < 4 ∧ foZ D a b o) ↔ M.eDg s a b := by
  unfold foZ goodZ M.eDg
  constructor
  · rintro ⟨o, ho, ⟨g1, g2, g3⟩, k, v⟩
    have ha := (h.com_iff a).1 g2
    have hb := (h.com_iff b).1 g3
    obtain ⟨x, y, z⟩ := (h.ov ha hb o).1 k
    exact ⟨(h.vi.ro a).2 ha, (h.vi.ro b).2 hb, g1.symm, ⟨x, o, ho, y, z⟩, (h.cb ha (show s.dg b ≠ 0 by omega)).2.1 v⟩
  · rintro ⟨ma, mb, g1, ⟨x, o, ho, y, z⟩, v⟩
    have ha := (h.vi.ro a).1 ma
    have hb := (h.vi.ro b).1 mb
    exact ⟨o, ho, ⟨fun e => g1 e.symm, (h.com_iff a).2 ha, (h.com_iff b).2 hb⟩, (h.ov ha hb o).2 ⟨x, y, z⟩, (h.cb ha (show s.dg b ≠ 0 by omega)).2.2 v⟩
/-! ### rows of bits -/
structure EB (F : Nat → Nat → Prop) (R : List Nat) : Prop where
  len : R.length = 5
  lt : ∀ x, M.row R x < 32
  bit : ∀ x y, (M.row R x).testBit y = true ↔ F x y
theorem EB.congr {F F' : Nat → Nat → Prop} {R : List Nat} (h : EB F R) (e : ∀ x y, F x y ↔ F' x y) : EB F' R := ⟨h.len, h.lt, fun x y => (h.bit x y).trans (e x y)⟩
theorem EB.hit {F : Nat → Nat → Prop} {R : List Nat} {a b : Nat} (h : EB F R) (ha : a < 5) (hb : b < 5) : EB (fun x y => F x y ∨ (x = a ∧ y = b)) (R.set a (M.row R a ||| 1 <<< b)) := by
  have hr : ∀ x, M.row (R.set a (M.row R a ||| 1 <<< b)) x = if x = a then M.row R a ||| 1 <<< b else M.row R x := fun x => by
    unfold M.row
    rw [List.getElem?_set]
    by_cases c : a = x
    · subst c; rw [if_pos rfl, if_pos rfl, if_pos (by rw [h.len]; exact ha)]; rfl
    · rw [if_neg c, if_neg (fun e => c e.symm)]
  have h1 : 1 <<< b < 32 := by
    rw [Nat.shiftLeft_eq, Nat.one_mul]
    exact Nat.pow_lt_pow_right (by decide : 1 < 2) hb
  refine ⟨by rw [List.length_set]; exact h.len, fun x => ?_, fun x y => ?_⟩
  · rw [hr]; split
    · exact Nat.or_lt_two_pow (n := 5) (h.lt a) h1
    · exact h.lt x
  · rw [hr]
    by_cases c : x = a
    · subst c
      rw [if_pos rfl, Nat.testBit_or, M.oneBit, Bool.or_eq_true, decide_eq_true_eq, h.bit]
      exact ⟨fun e => e.imp_right (fun e => ⟨rfl, e.symm⟩), fun e => e.imp_right (fun e => e.2.symm)⟩
    · rw [if_neg c, h.bit]
      exact ⟨.inl, fun e => e.resolve_right (fun e => c e.1)⟩
/-- what is done of the pairs, ahead of item m of the pair a, b -/
def DFz (f : Nat → Nat → Nat → Prop) (a b m : Nat) (x y : Nat) : Prop := x < 5 ∧ y < 5 ∧ ∃ o, o < 4 ∧ (x < a ∨ (x = a ∧ (y < b ∨ (y = b ∧ o < m)))) ∧ f x y o
section
variable {f : Nat → Nat → Nat → Prop} {a b m : Nat}
theorem DFz.zero (x y : Nat) : False ↔ DFz f 0 0 0 x y := ⟨False.elim, fun ⟨_, _, o, _, h, _⟩ => by omega⟩
theorem DFz.item (ha : a < 5) (hb : b < 5) (hm : m < 4) (x y : Nat) : (DFz f a b m x y ∨ (x = a ∧ y = b ∧ f a b m)) ↔ DFz f a b (m + 1) x y := by
  constructor
  · rintro (⟨h1, h2, o, h3, h4, h5⟩ | ⟨rfl, rfl, h⟩)
    · exact ⟨h1, h2, o, h3, by omega, h5⟩
    · exact ⟨ha, hb, m, hm, by omega, h⟩
  · rintro ⟨h1, h2, o, h3, h4, h5⟩
    by_cases c : x = a ∧ y = b ∧ o = m
    · obtain ⟨rfl, rfl, rfl⟩ := c
      exact .inr ⟨rfl, rfl, h5⟩
    · exact .inl ⟨h1, h2, o, h3, by omega, h5⟩
theorem DFz.pair (x y : Nat) : DFz f a b 4 x y ↔ DFz f a (b + 1) 0 x y := by
  unfold DFz
  exact ⟨fun ⟨h1, h2, o, h3, h4, h5⟩ => ⟨h1, h2, o, h3, by omega, h5⟩, fun ⟨h1, h2, o, h3, h4, h5⟩ => ⟨h1, h2, o, h3, by omega, h5⟩⟩
theorem DFz.skip (h : ∀ o, ¬ f a b o) (x y : Nat) : DFz f a b 0 x y ↔ DFz f a (b + 1) 0 x y := by
  constructor
  · rintro ⟨h1, h2, o, h3, h4, h5⟩
    exact ⟨h1, h2, o, h3, by omega, h5⟩
  · rintro ⟨h1, h2, o, h3, h4, h5⟩
    refine ⟨h1, h2, o, h3, ?_, h5⟩
    by_cases c : x = a ∧ y = b
    · obtain ⟨rfl, rfl⟩ := c
      exact absurd h5 (h o)
    · omega
theorem DFz.row (x y : Nat) : DFz f a 5 0 x y ↔ DFz f (a + 1) 0 0 x y := by
  unfold DFz
  exact ⟨fun ⟨h1, h2, o, h3, h4, h5⟩ => ⟨h1, h2, o, h3, by omega, h5⟩, fun ⟨h1, h2, o, h3, h4, h5⟩ => ⟨h1, h2, o, h3, by omega, h5⟩⟩
theorem DFz.all (x y : Nat) : DFz f 5 0 0 x y ↔ x < 5 ∧ y < 5 ∧ ∃ o, o < 4 ∧ f x y o := by
  unfold DFz
  exact ⟨fun ⟨h1, h2, o, h3, _, h5⟩ => ⟨h1, h2, o, h3, h5⟩, fun ⟨h1, h2, o, h3, h5⟩ => ⟨h1, h2, o, h3, by omega, h5⟩⟩
end
/-- the document's edges are the program's -/
theorem eb_beh {s : M.Vw} {D : List Dz} {st : Nat} {R : List Nat} (h : VD s D st) (hR : EB (DFz (fbZ D) 5 0 0) R) : R = M.behR s := by
  apply List.ext_getElem?
  intro i
  by_cases c : i < 5
  · have h1 : i < R.length := by rw [hR.len]; exact c
    have h2 : i < (M.behR s).length := by rw [M.behR_len]; exact c
    rw [List.getElem?_eq_getElem h1, List.getElem?_eq_getElem h2]
    congr 1
    have e1 : R[i] = M.row R i := by unfold M.row; rw [List.getElem?_eq_getElem h1]; rfl
    have e2 : (M.behR s)[i] = M.row (M.behR s) i := by unfold M.row; rw [List.getElem?_eq_getElem h2]; rfl
    rw [e1, e2]
    apply Nat.eq_of_testBit_eq
    intro j
    rw [Bool.eq_iff_iff, hR.bit, M.behR_bit h.vi, DFz.all, h.beh]
    exact ⟨fun e => e.2.2, fun e => ⟨c, h.vi.lt5 e.2.1, e⟩⟩
  · rw [List.getElem?_eq_none (by rw [hR.len]; omega), List.getElem?_eq_none (by rw [M.behR_len]; omega)]
theorem eb_ovr {s : M.Vw} {D : List Dz} {st : Nat} {R : List Nat} (h : VD s D st) (hR : EB (DFz (foZ D) 5 0 0) R) : R = M.ovR s := by
  apply List.ext_getElem?
  intro i
  by_cases c : i < 5
  · have h1 : i < R.length := by rw [hR.len]; exact c
    have h2 : i < (M.ovR s).length := by rw [M.ovR_len]; exact c
    rw [List.getElem?_eq_getElem h1, List.getElem?_eq_getElem h2]
    congr 1
    have e1 : R[i] = M.row R i := by unfold M.row; rw [List.getElem?_eq_getElem h1]; rfl
    have e2 : (M.ovR s)[i] = M.row (M.ovR s) i := by unfold M.row; rw [List.getElem?_eq_getElem h2]; rfl
    rw [e1, e2, M.ovR_row s c]
    apply Nat.eq_of_testBit_eq
    intro j
    rw [Bool.eq_iff_iff, hR.bit, M.ov_bit h.vi, DFz.all, h.ovr]
    exact ⟨fun e => e.2.2, fun e => ⟨c, h.vi.lt5 e.2.1, e⟩⟩
  · rw [List.getElem?_eq_none (by rw [hR.len]; omega), List.getElem?_eq_none (by rw [M.ovR_len]; omega)]
def F1z (D : List Dz) (a b m x y : Nat) : Prop := DFz (fbZ D) a b m x y ∨ (x = a ∧ y = b ∧ p1Z D a b m)
def F2z (D : List Dz) (a b m x y : Nat) : Prop := DFz (fbZ D) a b m x y ∨ (x = a ∧ y = b ∧ (p1Z D a b m ∨ p2Z D a b m))
section
variable {D : List Dz} {a b m : Nat} {R : List Nat}
theorem e1_no (h : EB (DFz (fbZ D) a b m) R) (hn : ¬ p1Z D a b m) : EB (F1z D a b m) R := h.congr fun _ _ => ⟨.inl, fun e => e.resolve_right (fun e => hn e.2.2)⟩
theorem e1_yes (h : EB (DFz (fbZ D) a b m) R) (hp : p1Z D a b m) (ha : a < 5) (hb : b < 5) : EB (F1z D a b m) (R.set a (M.row R a ||| 1 <<< b)) := (h.hit ha hb).congr fun _ _ => ⟨fun e => e.imp_right fun e => ⟨e.1, e.2, hp⟩, fun e => e.imp_right fun e => ⟨e.1, e.2.1⟩⟩
theorem e2_no (h : EB (F1z D a b m) R) (hn : ¬ p2Z D a b m) : EB (F2z D a b m) R := h.congr fun _ _ => ⟨fun e => e.imp_right fun e => ⟨e.1, e.2.1, .inl e.2.2⟩, fun e => e.imp_right fun e => ⟨e.1, e.2.1, e.2.2.resolve_right hn⟩⟩
theorem e2_yes (h : EB (F1z D a b m) R) (hp : p2Z D a b m) (ha : a < 5) (hb : b < 5) : EB (F2z D a b m) (R.set a (M.row R a ||| 1 <<< b)) := (h.hit ha hb).congr fun _ _ => by
  constructor
  · rintro ((e | e) | e)
    · exact .inl e
    · exact .inr ⟨e.1, e.2.1, .inl e.2.2⟩
    · exact .inr ⟨e.1, e.2, .inr hp⟩
  · rintro (e | e)
    · exact .inl (.inl e)
    · exact .inr ⟨e.1, e.2.1⟩
theorem e3_no (h : EB (F2z D a b m) R) (hg : goodZ D a b) (hn : ¬ p3Z D a b m) (ha : a < 5) (hb : b < 5) (hm : m < 4) : EB (DFz (fbZ D) a b (m + 1)) R := h.congr fun _ _ => by
  rw [← DFz.item ha hb hm]
  refine or_congr Iff.rfl (and_congr Iff.rfl (and_congr Iff.rfl ?_))
  exact ⟨fun e => ⟨hg, e.elim .inl (fun e => .inr (.inl e))⟩, fun e => e.2.elim .inl (fun e => .inr (e.resolve_right hn))⟩
theorem e3_yes (h : EB (F2z D a b m) R) (hg : goodZ D a b) (hp : p3Z D a b m) (ha : a < 5) (hb : b < 5) (hm : m < 4) : EB (DFz (fbZ D) a b (m + 1)) (R.set a (M.row R a ||| 1 <<< b)) := (h.hit ha hb).congr fun _ _ => by
  rw [← DFz.item ha hb hm]
  constructor
  · rintro ((e | e) | e)
    · exact .inl e
    · exact .inr ⟨e.1, e.2.1, hg, e.2.2.elim .inl (fun e => .inr (.inl e))⟩
    · exact .inr ⟨e.1, e.2, hg, .inr (.inr hp)⟩
  · rintro (e | e)
    · exact .inl (.inl e)
    · exact .inr ⟨e.1, e.2.1⟩
theorem o_no (h : EB (DFz (foZ D) a b m) R) (hn : ¬ foZ D a b m) (ha : a < 5) (hb : b < 5) (hm : m < 4) : EB (DFz (foZ D) a b (m + 1)) R := h.congr fun _ _ => by
  rw [← DFz.item ha hb hm]
  exact ⟨.inl, fun e => e.resolve_right (fun e => hn e.2.2)⟩
theorem o_yes (h : EB (DFz (foZ D) a b m) R) (hp : foZ D a b m) (ha : a < 5) (hb : b < 5) (hm : m < 4) : EB (DFz (foZ D) a b (m + 1)) (R.set a (M.row R a ||| 1 <<< b)) := (h.hit ha hb).congr fun _ _ => by
  rw [← DFz.item ha hb hm]
  exact or_congr Iff.rfl ⟨fun e => ⟨e.1, e.2, hp⟩, fun e => ⟨e.1, e.2.1⟩⟩
theorem eb_zero (f : Nat → Nat → Nat → Prop) : EB (DFz f 0 0 0) (List.replicate 5 0) := by
  have hr : ∀ x, M.row (List.replicate 5 0) x = 0 := fun x => by
    unfold M.row
    rw [List.getElem?_replicate]
    split <;> rfl
  exact ⟨rfl, fun x => by rw [hr]; decide, fun x y => by
    rw [hr, Nat.zero_testBit]
    exact ⟨fun e => (by cases e), fun e => ((DFz.zero x y).2 e).elim⟩⟩
end
/-! ### how things stand -/
/-- The store in block N, the two rows in blocks A and B. -/
structure VE (N : Nat) (G : Nat → Prop) (D : List Dz) (st : Nat) (p : Option Addr) (c A B : Nat) (w0 : World) (R1 R2 : List Nat) (w : World) : Prop where
  rd : RD G D p c w
  rs : RS N st D.length p c w
  ra : RowAt 3 w A R1
  rb : RowAt 3 w B R2
  bl : Below N w0 w
  nA : ¬ G A
  nB : ¬ G B
  ab : A ≠ B
  gA : N < A
  gB : N < B
section
variable {N : Nat} {G : Nat → Prop} {D : List Dz} {st : Nat} {p : Option Addr} {c A B : Nat} {w0 : World} {R1 R2 : List Nat} {w w' : World}
theorem VE.later (h : VE N G D st p c A B w0 R1 R2 w) (hb : Below w.heap.size w w') : VE N G D st p c A B w0 R1 R2 w' :=
  ⟨h.rd.later hb, h.rs.below hb, h.ra.below hb h.ra.lt, h.rb.below hb h.rb.lt, h.bl.trans (hb.mono (by have := h.rs.lt; omega)), h.nA, h.nB, h.ab, h.gA, h.gB⟩
theorem VE.setA (h : VE N G D st p c A B w0 R1 R2 w) (u v : Nat) : VE N G D st p c A B w0 (R1.set u v) R2 (w.setCell ⟨A, u, none⟩ (.int .i64 (v : Nat))) :=
  ⟨h.rd.setP (a := ⟨A, u, none⟩) h.nA _, h.rs.other (x := ⟨A, u, none⟩) (show N ≠ A by have := h.gA; omega) _, h.ra.set u v, h.rb.other (a := ⟨A, u, none⟩) (show B ≠ A from fun e => h.ab e.symm) _, h.bl.setCell (p := ⟨A, u, none⟩) (show N ≤ A by have := h.gA; omega) _, h.nA, h.nB, h.ab, h.gA, h.gB⟩
theorem VE.setB (h : VE N G D st p c A B w0 R1 R2 w) (u v : Nat) : VE N G D st p c A B w0 R1 (R2.set u v) (w.setCell ⟨B, u, none⟩ (.int .i64 (v : Nat))) :=
  ⟨h.rd.setP (a := ⟨B, u, none⟩) h.nB _, h.rs.other (x := ⟨B, u, none⟩) (show N ≠ B by have := h.gB; omega) _, h.ra.other (a := ⟨B, u, none⟩) (show A ≠ B from h.ab) _, h.rb.set u v, h.bl.setCell (p := ⟨B, u, none⟩) (show N ≤ B by have := h.gB; omega) _, h.nA, h.nB, h.ab, h.gA, h.gB⟩
theorem VE.when (h : VE N G D st p c A B w0 R1 R2 w) (t k : Int) : Calls Tryd.prog 30 #[.agg #[.slice p D.length c, .int .i64 (st : Nat)], .int .i64 t, .int .i64 k] w fun e w' => e = .returned (.int .i64 (whZ D t k)) ∧ Hid (VE N G D st p c A B w0 R1 R2 w') := by
  refine (rwhen_ok st t k p c w h.rd).mono ?_
  rintro e w' ⟨rfl, hB⟩
  exact ⟨rfl, h.later hB⟩
theorem VE.wrote (h : VE N G D st p c A B w0 R1 R2 w) (t i : Int) : Calls Tryd.prog 31 #[.agg #[.slice p D.length c, .int .i64 (st : Nat)], .int .i64 t, .int .i64 i] w fun e w' => e = .returned (.bool (wrZ D t i)) ∧ Hid (VE N G D st p c A B w0 R1 R2 w') := by
  refine (rwrote_ok st t i p c w h.rd).mono ?_
  rintro e w' ⟨rfl, hB⟩
  exact ⟨rfl, h.later hB⟩
theorem VE.read (h : VE N G D st p c A B w0 R1 R2 w) (t i : Int) : Calls Tryd.prog 34 #[.agg #[.slice p D.length c, .int .i64 (st : Nat)], .int .i64 t, .int .i64 i] w fun e w' => e = .returned (.bool (rfZ D t i)) ∧ Hid (VE N G D st p c A B w0 R1 R2 w') := by
  refine (rreadfirst_ok st t i p c w h.rd).mono ?_
  rintro e w' ⟨rfl, hB⟩
  exact ⟨rfl, h.later hB⟩
theorem VE.last (h : VE N G D st p c A B w0 R1 R2 w) (i : Int) (m : Nat) (hm : m ≤ D.length) : Calls Tryd.prog 32 #[.agg #[.slice p D.length c, .int .i64 (st : Nat)], .int .i64 i, .int .i64 (m : Nat)] w fun e w' => e = .returned (.int .i64 (laZ D i m)) ∧ Hid (VE N G D st p c A B w0 R1 R2 w') := by
  refine (rlastof_ok st i m p c w h.rd hm).mono ?_
  rintro e w' ⟨rfl, hB⟩
  exact ⟨rfl, h.later hB⟩
theorem ve_start {w : World} (h : RD G D p c w) : VE w.heap.size (fun j => G j ∧ j ≠ w.heap.size + 1 ∧ j ≠ w.heap.size + 1 + 1) D st p c (w.heap.size + 1) (w.heap.size + 1 + 1) w (List.replicate 5 0) (List.replicate 5 0)
    (((w.alloc (.cells #[.slice p D.length c, .int .i64 (st : Nat)] 41)).alloc (.cells (madeCells #[.int .i64 0] 5) 3)).alloc (.cells (madeCells #[.int .i64 0] 5) 3)) := by
  have L1 := rs_alloc w st D.length p c
  obtain ⟨w1, hw1⟩ : ∃ w1, w.alloc (.cells #[.slice p D.length c, .int .i64 (st : Nat)] 41) = w1 := ⟨_, rfl⟩
  have s1 : w1.heap.size = w.heap.size + 1 := by subst hw1; simp
  have B1 : Below w.heap.size w w1 := by rw [← hw1]; exact bel_al (Below.refl _ _) _
  rw [hw1] at L1 ⊢
  have row : ∀ wx : World, RowAt 3 (wx.alloc (.cells (madeCells #[.int .i64 0] 5) 3)) wx.heap.size (List.replicate 5 0) := fun wx => by
    unfold RowAt
    rw [World.alloc_heap_new, made_arr]
  have h2 := row w1
  obtain ⟨w2, hw2⟩ : ∃ w2, w1.alloc (.cells (madeCells #[.int .i64 0] 5) 3) = w2 := ⟨_, rfl⟩
  have s2 : w2.heap.size = w.heap.size + 1 + 1 := by subst hw2; simp; omega
  have B2 : Below w1.heap.size w1 w2 := by rw [← hw2]; exact bel_al (Below.refl _ _) _
  rw [hw2] at h2 ⊢
  have h3 := row w2
  obtain ⟨w3, hw3⟩ : ∃ w3, w2.alloc (.cells (madeCells #[.int .i64 0] 5) 3) = w3 := ⟨_, rfl⟩
  have B3 : Below w2.heap.size w2 w3 := by rw [← hw3]; exact bel_al (Below.refl _ _) _
  rw [hw3] at h3 ⊢
  rw [s1] at h2
  rw [s2] at h3
  have B13 := bel_on (bel_on B1 B2) B3
  exact ⟨(h.mono (fun j hj hg => ⟨hg, by omega, by omega⟩)).later B13, (L1.below B2).below B3, h2.below B3 (by omega), h3, B13, fun e => e.2.1 rfl, fun e => e.2.2 rfl, by omega, by omega, by omega⟩
end
end Go.Proofs.YtajiichehffaaaaDoor
