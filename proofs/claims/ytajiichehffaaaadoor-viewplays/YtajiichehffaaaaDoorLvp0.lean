/- Anything that is begun, done, and committed (law ViewPlays): how the program's store and the document's stand side by side; who is committed, and danger, as the law goes over them. No walk. -/
import Derived.Test.YtajiichehffaaaaDoorRefV3
import Derived.Test.YtajiichehffaaaaDoorRefV5
import Derived.Test.YtajiichehffaaaaDoorRefS3
import Derived.Test.YtajiichehffaaaaDoorVm8
import Derived.Test.YtajiichehffaaaaDoorBVc
import Derived.Test.YtajiichehffaaaaDoorSame
import Derived.Test.YtajiichehffaaaaDoorErr
namespace Go.Proofs.YtajiichehffaaaaDoor
open Go.RowKit
theorem errV_ok (c : Nat) (w : World) (hg : Ety w) : Calls Tryd.prog 17 #[terr c, .int .i64 (c : Nat)] w fun e w' => e = .returned (.bool true) ∧ Below w.heap.size w w' := by
  by_cases h : c = 0
  · subst h
    refine (error_nil w).mono ?_
    rintro e w' ⟨rfl, rfl⟩
    exact ⟨rfl, Below.refl _ _⟩
  · rw [terr_ne h]
    exact error_same c w hg
/-- How things stand: the program's store, with blocks of O alone, and the document's, in block B, with none of them. -/
structure PV (w : World) (S B : Nat) (O : Nat → Prop) (s : M.Vw) (D : List Dz) (st : Nat) (p : Option Addr) (c : Nat) (wr : World) : Prop where
  vv : VV O S s wr
  vd : VD s D st
  rd : RD (fun k => ¬ O k ∧ k ≠ B) D p c wr
  rs : RS B st D.length p c wr
  nb : ¬ O B
  bl : Below w.heap.size w wr
  ol : ∀ k, k < w.heap.size → ¬ O k
  gt : w.heap.size ≤ B
theorem PV.later {w : World} {S B : Nat} {O : Nat → Prop} {s : M.Vw} {D : List Dz} {st : Nat} {p : Option Addr} {c : Nat} {wr w1 : World} (h : PV w S B O s D st p c wr) (hb : Below wr.heap.size wr w1) : PV w S B O s D st p c w1 :=
  ⟨h.vv.below hb, h.vd, h.rd.later hb, h.rs.below hb, h.nb, h.bl.trans (hb.mono h.bl.size), h.ol, h.gt⟩
/-- How things stand behind the document's deed: its store's copy in block C. -/
structure CutV (wr : World) (O : Nat → Prop) (B : Nat) (s : M.Vw) (D : List Dz) (st C : Nat) (p : Option Addr) (c : Nat) (w' : World) : Prop where
  hC : wr.heap.size ≤ C
  hL : RS C st D.length p c w'
  hR : RD (fun j => ¬ (O j ∧ j < wr.heap.size) ∧ j ≠ B) D p c w'
  hV : VD s D st
  hB : Below wr.heap.size wr w'
theorem CutV.al {wr W6 : World} {O X : Nat → Prop} {B L : Nat} {s : M.Vw} {D : List Dz} {st : Nat} {p : Option Addr} {c : Nat} (hLn : D.length = L) (hV : VD s D st) (hR : RD (fun j => ¬ (O j ∧ j < wr.heap.size) ∧ j ≠ B ∧ X j) D p c W6) (hB : Below wr.heap.size wr W6) :
    CutV wr O B s D st W6.heap.size p c (W6.alloc (.cells #[.slice p L c, .int .i64 (st : Nat)] 41)) := by
  subst hLn
  exact ⟨hB.size, rs_alloc W6 _ _ p c, (hR.mono (fun _ _ hg => ⟨hg.1, hg.2.1⟩)).later (bel_al (Below.refl _ _) _), hV, bel_al hB _⟩
theorem CutV.cp {wr W6 : World} {O X : Nat → Prop} {B L : Nat} {s : M.Vw} {D : List Dz} {st : Nat} {p : Option Addr} {c : Nat} (hLn : D.length = L) (hV : VD s D st) (hR : RD (fun j => ¬ (O j ∧ j < wr.heap.size) ∧ j ≠ B ∧ X j) D p c W6) (hX : ¬ X wr.heap.size) (hB : Below wr.heap.size wr W6) (hL : RS wr.heap.size 0 0 none 0 W6) :
    CutV wr O B s D st wr.heap.size p c (cpyS W6 wr.heap.size st L p c) := by
  subst hLn
  exact ⟨Nat.le_refl _, hL.cpy _ _ _ _, (hR.cpyP (fun e => hX e.2.2) _ _ _ _).mono (fun _ _ hg => ⟨hg.1, hg.2.1⟩), hV, bel_cpyS hB (Nat.le_refl _) _ _ _ _⟩
theorem zs_alloc (w : World) : RS w.heap.size 0 0 none 0 (w.alloc (.cells #[.slice none 0 0, .int .i64 0] 41)) := rs_alloc w 0 0 none 0
theorem PV.start {w w2 : World} {S : Nat} (hv : VV (fun k => k = S) S M.vw0 w2) (hS : w.heap.size ≤ S) (hb : Below w.heap.size w w2) : PV w S w2.heap.size (fun k => k = S) M.vw0 [] 0 none 0 (w2.alloc (.cells #[.slice none 0 0, .int .i64 0] 41)) := by
  have hl := hv.lt
  exact ⟨hv.below (bel_al (Below.refl _ _) _), VD.zero, ⟨fun _ => ⟨rfl, rfl⟩, ⟨Nat.le_refl _, Nat.zero_le _⟩, fun j hj => absurd hj (Nat.not_lt_zero _)⟩, rs_alloc w2 0 0 none 0, fun (e : w2.heap.size = S) => by omega, bel_al hb _, fun k hk (e : k = S) => by omega, by omega⟩
/-- behind the document's deed, and the copy of its store; and behind the program's deed -/
theorem CutV.next {w wr wc : World} {S B C : Nat} {O : Nat → Prop} {s s' : M.Vw} {D D' : List Dz} {st st' : Nat} {p p' : Option Addr} {c c' : Nat} (h : PV w S B O s D st p c wr) (hc : CutV wr O B s' D' st' C p' c' wc) (k t o x : Int) (hs : (vwZ s k t o x).1 = s') :
    ∃ O2 : Nat → Prop, Calls Tryd.prog 9 #[.pointer (some ⟨S, 0, none⟩), .agg #[.int .i64 k, .int .i64 t, .int .i64 o, .int .i64 x]] (cpyS wc B st' D'.length p' c') fun e w' => e = .returned (.tuple #[.int .i64 (vwZ s k t o x).2.1, terr (vwZ s k t o x).2.2]) ∧ Hid (PV w S B O2 s' D' st' p' c' w') := by
  have lB := h.rs.lt
  have LBc := h.rs.below hc.hB
  have FC : Frm (fun j => j = B) wc (cpyS wc B st' D'.length p' c') := ((Frm.refl (fun j => j = B) wc).set (p := ⟨B, 0, none⟩) rfl _).set (p := ⟨B, 1, none⟩) rfl _
  have L8 : RS B st' D'.length p' c' (cpyS wc B st' D'.length p' c') := LBc.cpy _ _ _ _
  have R8 : RD (fun j => ¬ (O j ∧ j < wr.heap.size) ∧ j ≠ B) D' p' c' (cpyS wc B st' D'.length p' c') := hc.hR.cpyP (fun e => e.2 rfl) _ _ _ _
  have V8 : VV (fun j => O j ∧ j < wr.heap.size) S s (cpyS wc B st' D'.length p' c') := ((h.vv.mono (O' := fun j => O j ∧ j < wr.heap.size) (fun j hj ho => ⟨ho, hj⟩)).below hc.hB).frm FC (fun j ho e => h.nb (e ▸ ho.1))
  have B8 : Below w.heap.size w (cpyS wc B st' D'.length p' c') := bel_cpyS (h.bl.trans (hc.hB.mono h.bl.size)) h.gt _ _ _ _
  have s8 : wr.heap.size ≤ (cpyS wc B st' D'.length p' c').heap.size := by have h1 := FC.size; have h2 := hc.hB.size; omega
  obtain ⟨w8, hw8⟩ : ∃ w8, cpyS wc B st' D'.length p' c' = w8 := ⟨_, rfl⟩
  rw [hw8] at L8 R8 V8 B8 s8 ⊢
  refine ⟨fun j => (O j ∧ j < wr.heap.size) ∨ w8.heap.size ≤ j, ?_⟩
  have hd := vdo_ok (O := fun j => (O j ∧ j < wr.heap.size) ∨ w8.heap.size ≤ j) k t o x w8 (V8.mono (fun j _ ho => .inl ho)) (fun j hj => .inr hj) h.vd.vi
  refine hd.mono ?_
  rintro e w' ⟨rfl, hV', hF'⟩
  rw [hs] at hV'
  have hO2l : ∀ j, j < w.heap.size → ¬ ((O j ∧ j < wr.heap.size) ∨ w8.heap.size ≤ j) := fun j hj x => by
    have h9 := B8.size
    rcases x with y | y
    · exact h.ol j hj y.1
    · omega
  have nB2 : ¬ ((O B ∧ B < wr.heap.size) ∨ w8.heap.size ≤ B) := fun x => by
    have h9 := L8.lt
    rcases x with y | y
    · exact h.nb y.1
    · omega
  exact ⟨rfl, hV', hc.hV, (R8.mono (G' := fun j => ¬ ((O j ∧ j < wr.heap.size) ∨ w8.heap.size ≤ j) ∧ j ≠ B) (fun j hj hg => ⟨fun x => x.elim hg.1 (fun y => by omega), hg.2⟩)).frm hF' (fun j hg => hg.1), World.rowIs.of_block L8 (hF'.block _ L8.lt nB2), nB2, B8.trans (hF'.below B8.size hO2l), hO2l, h.gt⟩
/-! ### who is committed, as the law goes over it -/
structure CSet (D : List Dz) (t i z : Nat) : Prop where
  lt : z < 32
  bit : ∀ v : Nat, z.testBit v = true ↔ (v < t ∧ 0 ≤ whZ D v 5) ∨ (v = t ∧ ∃ j, j < i ∧ whP v 5 (dAt D j) = true)
theorem CSet.zero (D : List Dz) : CSet D 0 0 0 := ⟨by decide, fun v => by
  rw [Nat.zero_testBit]
  exact ⟨fun e => (by cases e), fun e => by
    rcases e with e | ⟨_, j, hj, _⟩
    · omega
    · omega⟩⟩
theorem CSet.no {D : List Dz} {t i z : Nat} (h : CSet D t i z) (hn : whP (t : Nat) 5 (dAt D i) = false) : CSet D t (i + 1) z := ⟨h.lt, fun v => by
  rw [h.bit]
  refine or_congr Iff.rfl (and_congr_right fun e => ?_)
  subst e
  constructor
  · rintro ⟨j, h1, h2⟩; exact ⟨j, by omega, h2⟩
  · rintro ⟨j, h1, h2⟩
    by_cases c : j = i
    · subst c; rw [hn] at h2; cases h2
    · exact ⟨j, by omega, h2⟩⟩
theorem CSet.yes {D : List Dz} {t i z : Nat} (h : CSet D t i z) (ht : t < 5) (hn : whP (t : Nat) 5 (dAt D i) = true) : CSet D t (i + 1) (z ||| 1 <<< t) := by
  have h1 : 1 <<< t < 32 := by
    rw [Nat.shiftLeft_eq, Nat.one_mul]
    exact Nat.pow_lt_pow_right (by decide : 1 < 2) ht
  refine ⟨Nat.or_lt_two_pow (n := 5) h.lt h1, fun v => ?_⟩
  rw [Nat.testBit_or, M.oneBit, Bool.or_eq_true, decide_eq_true_eq, h.bit]
  constructor
  · rintro ((e | ⟨e, j, h1, h2⟩) | e)
    · exact .inl e
    · exact .inr ⟨e, j, by omega, h2⟩
    · exact .inr ⟨e.symm, i, by omega, by rw [← e]; exact hn⟩
  · rintro (e | ⟨e, _⟩)
    · exact .inl (.inl e)
    · exact .inr e.symm
theorem whZ_ge {D : List Dz} {t : Int} : 0 ≤ whZ D t 5 ↔ ∃ j, j < D.length ∧ whP t 5 (dAt D j) = true := by
  unfold whZ
  cases e : M.fstI (fun j => whP t 5 (dAt D j)) D.length with
  | none =>
    constructor
    · intro h
      have h' : (0 : Int) ≤ -1 := h
      omega
    · rintro ⟨j, h1, h2⟩
      have h3 : whP t 5 (dAt D j) = false := M.fstI_none e j h1
      rw [h3] at h2; cases h2
  | some i =>
    obtain ⟨h1, h2⟩ := M.fstI_some e
    exact ⟨fun _ => ⟨i, h1, h2⟩, fun _ => by show (0 : Int) ≤ ((i : Nat) : Int); omega⟩
theorem CSet.next {D : List Dz} {t z : Nat} (h : CSet D t D.length z) : CSet D (t + 1) 0 z := ⟨h.lt, fun v => by
  rw [h.bit]
  constructor
  · rintro (e | ⟨e, j, h1, h2⟩)
    · exact .inl ⟨by omega, e.2⟩
    · subst e; exact .inl ⟨by omega, whZ_ge.2 ⟨j, h1, h2⟩⟩
  · rintro (⟨e, k⟩ | ⟨_, j, hj, _⟩)
    · by_cases c : v = t
      · subst c; exact .inr ⟨rfl, whZ_ge.1 k⟩
      · exact .inl ⟨by omega, k⟩
    · omega⟩
theorem CSet.all {s : M.Vw} {D : List Dz} {st z : Nat} (hV : VD s D st) (h : CSet D 5 0 z) : M.comS s = z := by
  apply Nat.eq_of_testBit_eq
  intro v
  rw [Bool.eq_iff_iff, M.comS_bit hV.vi, decide_eq_true_eq, h.bit, hV.vi.ro]
  constructor
  · intro e
    exact .inl ⟨hV.vi.lt5 ((hV.vi.ro v).2 e), (hV.com_iff v).2 e⟩
  · rintro (⟨_, e⟩ | ⟨_, j, hj, _⟩)
    · exact (hV.com_iff v).1 e
    · omega
/-! ### danger, as the law goes over it -/
def dPr (s : M.Vw) (a b : Nat) : Bool := (M.ovS s a).testBit b && M.ovS s b != 0
def dKr (s : M.Vw) (t u : Nat) : Bool := ((List.range t).any fun a => (List.range 5).any fun b => dPr s a b) || (List.range u).any fun b => dPr s t b
theorem dKr_zero (s : M.Vw) : dKr s 0 0 = false := rfl
theorem dKr_step (s : M.Vw) (t u : Nat) : dKr s t (u + 1) = (dKr s t u || dPr s t u) := by
  unfold dKr
  rw [show List.range (u + 1) = List.range u ++ [u] from List.range_succ, List.any_append]
  simp [Bool.or_assoc]
theorem dKr_next (s : M.Vw) (t : Nat) : dKr s (t + 1) 0 = dKr s t 5 := by
  unfold dKr
  rw [show List.range (t + 1) = List.range t ++ [t] from List.range_succ, List.any_append]
  simp
theorem dKr_all (s : M.Vw) : dKr s 5 0 = M.dgr s := by
  unfold dKr M.dgr dPr
  simp
end Go.Proofs.YtajiichehffaaaaDoor
