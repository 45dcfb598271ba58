/- Of two at once the first one wins (law ViewFirst), the walk. -/
import Derived.Test.YtajiichehffaaaaDoorVfc
import Derived.Test.YtajiichehffaaaaDoorBRf
import Derived.Deep.CutRange
namespace Go.Proofs.YtajiichehffaaaaDoor
open Go.RowKit
theorem call_at {P : Program} {f : Nat} {q : Value} (z : Nat) {W : World} {Q : Ending → World → Prop} (h : Calls P f #[q, .int .i64 (z : Nat)] W Q) : Calls P f #[q, .int .i64 (z : Nat)] W Q := h
theorem HN_true {s : M.Vw} {bg en : Nat → Nat} {i a b : Nat} (hq : M.FQ s bg en i) (hab : b < a) : a ∈ s.ro → b ∈ s.ro → (s.wr a &&& s.wr b) ≠ 0 → ¬ (bg a < en b ∧ bg b < en a) := fun ha hb hw e => by
  rcases hq.fin ha hb (by omega) hw with h | h
  · omega
  · omega
/-- what the program's store may write: all but the law's own three rows -/
def oF (N A : Nat) (k : Nat) : Prop := N ≤ k ∧ k ≠ A ∧ k ≠ A + 1 ∧ k ≠ A + 1 + 1
structure QF (N S A : Nat) (s : M.Vw) (bg en : Nat → Nat) (i : Nat) (w0 wr : World) : Prop where
  vv : VV (oF N A) S s wr
  fq : M.FQ s bg en i
  ra : RowAt 3 wr A (M.r5 s.wr)
  rb : RowAt 3 wr (A + 1) (M.r5 bg)
  rc : RowAt 3 wr (A + 1 + 1) (M.r5 en)
  bl : Below N w0 wr
  gt : N ≤ A
section
variable {N S A : Nat} {s s' : M.Vw} {bg en : Nat → Nat} {i : Nat} {w0 wr w1 : World}
theorem QF.later (h : QF N S A s bg en i w0 wr) (hb : Below wr.heap.size wr w1) : QF N S A s bg en i w0 w1 :=
  ⟨h.vv.below hb, h.fq, h.ra.below hb h.ra.lt, h.rb.below hb h.rb.lt, h.rc.below hb h.rc.lt, h.bl.trans (hb.mono (by have := h.rc.lt; have := h.gt; omega)), h.gt⟩
/-- behind a deed of the program's own -/
theorem QF.did (h : QF N S A s bg en i w0 wr) (hv : VV (oF N A) S s' w1) (hf : Frm (oF N A) wr w1) :
    VV (oF N A) S s' w1 ∧ RowAt 3 w1 A (M.r5 s.wr) ∧ RowAt 3 w1 (A + 1) (M.r5 bg) ∧ RowAt 3 w1 (A + 1 + 1) (M.r5 en) ∧ Below N w0 w1 :=
  ⟨hv, (hf.block A h.ra.lt (fun e => e.2.1 rfl)).trans h.ra, (hf.block (A + 1) h.rb.lt (fun e => e.2.2.1 rfl)).trans h.rb, (hf.block (A + 1 + 1) h.rc.lt (fun e => e.2.2.2 rfl)).trans h.rc, h.bl.trans (hf.below (by have := h.rc.lt; have := h.gt; omega) (fun k hk e => by have := e.1; omega))⟩
theorem VV.setO {O : Nat → Prop} (h : VV O S s wr) {B j : Nat} (hB : ¬ O B) (v : Value) : VV O S s (wr.setCell ⟨B, j, none⟩ v) :=
  h.frm (O' := fun k => k = B) ((Frm.refl (fun k => k = B) wr).set (p := ⟨B, j, none⟩) rfl _) (fun k ho e => hB (by rw [← e]; exact ho))
theorem QF.start {w w1 : World} (hN : w.heap.size = N) (hv : VV (fun k => N ≤ k) S M.vw0 w1) (hb : Below N w w1) :
    QF N S w1.heap.size M.vw0 (fun _ => 0) (fun _ => 0) 0 w (((w1.alloc (.cells (madeCells #[.int .i64 0] 5) 3)).alloc (.cells (madeCells #[.int .i64 0] 5) 3)).alloc (.cells (madeCells #[.int .i64 0] 5) 3)) := by
  have row : ∀ wx : World, RowAt 3 (wx.alloc (.cells (madeCells #[.int .i64 0] 5) 3)) wx.heap.size (List.replicate 5 0) := fun wx => by
    unfold RowAt
    rw [World.alloc_heap_new, made_arr]
  have B1 : ∀ wx : World, Below wx.heap.size wx (wx.alloc (.cells (madeCells #[.int .i64 0] 5) 3)) := fun wx => bel_al (Below.refl _ _) _
  have hn := hb.size
  rw [hN] at hn
  have h1 := row w1
  have b1 := B1 w1
  obtain ⟨w2, hw2⟩ : ∃ w2, w1.alloc (.cells (madeCells #[.int .i64 0] 5) 3) = w2 := ⟨_, rfl⟩
  rw [hw2] at h1 b1 ⊢
  have s2 : w2.heap.size = w1.heap.size + 1 := by rw [← hw2]; simp
  have h2 := row w2
  have b2 := B1 w2
  obtain ⟨w3, hw3⟩ : ∃ w3, w2.alloc (.cells (madeCells #[.int .i64 0] 5) 3) = w3 := ⟨_, rfl⟩
  rw [hw3] at h2 b2 ⊢
  have s3 : w3.heap.size = w1.heap.size + 2 := by rw [← hw3]; simp; omega
  have h3 := row w3
  have b3 := B1 w3
  obtain ⟨w4, hw4⟩ : ∃ w4, w3.alloc (.cells (madeCells #[.int .i64 0] 5) 3) = w4 := ⟨_, rfl⟩
  rw [hw4] at h3 b3 ⊢
  rw [s2] at h2
  rw [s3] at h3
  have hl := hv.lt
  have b14 : Below w1.heap.size w1 w4 := bel_on (bel_on b1 b2) b3
  have e5 : List.replicate 5 0 = M.r5 (fun _ => 0) := rfl
  refine ⟨(hv.mono (fun k hk e => ⟨e, by omega, by omega, by omega⟩)).below b14, M.FQ.zero, ?_, ?_, ?_, hb.trans (b14.mono hn), hn⟩
  · exact (h1.below b2 h1.lt).below b3 (by omega)
  · exact h2.below b3 (by omega)
  · exact h3
end
/-- the program's deed, the law's own copy of it in block A4 -/
theorem QF.deed {N S A i : Nat} {s : M.Vw} {bg en : Nat → Nat} {w0 wr : World} (h : QF N S A s bg en i w0 wr) (k t o x : Int) :
    Calls Tryd.prog 9 #[.pointer (some ⟨S, 0, none⟩), dvV k t o x] (wr.alloc (.cells #[.int .i64 k, .int .i64 t, .int .i64 o, .int .i64 x] 31)) fun e w' => e = .returned (.tuple #[.int .i64 (vwZ s k t o x).2.1, terr (vwZ s k t o x).2.2]) ∧
      Hid (VV (oF N A) S (vwZ s k t o x).1 w' ∧ RowAt 3 w' A (M.r5 s.wr) ∧ RowAt 3 w' (A + 1) (M.r5 bg) ∧ RowAt 3 w' (A + 1 + 1) (M.r5 en) ∧ Below N w0 w' ∧ DeAt ⟨k, t, o, x⟩ wr.heap.size 0 w') := by
  have hd := deAt_new wr ⟨k, t, o, x⟩
  have hb : Below wr.heap.size wr (wr.alloc (.cells #[.int .i64 k, .int .i64 t, .int .i64 o, .int .i64 x] 31)) := bel_al (Below.refl _ _) _
  have hsz : (wr.alloc (.cells #[.int .i64 k, .int .i64 t, .int .i64 o, .int .i64 x] 31)).heap.size = wr.heap.size + 1 := by simp
  simp only at hd
  obtain ⟨wa, hwa⟩ : ∃ wa, wr.alloc (.cells #[.int .i64 k, .int .i64 t, .int .i64 o, .int .i64 x] 31) = wa := ⟨_, rfl⟩
  rw [hwa] at hd hb hsz ⊢
  have h2 := h.later hb
  have hc := h.rc.lt
  have hg := h.gt
  refine (vdo_ok (O := fun j => oF N A j ∧ j ≠ wr.heap.size) k t o x wa ((h.vv.mono (fun j hj e => ⟨e, by omega⟩)).below hb) (fun j hj => ⟨⟨by omega, by omega, by omega, by omega⟩, by omega⟩) h.fq.vi).mono ?_
  rintro e w' ⟨rfl, h3, h4⟩
  obtain ⟨a1, a2, a3, a4, a5⟩ := h2.did (s' := (vwZ s k t o x).1) (w1 := w') (h3.mono (fun _ _ e => e.1)) (h4.mono (fun _ _ e => e.1))
  refine ⟨rfl, a1, a2, a3, a4, a5, ?_⟩
  have hb := h4.block wr.heap.size hd.lt (fun e => e.2 rfl)
  exact ⟨by have := h4.size; have := hd.lt; omega, (World.cell?_of_block (a := ⟨wr.heap.size, 0, none⟩) hb).trans hd.c0, (World.cell?_of_block (a := ⟨wr.heap.size, 1, none⟩) hb).trans hd.c1, (World.cell?_of_block (a := ⟨wr.heap.size, 2, none⟩) hb).trans hd.c2, (World.cell?_of_block (a := ⟨wr.heap.size, 3, none⟩) hb).trans hd.c3⟩
theorem QF.keep {N S A i : Nat} {s s' : M.Vw} {bg en : Nat → Nat} {w0 w' : World} {d : Dz} {B : Nat} (hg : N ≤ A) (h : Hid (VV (oF N A) S s' w' ∧ RowAt 3 w' A (M.r5 s.wr) ∧ RowAt 3 w' (A + 1) (M.r5 bg) ∧ RowAt 3 w' (A + 1 + 1) (M.r5 en) ∧ Below N w0 w' ∧ DeAt d B 0 w')) (hw : s'.wr = s.wr) (hq : M.FQ s' bg en i) : QF N S A s' bg en i w0 w' :=
  ⟨h.out.1, hq, by rw [hw]; exact h.out.2.1, h.out.2.2.1, h.out.2.2.2.1, h.out.2.2.2.2.1, hg⟩
section
variable {N S A i u : Nat} {s s' : M.Vw} {bg en : Nat → Nat} {w0 w' : World} {d : Dz} {B : Nat}
theorem QF.begC (hg : N ≤ A) (h : Hid (VV (oF N A) S s' w' ∧ RowAt 3 w' A (M.r5 s.wr) ∧ RowAt 3 w' (A + 1) (M.r5 bg) ∧ RowAt 3 w' (A + 1 + 1) (M.r5 en) ∧ Below N w0 w' ∧ DeAt d B 0 w')) (hw : s'.wr = s.wr) (hu : u < 5) {j : Nat} (hq : M.FQ s' (M.up1 bg u i) en j) : QF N S A s' (M.up1 bg u i) en j w0 (w'.setCell ⟨A + 1, u, none⟩ (.int .i64 (i : Nat))) :=
  ⟨h.out.1.setO (fun e => e.2.2.1 rfl) _, hq, by rw [hw]; exact h.out.2.1.other (a := ⟨A + 1, u, none⟩) (show A ≠ A + 1 by omega) _, by rw [← M.r5_set _ hu]; exact h.out.2.2.1.set u i, h.out.2.2.2.1.other (a := ⟨A + 1, u, none⟩) (show A + 1 + 1 ≠ A + 1 by omega) _, h.out.2.2.2.2.1.setCell (p := ⟨A + 1, u, none⟩) (show N ≤ A + 1 by omega) _, hg⟩
theorem QF.comC (hg : N ≤ A) (h : Hid (VV (oF N A) S s' w' ∧ RowAt 3 w' A (M.r5 s.wr) ∧ RowAt 3 w' (A + 1) (M.r5 bg) ∧ RowAt 3 w' (A + 1 + 1) (M.r5 en) ∧ Below N w0 w' ∧ DeAt d B 0 w')) (hw : s'.wr = s.wr) (hu : u < 5) {j : Nat} (hq : M.FQ s' bg (M.up1 en u i) j) : QF N S A s' bg (M.up1 en u i) j w0 (w'.setCell ⟨A + 1 + 1, u, none⟩ (.int .i64 (i : Nat))) :=
  ⟨h.out.1.setO (fun e => e.2.2.2 rfl) _, hq, by rw [hw]; exact h.out.2.1.other (a := ⟨A + 1 + 1, u, none⟩) (show A ≠ A + 1 + 1 by omega) _, h.out.2.2.1.other (a := ⟨A + 1 + 1, u, none⟩) (show A + 1 ≠ A + 1 + 1 by omega) _, by rw [← M.r5_set _ hu]; exact h.out.2.2.2.1.set u i, h.out.2.2.2.2.1.setCell (p := ⟨A + 1 + 1, u, none⟩) (show N ≤ A + 1 + 1 by omega) _, hg⟩
theorem QF.wrC (hg : N ≤ A) (h : Hid (VV (oF N A) S s' w' ∧ RowAt 3 w' A (M.r5 s.wr) ∧ RowAt 3 w' (A + 1) (M.r5 bg) ∧ RowAt 3 w' (A + 1 + 1) (M.r5 en) ∧ Below N w0 w' ∧ DeAt d B 0 w')) {v : Nat} (hw : s'.wr = M.up1 s.wr u v) (hu : u < 5) {j : Nat} (hq : M.FQ s' bg en j) : QF N S A s' bg en j w0 (w'.setCell ⟨A, u, none⟩ (.int .i64 (v : Nat))) :=
  ⟨h.out.1.setO (fun e => e.2.1 rfl) _, hq, by rw [hw, ← M.r5_set _ hu]; exact h.out.2.1.set u v, h.out.2.2.1.other (a := ⟨A, u, none⟩) (show A + 1 ≠ A by omega) _, h.out.2.2.2.1.other (a := ⟨A, u, none⟩) (show A + 1 + 1 ≠ A by omega) _, h.out.2.2.2.2.1.setCell (p := ⟨A, u, none⟩) hg _, hg⟩
end
set_option maxRecDepth 100000 in
set_option maxHeartbeats 8000000 in
theorem vf_walk (zs : List Dz) (p : Option Addr) (n cap : Nat) (w : World) (he : Env w) (hl : zs.length = n) (_ : n ≤ maxLen) (hc : HasD zs p w) :
    Calls Tryd.prog 5 #[.slice p n cap] w fun e w' => e = .returned (.bool true) ∧ Below w.heap.size w w' := by
  have hf := viewFact_ok w he
  have HC : Hid (HasD zs p w) := hc
  have hmk0 := run_make_row' (P := Tryd.prog) 32 3 (.int .i64 0) 8 Tryd.underlying32 Tryd.info3 rfl .i64 .i64 5 (by omega) (by omega)
  rw [show ((5 : Nat) : Int) = 5 from rfl] at hmk0
  obtain ⟨N, hN⟩ : ∃ N, w.heap.size = N := ⟨_, rfl⟩
  have HN : Hid (w.heap.size = N) := hN
  rw [hN]
  rw [hN] at hf
  clear he hc hN
  go_enter Tryd.func5, Tryd.ntmps5
  go_wp2_with fail
  refine hf.mono ?_
  rintro e w1 ⟨rfl, hB1⟩
  have H1 : Hid (Below N w w1) := hB1
  clear hf hB1
  go_wp2_with fail
  refine (vnew_ok (O := fun k => N ≤ k) w1 (by have := H1.out.size; rw [HN.out] at this; exact this)).mono ?_
  rintro e w2 ⟨S, hS, rfl, hT2, hB2⟩
  have H2 : Hid _ := QF.start HN.out hT2 (H1.out.trans (hB2.mono (by have := H1.out.size; rw [HN.out] at this; exact this)))
  obtain ⟨A, hA⟩ : ∃ A, w2.heap.size = A := ⟨_, rfl⟩
  clear hT2 hB2 H1
  clear hS
  go_wp2_with fail
  rw [hA] at H2
  clear hmk0 hA
  go_loopw [8] (fun u wr => ∃ (i : Nat) (s : M.Vw) (bg en : Nat → Nat), u = .int .i64 (i : Nat) ∧ i ≤ n ∧ i ≤ 60 ∧ Hid (QF N S A s bg en i w wr)) (fun u _ => 60 - (intOf u).toNat)
  case atStart => exact ⟨0, _, _, _, rfl, Nat.zero_le _, Nat.zero_le _, H2⟩
  case round =>
    clear H2
    obtain ⟨i, s, bg, en, rfl, hi, hi2, HP⟩ := hrel
    by_cases hlt : i < n ∧ i < 60
    · obtain ⟨h1, h2⟩ := hlt
      have h1i : (i : Int) < n := by omega
      have h2i : (i : Int) < 60 := by omega
      obtain ⟨b, off, rfl, hd⟩ := (HC.out.later (by rw [HN.out]; exact HP.out.bl)) i (by omega)
      obtain ⟨⟨k, t, o, x⟩, hz⟩ : ∃ d, dAt zs i = d := ⟨_, rfl⟩
      rw [hz] at hd
      have c0 := hd.c0
      have c1 := hd.c1
      have c2 := hd.c2
      have c3 := hd.c3
      have hb := hd.lt
      simp only at c0 c1 c2 c3
      have dd := HP.out.deed k t o x
      have HG : Hid (N ≤ A) := HP.out.gt
      have lC := HP.out.rc.lt
      obtain ⟨B4, hB4⟩ : ∃ B4, wr.heap.size = B4 := ⟨_, rfl⟩
      rw [hB4] at dd lC
      obtain ⟨wa, hwa⟩ : ∃ wa, wr.alloc (.cells #[.int .i64 k, .int .i64 t, .int .i64 o, .int .i64 x] 31) = wa := ⟨_, rfl⟩
      have Da : DeAt ⟨k, t, o, x⟩ B4 0 wa := by rw [← hwa, ← hB4]; exact deAt_new wr ⟨k, t, o, x⟩
      have q0 : wa.cell? ⟨B4, 0, none⟩ = some (.int .i64 k) := Da.c0
      have q1 : wa.cell? ⟨B4, 1, none⟩ = some (.int .i64 t) := Da.c1
      have q2 : wa.cell? ⟨B4, 2, none⟩ = some (.int .i64 o) := Da.c2
      have q3 : wa.cell? ⟨B4, 3, none⟩ = some (.int .i64 x) := Da.c3
      have lB4 := Da.lt
      rw [hwa] at dd
      have HQ : Hid (M.FQ s bg en i) := HP.out.fq
      clear hz hd Da HP
      rcases vwz_cases s k t o x with ⟨hne, hst⟩ | ⟨u, rfl, hu, hh⟩
      · rw [terr_ne hne] at dd
        have HQ2 : Hid ((vwZ s k t o x).1.wr = s.wr ∧ M.FQ (vwZ s k t o x).1 bg en (i + 1)) := by
          rcases hst with e | ⟨u, hu, hd1, e⟩
          · rw [e]; exact ⟨rfl, HQ.out.up (by omega)⟩
          · rw [e]; exact ⟨rfl, (HQ.out.stop hu hd1).up (by omega)⟩
        obtain ⟨n0, hn0⟩ : ∃ n, (vwZ s k t o x).2.1 = n := ⟨_, rfl⟩
        obtain ⟨cd, hcd⟩ : ∃ n, (vwZ s k t o x).2.2 = n := ⟨_, rfl⟩
        obtain ⟨s', hs'⟩ : ∃ n, (vwZ s k t o x).1 = n := ⟨_, rfl⟩
        rw [hn0, hcd, hs'] at dd
        rw [hs'] at HQ2
        clear hne hst hn0 hcd hs'
        go_wp2_with fail
        refine dd.mono ?_
        rintro e w3 ⟨rfl, h3⟩
        have H3 : Hid (QF N S A s' bg en (i + 1) w w3) := QF.keep HG.out h3 HQ2.out.1 HQ2.out.2
        clear dd h3 HQ2 c0 c1 c2 c3 q0 q1 q2 q3
        go_wp2_with fail
        go_roundw
        case rel => exact ⟨i + 1, _, _, _, by go_num, by omega, by omega, H3⟩
        case measure => simp [intOf]; omega
      have hu5 : (u : Int) < 5 := by omega
      have hu4 : (u : Int) ≤ 4 := by omega
      have hu4n : u ≤ 4 := by omega
      rcases hh with ⟨rfl, hd0, ev⟩ | ⟨rfl, hd1, hcl, ev⟩ | ⟨rfl, hd1, j, rfl, hj, hh⟩
      · rw [ev] at dd
        simp only [terr_zero] at dd
        have HQ2 : Hid (M.FQ (M.vBeg s u) (M.up1 bg u i) en (i + 1)) := HQ.out.beg hu hd0
        clear hd0 ev
        go_wp2_with fail
        refine dd.mono ?_
        rintro e w3 ⟨rfl, h3⟩
        have H3 : Hid (QF N S A (M.vBeg s u) (M.up1 bg u i) en (i + 1) w (w3.setCell ⟨A + 1, u, none⟩ (.int .i64 (i : Nat)))) := QF.begC HG.out h3 rfl hu HQ2.out
        have r0 : w3.cell? ⟨B4, 0, none⟩ = some (.int .i64 4) := h3.out.2.2.2.2.2.c0
        have r1 : w3.cell? ⟨B4, 1, none⟩ = some (.int .i64 (u : Nat)) := h3.out.2.2.2.2.2.c1
        have r2 : w3.cell? ⟨B4, 2, none⟩ = some (.int .i64 o) := h3.out.2.2.2.2.2.c2
        have r3 : w3.cell? ⟨B4, 3, none⟩ = some (.int .i64 x) := h3.out.2.2.2.2.2.c3
        have l3 := h3.out.2.2.2.2.2.lt
        have f1 := h3.out.2.2.1.frozen u
        have g1 := h3.out.2.2.1.cell (k := u) (by rw [M.r5_len]; exact hu)
        have g1l := h3.out.2.2.1.lt
        obtain ⟨y, hy⟩ : ∃ y, M.row (M.r5 bg) u = y := ⟨_, rfl⟩
        rw [hy] at g1
        obtain ⟨wz, hwz⟩ : ∃ wz, w3.setCell ⟨A + 1, u, none⟩ (.int .i64 (i : Nat)) = wz := ⟨_, rfl⟩
        rw [hwz] at H3
        have hbz : wz.heap[B4]? = w3.heap[B4]? := by rw [← hwz]; exact Below.heap_setCell _ _ _ _ (show B4 ≠ A + 1 by omega)
        have y0 : wz.cell? ⟨B4, 0, none⟩ = some (.int .i64 4) := (World.cell?_of_block (a := ⟨B4, 0, none⟩) hbz).trans r0
        have lz : B4 < wz.heap.size := by rw [← hwz]; simpa [World.setCell] using l3
        clear dd h3 HQ2 c0 c1 c2 c3 q0 q1 q2 q3 hy hbz
        go_wp2_with fail
        go_roundw
        case rel => exact ⟨i + 1, _, _, _, by go_num, by omega, by omega, H3⟩
        case measure => simp [intOf]; omega
      · rw [ev] at dd
        simp only [terr_zero] at dd
        have HQ2 : Hid (M.FQ (M.vCom s u) bg (M.up1 en u i) (i + 1)) := HQ.out.com hu hd1 hcl
        clear hd1 hcl ev
        go_wp2_with fail
        refine dd.mono ?_
        rintro e w3 ⟨rfl, h3⟩
        have H3 : Hid (QF N S A (M.vCom s u) bg (M.up1 en u i) (i + 1) w (w3.setCell ⟨A + 1 + 1, u, none⟩ (.int .i64 (i : Nat)))) := QF.comC HG.out h3 rfl hu HQ2.out
        have r0 : w3.cell? ⟨B4, 0, none⟩ = some (.int .i64 5) := h3.out.2.2.2.2.2.c0
        have r1 : w3.cell? ⟨B4, 1, none⟩ = some (.int .i64 (u : Nat)) := h3.out.2.2.2.2.2.c1
        have r2 : w3.cell? ⟨B4, 2, none⟩ = some (.int .i64 o) := h3.out.2.2.2.2.2.c2
        have r3 : w3.cell? ⟨B4, 3, none⟩ = some (.int .i64 x) := h3.out.2.2.2.2.2.c3
        have l3 := h3.out.2.2.2.2.2.lt
        have f1 := h3.out.2.2.2.1.frozen u
        have g1 := h3.out.2.2.2.1.cell (k := u) (by rw [M.r5_len]; exact hu)
        have g1l := h3.out.2.2.2.1.lt
        obtain ⟨y, hy⟩ : ∃ y, M.row (M.r5 en) u = y := ⟨_, rfl⟩
        rw [hy] at g1
        obtain ⟨wz, hwz⟩ : ∃ wz, w3.setCell ⟨A + 1 + 1, u, none⟩ (.int .i64 (i : Nat)) = wz := ⟨_, rfl⟩
        rw [hwz] at H3
        have hbz : wz.heap[B4]? = w3.heap[B4]? := by rw [← hwz]; exact Below.heap_setCell _ _ _ _ (show B4 ≠ A + 1 + 1 by omega)
        have y0 : wz.cell? ⟨B4, 0, none⟩ = some (.int .i64 5) := (World.cell?_of_block (a := ⟨B4, 0, none⟩) hbz).trans r0
        have lz : B4 < wz.heap.size := by rw [← hwz]; simpa [World.setCell] using l3
        clear dd h3 HQ2 c0 c1 c2 c3 q0 q1 q2 q3 hy hbz
        go_wp2_with fail
        go_roundw
        case rel => exact ⟨i + 1, _, _, _, by go_num, by omega, by omega, H3⟩
        case measure => simp [intOf]; omega
      have hj4 : (j : Int) < 4 := by omega
      have hj3 : (j : Int) ≤ 3 := by omega
      have hj3n : j ≤ 3 := by omega
      rcases hh with ⟨rfl, ev⟩ | hh
      · rw [ev] at dd
        simp only [terr_zero] at dd
        have HQ2 : Hid (M.FQ (M.vWr s u j) bg en (i + 1) ∧ s.wr u < 16) := ⟨(HQ.out.wrt hj hd1).up (by omega), HQ.out.vi.wb u⟩
        clear hd1 ev
        go_wp2_with fail
        refine dd.mono ?_
        rintro e w3 ⟨rfl, h3⟩
        have r0 : w3.cell? ⟨B4, 0, none⟩ = some (.int .i64 3) := h3.out.2.2.2.2.2.c0
        have r1 : w3.cell? ⟨B4, 1, none⟩ = some (.int .i64 (u : Nat)) := h3.out.2.2.2.2.2.c1
        have r2 : w3.cell? ⟨B4, 2, none⟩ = some (.int .i64 (j : Nat)) := h3.out.2.2.2.2.2.c2
        have r3 : w3.cell? ⟨B4, 3, none⟩ = some (.int .i64 1) := h3.out.2.2.2.2.2.c3
        have l3 := h3.out.2.2.2.2.2.lt
        have f1 := h3.out.2.1.frozen u
        have g1 := h3.out.2.1.cell (k := u) (by rw [M.r5_len]; exact hu)
        have g1l := h3.out.2.1.lt
        rw [M.r5_row _ hu] at g1
        have hwi := fun m => with_any (s.wr u) j (w3.drewN m) (by have := HQ2.out.2; omega) (by omega)
        have HRN : Hid (QF N S A (M.vWr s u j) bg en (i + 1) w (w3.setCell ⟨A, u, none⟩ (.int .i64 ((s.wr u ||| 1 <<< j : Nat) : Int))).drew) := (QF.wrC HG.out h3 rfl hu HQ2.out.1).later (Below.refl _ _).drew
        obtain ⟨r, hr⟩ : ∃ r, s.wr u = r := ⟨_, rfl⟩
        rw [hr] at g1 hwi HRN
        obtain ⟨z, hz⟩ : ∃ z : Nat, r ||| 1 <<< j = z := ⟨_, rfl⟩
        rw [hz] at HRN
        simp only [hz] at hwi
        clear dd h3 HQ2 c0 c1 c2 c3 q0 q1 q2 q3 hr hz
        go_wp2_with fail
        go_region_with (go_at_call 12; refine (hwi _).mono ?_; rintro e w' ⟨rfl, rfl⟩)
        all_goals go_wp2_with fail
        all_goals go_roundw
        all_goals first | exact ⟨i + 1, _, _, _, by go_num, by omega, by omega, HRN⟩ | (simp [intOf]; omega)
      · have HQ2 : Hid ((vwZ s 3 (u : Nat) (j : Nat) x).1.wr = s.wr ∧ M.FQ (vwZ s 3 (u : Nat) (j : Nat) x).1 bg en (i + 1) ∧ (vwZ s 3 (u : Nat) (j : Nat) x).2.2 = 0 ∧ x = 0) := by
          rcases hh with ⟨hx, _, e⟩ | ⟨hx, _, e⟩
          · rw [e]; exact ⟨rfl, HQ.out.up (by omega), rfl, hx⟩
          · rw [e]; exact ⟨rfl, (HQ.out.red hj hd1).up (by omega), rfl, hx⟩
        rw [HQ2.out.2.2.1] at dd
        rw [terr_zero] at dd
        have hx1 : (x == (1 : Int)) = false := by rw [HQ2.out.2.2.2]; rfl
        obtain ⟨n0, hn0⟩ : ∃ n, (vwZ s 3 (u : Nat) (j : Nat) x).2.1 = n := ⟨_, rfl⟩
        obtain ⟨s', hs'⟩ : ∃ n, (vwZ s 3 (u : Nat) (j : Nat) x).1 = n := ⟨_, rfl⟩
        rw [hn0, hs'] at dd
        rw [hs'] at HQ2
        clear hh hd1 hn0 hs'
        go_wp2_with fail
        refine dd.mono ?_
        rintro e w3 ⟨rfl, h3⟩
        have H3 : Hid (QF N S A s' bg en (i + 1) w w3) := QF.keep HG.out h3 HQ2.out.1 HQ2.out.2.1
        have r0 : w3.cell? ⟨B4, 0, none⟩ = some (.int .i64 3) := h3.out.2.2.2.2.2.c0
        have r1 : w3.cell? ⟨B4, 1, none⟩ = some (.int .i64 (u : Nat)) := h3.out.2.2.2.2.2.c1
        have r2 : w3.cell? ⟨B4, 2, none⟩ = some (.int .i64 (j : Nat)) := h3.out.2.2.2.2.2.c2
        have r3 : w3.cell? ⟨B4, 3, none⟩ = some (.int .i64 x) := h3.out.2.2.2.2.2.c3
        have l3 := h3.out.2.2.2.2.2.lt
        clear dd h3 HQ2 c0 c1 c2 c3 q0 q1 q2 q3
        go_wp2_with fail
        go_roundw
        case rel => exact ⟨i + 1, _, _, _, by go_num, by omega, by omega, H3⟩
        case measure => simp [intOf]; omega
    · have hdec : (n : Int) ≤ (i : Int) ∨ ((i : Int) < (n : Int) ∧ (60 : Int) ≤ (i : Int)) := by
        by_cases hn : i < n
        · exact .inr ⟨by omega, by omega⟩
        · exact .inl (by omega)
      clear hlt
      have hcm := vcommitted_ok wr HP.out.vv
      have hcl := M.comS_lt s
      have HCB : Hid (∀ t, (M.comS s).testBit t = decide (t ∈ s.ro)) := M.comS_bit HP.out.fq.vi
      obtain ⟨q, hq⟩ : ∃ q, M.comS s = q := ⟨_, rfl⟩
      rw [hq] at hcm hcl HCB
      have hq31 : (q : Int) ≤ 31 := by omega
      have hq31n : q ≤ 31 := by omega
      clear hq
      rcases hdec with hd1 | ⟨hd1, hd2⟩
      all_goals
        go_wp2_with fail
        refine hcm.mono ?_
        rintro e w3 ⟨rfl, hB3⟩
        have H3 : Hid (QF N S A s bg en i w w3) := HP.out.later hB3
        clear hcm hB3
        go_wp2_with fail
        go_loopw [13] (fun v wr => ∃ a : Nat, v = .int .i64 (a : Nat) ∧ a ≤ 5 ∧ Hid (QF N S A s bg en i w wr)) (fun v _ => 5 - (intOf v).toNat)
        case atStart => exact ⟨0, rfl, Nat.zero_le _, H3⟩
        case round =>
          clear H3
          obtain ⟨a, rfl, ha, H3⟩ := hrel
          by_cases ha5 : a < 5
          · have hai : (a : Int) < 5 := by omega
            go_wp2_with fail
            go_loopw [14] (fun v wr => ∃ b : Nat, v = .int .i64 (b : Nat) ∧ b ≤ a ∧ Hid (QF N S A s bg en i w wr)) (fun v _ => a - (intOf v).toNat)
            case atStart => exact ⟨0, rfl, Nat.zero_le _, H3⟩
            case round =>
              clear H3
              obtain ⟨b, rfl, hb, H3⟩ := hrel
              by_cases hba : b < a
              · have hbi : (b : Int) < (a : Int) := by omega
                have hb5 : (b : Int) < 5 := by omega
                have hQ := H3.out
                have ka := hQ.ra.cell (k := a) (by rw [M.r5_len]; exact ha5)
                have kb := hQ.ra.cell (k := b) (by rw [M.r5_len]; omega)
                have la := hQ.ra.lt
                have ea := hQ.rb.cell (k := a) (by rw [M.r5_len]; exact ha5)
                have eb := hQ.rb.cell (k := b) (by rw [M.r5_len]; omega)
                have lb := hQ.rb.lt
                have da := hQ.rc.cell (k := a) (by rw [M.r5_len]; exact ha5)
                have db := hQ.rc.cell (k := b) (by rw [M.r5_len]; omega)
                have lc := hQ.rc.lt
                rw [M.r5_row _ ha5] at ka ea da
                rw [M.r5_row _ (by omega)] at kb eb db
                have HFIN : Hid (q.testBit a = true → q.testBit b = true → (s.wr a &&& s.wr b) ≠ 0 → ¬ (bg a < en b ∧ bg b < en a)) := fun h1 h2 => HN_true hQ.fq hba (of_decide_eq_true ((HCB.out a).symm.trans h1)) (of_decide_eq_true ((HCB.out b).symm.trans h2))
                have hbA : ∀ W : World, Calls Tryd.prog 13 #[.int .i64 (q : Nat), .int .i64 (a : Nat)] W fun e w' => e = .returned (.bool (q.testBit a)) ∧ W = w' := fun W => bit_any q a W (by omega) (by omega)
                have hbB : ∀ W : World, Calls Tryd.prog 13 #[.int .i64 (q : Nat), .int .i64 (b : Nat)] W fun e w' => e = .returned (.bool (q.testBit b)) ∧ W = w' := fun W => bit_any q b W (by omega) (by omega)
                have hbo : ∀ W : World, Calls Tryd.prog 15 #[.int .i64 (s.wr a : Nat), .int .i64 (s.wr b : Nat)] W fun e w' => e = .returned (.int .i64 ((s.wr a &&& s.wr b : Nat) : Int)) ∧ W = w' := fun W => both_any _ _ W (by have := hQ.fq.vi.wb a; omega) (by have := hQ.fq.vi.wb b; omega)
                obtain ⟨x1, hx1⟩ : ∃ x, s.wr a = x := ⟨_, rfl⟩
                obtain ⟨x2, hx2⟩ : ∃ x, s.wr b = x := ⟨_, rfl⟩
                obtain ⟨y1, hy1⟩ : ∃ x, bg a = x := ⟨_, rfl⟩
                obtain ⟨y2, hy2⟩ : ∃ x, bg b = x := ⟨_, rfl⟩
                obtain ⟨z1, hz1⟩ : ∃ x, en a = x := ⟨_, rfl⟩
                obtain ⟨z2, hz2⟩ : ∃ x, en b = x := ⟨_, rfl⟩
                rw [hx1] at ka hbo HFIN
                rw [hx2] at kb hbo HFIN
                rw [hy1] at ea HFIN
                rw [hy2] at eb HFIN
                rw [hz1] at da HFIN
                rw [hz2] at db HFIN
                obtain ⟨xx, hxx⟩ : ∃ x, x1 &&& x2 = x := ⟨_, rfl⟩
                simp only [hxx] at hbo HFIN
                clear hQ hx1 hx2 hy1 hy2 hz1 hz2 hxx
                cases c1 : q.testBit a with
                | false =>
                  rw [c1] at hbA
                  clear HFIN c1
                  go_wp2_with fail
                  go_big_quiet (first | (go_at_call 13; first | (with_reducible refine call_at (z := a) ?_; exact Calls.quiet_of_same ((hbA _).mono (fun e w' h => ⟨h.1, h.2.symm⟩))) | (with_reducible refine call_at (z := b) ?_; exact Calls.quiet_of_same ((hbB _).mono (fun e w' h => ⟨h.1, h.2.symm⟩)))) | (go_at_call 15; exact Calls.quiet_of_same ((hbo _).mono (fun e w' h => ⟨h.1, h.2.symm⟩))))
                  go_wp2_with fail
                  go_roundw
                  case rel => exact ⟨b + 1, by go_num, by omega, H3.out.later (below_drewN _ _)⟩
                  case measure => simp [intOf]; omega
                | true =>
                rw [c1] at hbA
                cases c2 : q.testBit b with
                | false =>
                  rw [c2] at hbB
                  clear HFIN c1 c2
                  go_wp2_with fail
                  go_big_quiet (first | (go_at_call 13; first | (with_reducible refine call_at (z := a) ?_; exact Calls.quiet_of_same ((hbA _).mono (fun e w' h => ⟨h.1, h.2.symm⟩))) | (with_reducible refine call_at (z := b) ?_; exact Calls.quiet_of_same ((hbB _).mono (fun e w' h => ⟨h.1, h.2.symm⟩)))) | (go_at_call 15; exact Calls.quiet_of_same ((hbo _).mono (fun e w' h => ⟨h.1, h.2.symm⟩))))
                  go_wp2_with fail
                  go_roundw
                  case rel => exact ⟨b + 1, by go_num, by omega, H3.out.later (below_drewN _ _)⟩
                  case measure => simp [intOf]; omega
                | true =>
                rw [c2] at hbB
                by_cases c3 : xx = 0
                · have b3 : ((xx : Int) != 0) = false := by rw [c3]; rfl
                  clear HFIN c1 c2 c3
                  go_wp2_with fail
                  go_big_quiet (first | (go_at_call 13; first | (with_reducible refine call_at (z := a) ?_; exact Calls.quiet_of_same ((hbA _).mono (fun e w' h => ⟨h.1, h.2.symm⟩))) | (with_reducible refine call_at (z := b) ?_; exact Calls.quiet_of_same ((hbB _).mono (fun e w' h => ⟨h.1, h.2.symm⟩)))) | (go_at_call 15; exact Calls.quiet_of_same ((hbo _).mono (fun e w' h => ⟨h.1, h.2.symm⟩))))
                  go_wp2_with fail
                  go_roundw
                  case rel => exact ⟨b + 1, by go_num, by omega, H3.out.later (below_drewN _ _)⟩
                  case measure => simp [intOf]; omega
                have b3 : ((xx : Int) != 0) = true := by simp; omega
                have hfin := HFIN.out c1 c2 c3
                clear HFIN c1 c2 c3
                by_cases c4 : y1 < z2
                case neg =>
                  have b4 : decide ((y1 : Int) < (z2 : Int)) = false := decide_eq_false (by omega)
                  have b4' : decide (y1 < z2) = false := decide_eq_false c4
                  clear hfin c4
                  go_wp2_with fail
                  go_big_quiet (first | (go_at_call 13; first | (with_reducible refine call_at (z := a) ?_; exact Calls.quiet_of_same ((hbA _).mono (fun e w' h => ⟨h.1, h.2.symm⟩))) | (with_reducible refine call_at (z := b) ?_; exact Calls.quiet_of_same ((hbB _).mono (fun e w' h => ⟨h.1, h.2.symm⟩)))) | (go_at_call 15; exact Calls.quiet_of_same ((hbo _).mono (fun e w' h => ⟨h.1, h.2.symm⟩))))
                  go_wp2_with fail
                  go_roundw
                  case rel => exact ⟨b + 1, by go_num, by omega, H3.out.later (below_drewN _ _)⟩
                  case measure => simp [intOf]; omega
                have b4 : decide ((y1 : Int) < (z2 : Int)) = true := decide_eq_true (by omega)
                have b4' : decide (y1 < z2) = true := decide_eq_true c4
                have c5 : ¬ y2 < z1 := fun h => hfin ⟨c4, h⟩
                have b5 : decide ((y2 : Int) < (z1 : Int)) = false := decide_eq_false (by omega)
                have b5' : decide (y2 < z1) = false := decide_eq_false c5
                clear hfin c4 c5
                go_wp2_with fail
                go_big_quiet (first | (go_at_call 13; first | (with_reducible refine call_at (z := a) ?_; exact Calls.quiet_of_same ((hbA _).mono (fun e w' h => ⟨h.1, h.2.symm⟩))) | (with_reducible refine call_at (z := b) ?_; exact Calls.quiet_of_same ((hbB _).mono (fun e w' h => ⟨h.1, h.2.symm⟩)))) | (go_at_call 15; exact Calls.quiet_of_same ((hbo _).mono (fun e w' h => ⟨h.1, h.2.symm⟩))))
                go_wp2_with fail
                go_roundw
                case rel => exact ⟨b + 1, by go_num, by omega, H3.out.later (below_drewN _ _)⟩
                case measure => simp [intOf]; omega
              · obtain rfl : a = b := by omega
                go_wp2_with fail
                go_roundw
                case rel => exact ⟨a + 1, by go_num, by omega, H3⟩
                case measure => simp [intOf]; omega
          · obtain rfl : a = 5 := by omega
            go_wp2_with fail
            go_ret
            exact ⟨rfl, H3.out.bl⟩
end Go.Proofs.YtajiichehffaaaaDoor
