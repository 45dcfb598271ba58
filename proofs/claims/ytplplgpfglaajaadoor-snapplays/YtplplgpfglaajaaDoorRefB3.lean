/- A process of the document's own bank notes (package whensteadref2, note). -/
import Derived.Test.YtplplgpfglaajaaDoorRefB2
import Derived.StillTailTactics
namespace Go.Proofs.YtplplgpfglaajaaDoor
open Go.RowKit
def v0 : RV := ⟨none, 0, none, 0, none, 0, none, 0, none, 0, fun _ => .slice none 0 0⟩
theorem rbF_set5 (n : Nat) (be be' : Bool) (v : RV) (k : Nat) (hk : k < 6) : (if k = 5 then Value.bool be' else rbF n be v k) = rbF n be' v k := by
  unfold rbF
  by_cases e : k = 5
  · subst e; simp
  · rw [if_neg e]
    have : k = 0 ∨ k = 1 ∨ k = 2 ∨ k = 3 ∨ k = 4 := by omega
    rcases this with rfl | rfl | rfl | rfl | rfl <;> simp
theorem rbF_set1 (n : Nat) (be : Bool) (v : RV) (p : Option Addr) (c : Nat) (k : Nat) (hk : k < 6) : (if k = 1 then Value.slice p n c else rbF n be v k) = rbF n be { v with pn := p, cn := c } k := by
  unfold rbF
  have : k = 0 ∨ k = 1 ∨ k = 2 ∨ k = 3 ∨ k = 4 ∨ k = 5 := by omega
  rcases this with rfl | rfl | rfl | rfl | rfl | rfl <;> simp
theorem rbF_set2 (n : Nat) (be : Bool) (v : RV) (p : Option Addr) (c : Nat) (f : Nat → Value) (k : Nat) (hk : k < 6) : (if k = 2 then Value.slice p (n * n) c else rbF n be v k) = rbF n be { v with pw := p, cw := c, vw := f } k := by
  unfold rbF
  have : k = 0 ∨ k = 1 ∨ k = 2 ∨ k = 3 ∨ k = 4 ∨ k = 5 := by omega
  rcases this with rfl | rfl | rfl | rfl | rfl | rfl <;> simp
theorem rbF_set0 (n : Nat) (be : Bool) (v : RV) (p : Option Addr) (c : Nat) (k : Nat) (hk : k < 6) : (if k = 0 then Value.slice p n c else rbF n be v k) = rbF n be { v with pm := p, cm := c } k := by
  unfold rbF
  have : k = 0 ∨ k = 1 ∨ k = 2 ∨ k = 3 ∨ k = 4 ∨ k = 5 := by omega
  rcases this with rfl | rfl | rfl | rfl | rfl | rfl <;> simp
theorem rbF_set3 (n : Nat) (be : Bool) (v : RV) (p : Option Addr) (c : Nat) (k : Nat) (hk : k < 6) : (if k = 3 then Value.slice p (n * n) c else rbF n be v k) = rbF n be { v with ph := p, ch := c } k := by
  unfold rbF
  have : k = 0 ∨ k = 1 ∨ k = 2 ∨ k = 3 ∨ k = 4 ∨ k = 5 := by omega
  rcases this with rfl | rfl | rfl | rfl | rfl | rfl <;> simp
theorem rbF_set4 (n : Nat) (be : Bool) (v : RV) (p : Option Addr) (c : Nat) (k : Nat) (hk : k < 6) : (if k = 4 then Value.slice p (n * n) c else rbF n be v k) = rbF n be { v with pc := p, cc := c } k := by
  unfold rbF
  have : k = 0 ∨ k = 1 ∨ k = 2 ∨ k = 3 ∨ k = 4 ∨ k = 5 := by omega
  rcases this with rfl | rfl | rfl | rfl | rfl | rfl <;> simp
/-- A bank in block L. -/
def LB (L n : Nat) (be : Bool) (v : RV) (w : World) : Prop := w.rowIs L 27 6 (rbF n be v)
section
variable {L n : Nat} {be : Bool} {v : RV} {w w' : World}
theorem LB.below (h : LB L n be v w) {N : Nat} (hb : Below N w w') (hN : L < N) : LB L n be v w' := World.rowIs.of_block h (hb.block _ hN)
theorem LB.c0 (h : LB L n be v w) : w.cell? ⟨L, 0, none⟩ = some (.slice v.pm n v.cm) := World.rowIs.cell h (i := 0) (by omega)
theorem LB.c1 (h : LB L n be v w) : w.cell? ⟨L, 1, none⟩ = some (.slice v.pn n v.cn) := World.rowIs.cell h (i := 1) (by omega)
theorem LB.c2 (h : LB L n be v w) : w.cell? ⟨L, 2, none⟩ = some (.slice v.pw (n * n) v.cw) := World.rowIs.cell h (i := 2) (by omega)
theorem LB.c3 (h : LB L n be v w) : w.cell? ⟨L, 3, none⟩ = some (.slice v.ph (n * n) v.ch) := World.rowIs.cell h (i := 3) (by omega)
theorem LB.c4 (h : LB L n be v w) : w.cell? ⟨L, 4, none⟩ = some (.slice v.pc (n * n) v.cc) := World.rowIs.cell h (i := 4) (by omega)
theorem LB.c5 (h : LB L n be v w) : w.cell? ⟨L, 5, none⟩ = some (.bool be) := World.rowIs.cell h (i := 5) (by omega)
theorem LB.fz (h : LB L n be v w) (i : Nat) : w.frozen? ⟨L, i, none⟩ = false := World.rowIs.frozen h i
theorem LB.lt (h : LB L n be v w) : L < w.heap.size := World.rowIs.lt h
theorem LB.other (h : LB L n be v w) {a : Addr} (ha : L ≠ a.block) (u : Value) : LB L n be v (w.setCell a u) := World.rowIs.setOther h ha u
theorem LB.drew (h : LB L n be v w) : LB L n be v w.drew := h
theorem LB.s5 (h : LB L n be v w) (be' : Bool) : LB L n be' v (w.setCell ⟨L, 5, none⟩ (.bool be')) := (World.rowIs.set h 5 _).congr (fun k hk => rbF_set5 n be be' v k hk)
theorem LB.s0 (h : LB L n be v w) (p : Option Addr) (c : Nat) : LB L n be { v with pm := p, cm := c } (w.setCell ⟨L, 0, none⟩ (.slice p n c)) := (World.rowIs.set h 0 _).congr (fun k hk => rbF_set0 n be v p c k hk)
theorem LB.s1 (h : LB L n be v w) (p : Option Addr) (c : Nat) : LB L n be { v with pn := p, cn := c } (w.setCell ⟨L, 1, none⟩ (.slice p n c)) := (World.rowIs.set h 1 _).congr (fun k hk => rbF_set1 n be v p c k hk)
theorem LB.s2 (h : LB L n be v w) (p : Option Addr) (c : Nat) (f : Nat → Value) : LB L n be { v with pw := p, cw := c, vw := f } (w.setCell ⟨L, 2, none⟩ (.slice p (n * n) c)) := (World.rowIs.set h 2 _).congr (fun k hk => rbF_set2 n be v p c f k hk)
theorem LB.s3 (h : LB L n be v w) (p : Option Addr) (c : Nat) : LB L n be { v with ph := p, ch := c } (w.setCell ⟨L, 3, none⟩ (.slice p (n * n) c)) := (World.rowIs.set h 3 _).congr (fun k hk => rbF_set3 n be v p c k hk)
theorem LB.s4 (h : LB L n be v w) (p : Option Addr) (c : Nat) : LB L n be { v with pc := p, cc := c } (w.setCell ⟨L, 4, none⟩ (.slice p (n * n) c)) := (World.rowIs.set h 4 _).congr (fun k hk => rbF_set4 n be v p c k hk)
end
/-- what a bank's lists are is not told by a block of G's own that is none of theirs -/
theorem FI.set {G : Nat → Prop} {n : Nat} {f : Nat → Value} {p : Option Addr} {w : World} (h : FI G n f p w) {a : Addr} (ha : ¬ G a.block) (u : Value) : FI G n f p (w.setCell a u) := fun j hj => by
  obtain ⟨b, off, h1, h2, h3, h4⟩ := h j hj
  refine ⟨b, off, h1, by simpa [World.setCell] using h2, h3, ?_⟩
  rw [← h4]
  exact World.cell?_of_block (Below.heap_setCell _ _ _ _ (fun e => ha (e ▸ h3)))
theorem RB.set {G : Nat → Prop} {n : Nat} {b : M.Bk} {v : RV} {w : World} (h : RB G n b v w) {a : Addr} (ha : ¬ G a.block) (u : Value) : RB G n b v (w.setCell a u) :=
  ⟨h.mo.set ha u, h.no.set ha u, h.wy.set ha u, fun p q hp hq => by
    obtain ⟨ad, c, h1, h2, h3, h4, h5⟩ := h.wv p q hp hq
    exact ⟨ad, c, h1, h2, h3, h4, h5.set ha u⟩, h.he.set ha u, h.ca.set ha u, h.cw, h.cc⟩
set_option maxRecDepth 100000 in
set_option maxHeartbeats 2000000 in
theorem rnote_ok {G : Nat → Prop} {n : Nat} {b : M.Bk} (be : Bool) (v : RV) (p : Nat) (w : World) (hR : RB G n b v w) (hG : ∀ k, w.heap.size ≤ k → G k) (hp : p < n) (hn : n ≤ 5) (hl : ∀ q, (b.wy p q).length ≤ 50) :
    Calls Tryd.prog 17 #[rbV n be v, .int .i64 p] w fun e w' => ∃ v', e = .returned (rbV n true v') ∧ RB G n (M.noteB n b p) v' w' ∧ Below w.heap.size w w' := by
  obtain ⟨w1, hw1⟩ : ∃ w1, w.alloc (.cells #[.slice v.pm n v.cm, .slice v.pn n v.cn, .slice v.pw (n * n) v.cw, .slice v.ph (n * n) v.ch, .slice v.pc (n * n) v.cc, .bool be] 27) = w1 := ⟨_, rfl⟩
  obtain ⟨w2, hw2⟩ : ∃ w2, w1.alloc (.cells #[.slice none 0 0, .slice none 0 0, .slice none 0 0, .slice none 0 0, .slice none 0 0, .bool false] 27) = w2 := ⟨_, rfl⟩
  have s1 : w1.heap.size = w.heap.size + 1 := by subst hw1; simp
  have L1 : LB w.heap.size n be v w1 := by rw [← hw1]; exact rb_alloc w n be v
  have B1 : Below w.heap.size w w1 := by rw [← hw1]; exact bel_al (Below.refl _ _) _
  have B2' : Below w1.heap.size w1 w2 := by rw [← hw2]; exact bel_al (Below.refl _ _) _
  have L2 : LB w.heap.size n be v w2 := L1.below B2' L1.lt
  have Z2 : LB (w.heap.size + 1) 0 false v0 w2 := by rw [← s1, ← hw2]; exact rb_alloc w1 0 false v0
  have B2 : Below w.heap.size w w2 := bel_on B1 B2'
  obtain ⟨w3, hw3⟩ : ∃ w3, w2.setCell ⟨w.heap.size, 5, none⟩ (.bool true) = w3 := ⟨_, rfl⟩
  have L3 : LB w.heap.size n true v w3 := by rw [← hw3]; exact L2.s5 true
  have Z3 : LB (w.heap.size + 1) 0 false v0 w3 := by rw [← hw3]; exact Z2.other (a := ⟨w.heap.size, 5, none⟩) (show w.heap.size + 1 ≠ w.heap.size by omega) _
  have B3 : Below w.heap.size w w3 := by rw [← hw3]; exact B2.setCell (p := ⟨w.heap.size, 5, none⟩) (Nat.le_refl _) _
  obtain ⟨G', hG'⟩ : ∃ G' : Nat → Prop, G' = fun k => G k ∧ k ≠ w.heap.size ∧ k ≠ w.heap.size + 1 := ⟨_, rfl⟩
  have FR : ∀ k, w.heap.size + 1 < k → G' k := fun k hk => by rw [hG']; exact ⟨hG k (by omega), by omega, by omega⟩
  have BK : ∀ k, G' k → G k := fun k hk => by rw [hG'] at hk; exact hk.1
  have NL : ¬ G' w.heap.size := fun e => by rw [hG'] at e; exact e.2.1 rfl
  have NL1 : ¬ G' (w.heap.size + 1) := fun e => by rw [hG'] at e; exact e.2.2 rfl
  have R0 : RB G' n b v w := hR.mono (fun k hk hg => by rw [hG']; exact ⟨hg, by omega, by omega⟩)
  have R3 : RB G' n { b with be := true } v w3 := (R0.later B3).be true
  have s3 : w.heap.size + 1 < w3.heap.size := Z3.lt
  have lL := L3.lt
  have d0 := L2.c0
  have d5 := L2.c5
  have g5 := L2.fz 5
  clear hG' hR hG R0 L1 B1 B2' L2 Z2 B2
  obtain ⟨pm, cm, pn, cn, pw, cw, ph, ch, pc, cc, vw⟩ := v
  have a0 := L3.c0
  have a1 := L3.c1
  have f1 := L3.fz 1
  obtain ⟨bm, om, em, hbm, _, hcm⟩ := R3.mo.at_ (by omega)
  have em' : pm = some ⟨bm, om, none⟩ := em
  subst em'
  have cmp := hcm p hp
  have NO : Hid (FI G' n (fun j => .int .i64 (b.no j)) pn w3) := R3.no
  have HR3 : Hid (RB G' n { b with be := true } ⟨some ⟨bm, om, none⟩, cm, pn, cn, pw, cw, ph, ch, pc, cc, vw⟩ w3) := R3
  have HL3 : Hid (LB w.heap.size n true ⟨some ⟨bm, om, none⟩, cm, pn, cn, pw, cw, ph, ch, pc, cc, vw⟩ w3) := L3
  have HZ3 : Hid (LB (w.heap.size + 1) 0 false v0 w3) := Z3
  have HB3 : Hid (Below w.heap.size w w3) := B3
  have hpi : (p : Int) < n := by omega
  obtain ⟨mo, hmo⟩ : ∃ mo, b.mo p = mo := ⟨_, rfl⟩
  have cmp' : w3.cell? ⟨bm, om + p, none⟩ = some (.int .i64 mo) := by rw [← hmo]; exact cmp
  have HMO : Hid (b.mo p = mo) := hmo
  simp only at a0 a1 d0
  clear R3 L3 Z3 B3 hcm cmp hmo em
  simp only [rbV] at hw1 ⊢
  go_enter Tryd.func17, Tryd.ntmps17
  go_wp2_with fail
  go_still_tail 8, (by kernel_rfl)
  go_wp2_with fail
  refine (with_ok (G := G') b.no n p mo pn cn w3.drew (by omega) hp NO.out).mono ?_
  rintro e w4 ⟨p', c', rfl, _, _, hF4, hB4⟩
  have hB4' : Below w3.heap.size w3 w4 := (Below.refl _ w3).drew.trans hB4
  have s4 : w3.heap.size ≤ w4.heap.size := hB4'.size
  have L4 := HL3.out.below hB4' lL
  have e1 := L4.c1
  have g1 := L4.fz 1
  simp only at e1
  obtain ⟨w5, hw5⟩ : ∃ w5, w4.setCell ⟨w.heap.size, 1, none⟩ (.slice p' n c') = w5 := ⟨_, rfl⟩
  have R4 : RB G' n (M.noteK b p 0) ⟨some ⟨bm, om, none⟩, cm, p', c', pw, cw, ph, ch, pc, cc, vw⟩ w4 := by
    have e : M.noteK b p 0 = { { b with be := true } with no := M.upd1 b.no p mo } := by
      rw [← HMO.out]
      unfold M.noteK
      congr 1
      funext a c
      rw [if_neg (fun x => absurd x.2.2 (Nat.not_lt_zero _))]
    rw [e]
    exact HR3.out.setN hB4' (hF4.mono (fun k _ hk => FR k (by have : w3.heap.size ≤ k := hk; omega)))
  have R5 : Hid (RB G' n (M.noteK b p 0) ⟨some ⟨bm, om, none⟩, cm, p', c', pw, cw, ph, ch, pc, cc, vw⟩ w5) := by rw [← hw5]; exact R4.set (a := ⟨w.heap.size, 1, none⟩) NL _
  have L5 : Hid (LB w.heap.size n true ⟨some ⟨bm, om, none⟩, cm, p', c', pw, cw, ph, ch, pc, cc, vw⟩ w5) := by rw [← hw5]; exact L4.s1 p' c'
  have Z5 : Hid (LB (w.heap.size + 1) 0 false v0 w5) := by rw [← hw5]; exact (HZ3.out.below hB4' s3).other (a := ⟨w.heap.size, 1, none⟩) (show w.heap.size + 1 ≠ w.heap.size by omega) _
  have B5 : Hid (Below w.heap.size w w5) := by rw [← hw5]; exact (HB3.out.trans (hB4'.mono HB3.out.size)).setCell (p := ⟨w.heap.size, 1, none⟩) (Nat.le_refl _) _
  have NL' : Hid (¬ G' w.heap.size) := NL
  have NL2 : Hid (¬ G' (w.heap.size + 1)) := NL1
  have FR' : Hid (∀ k, w.heap.size + 1 < k → G' k) := FR
  have BK' : Hid (∀ k, G' k → G k) := BK
  have hl' : Hid (∀ q, (b.wy p q).length ≤ 50) := hl
  clear R4 L4 HR3 HL3 HZ3 HB3 hB4 hB4' hF4 NO a0 a1 f1 cmp' hbm d0 d5 g5 hw3 hw2 hw1 NL NL1 FR BK hl
  go_wp2_with fail
  clear hw5 e1 g1
  go_loopw [6] (fun u wr => ∃ (k : Nat) (v' : RV), u = .int .i64 k ∧ k ≤ n ∧ Hid (RB G' n (M.noteK b p k) v' wr) ∧ Hid (LB w.heap.size n true v' wr) ∧ Hid (LB (w.heap.size + 1) 0 false v0 wr) ∧ Hid (Below w.heap.size w wr)) (fun u _ => n - (intOf u).toNat)
  case atStart => exact ⟨0, _, rfl, Nat.zero_le _, R5, L5, Z5, B5⟩
  case round =>
    clear R5 L5 Z5 B5
    obtain ⟨k, v', rfl, hk, hR, hL, hZ, hB⟩ := hrel
    by_cases hlt : k < n
    · have hki : (k : Int) < n := by omega
      by_cases e : k = p
      · subst e
        have HR : Hid (RB G' n (M.noteK b k (k + 1)) v' wr) := by rw [M.noteK_self]; exact hR
        clear hR
        go_wp2_with fail
        go_roundw
        case rel => exact ⟨k + 1, v', by go_num, by omega, HR, hL, hZ, hB⟩
        case measure => simp [intOf]; omega
      · have hd : ((k : Int) != (p : Int)) = true := by simp; omega
        have hd' : (k != p) = true := by simp; omega
        have HE : Hid (¬ k = p) := e
        clear e
        obtain ⟨N2, hN2⟩ : ∃ N2, n * n = N2 := ⟨_, rfl⟩
        obtain ⟨m, hm⟩ : ∃ m, p * n = m := ⟨_, rfl⟩
        obtain ⟨j, hj⟩ : ∃ j, m + k = j := ⟨_, rfl⟩
        have hjl : j < N2 := by rw [← hj, ← hm, ← hN2]; exact pair_lt hp hlt
        have hN25 : N2 ≤ 25 := by
          have := Nat.mul_le_mul hn hn
          omega
        have hmi : (p : Int) * (n : Int) = (m : Int) := by rw [← hm]; exact (Int.natCast_mul p n).symm
        have hji : (m : Int) + (k : Int) = (j : Int) := by omega
        have hji2 : (j : Int) < (N2 : Int) := by omega
        have hwm : IntKind.i64.wrap (m : Int) = (m : Int) := by rw [IntKind.wrap_i64]; omega
        have hwj : IntKind.i64.wrap (j : Int) = (j : Int) := by rw [IntKind.wrap_i64]; omega
        have HN2 : Hid (n * n = N2) := hN2
        have HJ : Hid (p * n + k = j) := by show p * n + k = j; rw [hm]; exact hj
        obtain ⟨pm', cm', pn', cn', pw', cw', ph', ch', pc', cc', vw'⟩ := v'
        have lL' := hL.out.lt
        have lZ' := hZ.out.lt
        have a2 := hL.out.c2
        simp only at a2
        rw [hN2] at a2
        obtain ⟨bw, ow, ew, hbw, _, hcw⟩ := hR.out.wy.at_ (by rw [hN2]; omega)
        have ew' : pw' = some ⟨bw, ow, none⟩ := ew
        subst ew'
        have cj : wr.cell? ⟨bw, ow + j, none⟩ = some (vw' j) := hcw j (by rw [hN2]; exact hjl)
        obtain ⟨ad, c1, e1, e2, e3, e4, e5⟩ := hR.out.wv p k hp hlt
        have ewy : (M.noteK b p k).wy p k = b.wy p k := by rw [M.noteK_wy, if_neg (fun x => absurd x.2.2 (Nat.lt_irrefl _))]
        rw [ewy] at e1 e2 e3 e5
        have e1' : vw' j = .slice ad (b.wy p k).length c1 := by rw [← HJ.out]; exact e1
        rw [e1'] at cj
        have hcap := hR.out.cw
        have hsl := hR.out.slices
        have hwy := hR.out.wy
        simp only at hcap hsl hwy
        rw [hN2] at hcap hsl hwy
        have HL1 : Hid ((b.wy p k).length ≤ 50) := hl'.out k
        obtain ⟨l, hll⟩ : ∃ l, b.wy p k = l := ⟨_, rfl⟩
        have HLL : Hid (b.wy p k = l) := hll
        rw [hll] at cj e2 e3 e5 HL1
        have E2 : Hid (ad = none → l.length = 0 ∧ c1 = 0) := e2
        have E5 : Hid (FI G' l.length (fun i => .int .i64 (l[i]?.getD 0)) ad wr) := e5
        have HS : Hid (∀ j, j < N2 → ∃ a l c, vw' j = .slice a l c) := hsl
        have HW : Hid (FI G' N2 vw' (some ⟨bw, ow, none⟩) wr) := hwy
        clear hN2 hm hj e1 e2 e5 e1' hcw ew hll ewy hsl hwy
        have hbeh : Calls Tryd.prog 20 #[.slice ad l.length c1, .int .i64 (-1)] wr.drew fun e w' => ∃ g c', e = .returned (.slice (some ⟨g, 0, none⟩) (l.length + 1) c') ∧ Hid (RW G' (l ++ [-1]) (.slice (some ⟨g, 0, none⟩) (l.length + 1) c') w') ∧ Hid (Below wr.heap.size wr w') ∧ w'.cell? ⟨w.heap.size, 2, none⟩ = some (.slice (some ⟨bw, ow, none⟩) N2 cw') := by
          refine (behind_ok (G := G') l (-1) l.length ad c1 wr.drew rfl (by have := HL1.out; omega) E2.out E5.out).mono ?_
          rintro e w' ⟨g, c', rfl, k1, k2, hF, hB'⟩
          have hB2 : Below wr.heap.size wr w' := (Below.refl _ wr).drew.trans hB'
          refine ⟨g, c', rfl, ⟨some ⟨g, 0, none⟩, c', by simp, fun x => absurd x (by simp), by simpa using k1, k2, ?_⟩, hB2, (hB2.cell (p := ⟨w.heap.size, 2, none⟩) lL').trans a2⟩
          have e : (l ++ [-1]).length = l.length + 1 := by simp
          rw [e]
          exact hF.mono (fun k _ hk => FR'.out k (by have : wr.heap.size ≤ k := hk; omega))
        have hway : ∀ w' g c', Hid (Below wr.heap.size wr w') → Calls Tryd.prog 19 #[.slice (some ⟨bw, ow, none⟩) N2 cw', .int .i64 j, .slice (some ⟨g, 0, none⟩) (l.length + 1) c'] w' fun e w'' => ∃ p2 c2, e = .returned (.slice p2 N2 c2) ∧ Hid (N2 ≤ c2 ∧ c2 ≤ maxLen ∧ FI G' N2 (M.upd1 vw' j (.slice (some ⟨g, 0, none⟩) (l.length + 1) c')) p2 w'' ∧ Below w'.heap.size w' w'' ∧ Below wr.heap.size wr w'') ∧ w''.cell? ⟨w.heap.size, 2, none⟩ = some (.slice (some ⟨bw, ow, none⟩) N2 cw') ∧ w''.frozen? ⟨w.heap.size, 2, none⟩ = false := by
          intro w' g c' hBw
          refine (rway_ok (G := G') vw' N2 j _ (some ⟨bw, ow, none⟩) cw' w' (by omega) hjl hcap.1 hcap.2 HS.out ⟨_, _, _, rfl⟩ (HW.out.later hBw.out)).mono ?_
          rintro e w'' ⟨p2, c2, rfl, k1, k2, hF, hB'⟩
          have hB2 : Below wr.heap.size wr w'' := bel_on hBw.out hB'
          exact ⟨p2, c2, rfl, ⟨k1, k2, hF.mono (fun k _ hk => FR'.out k (by have : w'.heap.size ≤ k := hk; have := hBw.out.size; omega)), hB', hB2⟩, (hB2.cell (p := ⟨w.heap.size, 2, none⟩) lL').trans a2, (hL.out.below hB2 lL').fz 2⟩
        have FIN : Hid (∀ g c' w6 p2 c2 w7, Hid (RW G' (l ++ [-1]) (.slice (some ⟨g, 0, none⟩) (l.length + 1) c') w6) → Hid (N2 ≤ c2 ∧ c2 ≤ maxLen ∧ FI G' N2 (M.upd1 vw' j (.slice (some ⟨g, 0, none⟩) (l.length + 1) c')) p2 w7 ∧ Below w6.heap.size w6 w7 ∧ Below wr.heap.size wr w7) →
            ∃ v' : RV, Hid (RB G' n (M.noteK b p (k + 1)) v' (w7.setCell ⟨w.heap.size, 2, none⟩ (.slice p2 N2 c2))) ∧ Hid (LB w.heap.size n true v' (w7.setCell ⟨w.heap.size, 2, none⟩ (.slice p2 N2 c2))) ∧ Hid (LB (w.heap.size + 1) 0 false v0 (w7.setCell ⟨w.heap.size, 2, none⟩ (.slice p2 N2 c2))) ∧ Hid (Below w.heap.size w (w7.setCell ⟨w.heap.size, 2, none⟩ (.slice p2 N2 c2)))) := by
          intro g c' w6 p2 c2 w7 hW h7
          obtain ⟨k1, k2, hF, hB67, hB7⟩ := h7.out
          have R7 := hR.out.setW (p := p) (q := k) (u := .slice (some ⟨g, 0, none⟩) (l.length + 1) c') (l := l ++ [-1]) (pw := p2) (cw := c2) hB7 hlt (by rw [HN2.out, HJ.out]; exact hF) (by rw [HN2.out]; exact ⟨k1, k2⟩) (hW.out.later hB67)
          have eB : { (M.noteK b p k) with wy := M.upd2 (M.noteK b p k).wy p k (l ++ [-1]) } = M.noteK b p (k + 1) := by
            rw [← M.noteK_send b HE.out]
            unfold M.sendB
            rw [M.noteK_wy b p k p k, if_neg (fun x => absurd x.2.2 (Nat.lt_irrefl _)), HLL.out]
          rw [eB] at R7
          refine ⟨_, R7.set (a := ⟨w.heap.size, 2, none⟩) NL'.out _, ?_, ?_, ?_⟩
          · rw [← HN2.out]; exact (hL.out.below hB7 lL').s2 p2 c2 _
          · exact (hZ.out.below hB7 lZ').other (a := ⟨w.heap.size, 2, none⟩) (show w.heap.size + 1 ≠ w.heap.size by omega) _
          · exact (hB.out.trans (hB7.mono hB.out.size)).setCell (p := ⟨w.heap.size, 2, none⟩) (Nat.le_refl _) _
        go_wp2_with fail
        go_region_with (first | (go_at_call 20; refine hbeh.mono ?_; rintro e w6 ⟨g, c', rfl, hW6, hB6, hc6⟩) | (go_at_call 19; refine (hway _ _ _ hB6).mono ?_; rintro e w7 ⟨p2, c2, rfl, hF7, hc7, hf7⟩))
        all_goals (obtain ⟨v9, r9, l9, z9, b9⟩ := FIN.out _ _ _ _ _ _ hW6 hF7)
        all_goals clear FIN hbeh hway hW6 hF7 hc6 hc7 hf7 hB6 hR hL hZ hB HW HS E5 E2
        all_goals go_wp2_with fail
        all_goals go_roundw
        all_goals first | exact ⟨k + 1, v9, by go_num, by omega, r9, l9, z9, b9⟩ | (simp [intOf]; omega)
    · obtain rfl : n = k := by omega
      obtain ⟨pm', cm', pn', cn', pw', cw', ph', ch', pc', cc', vw'⟩ := v'
      have a0 := hL.out.c0
      have a1 := hL.out.c1
      have a2 := hL.out.c2
      have a3 := hL.out.c3
      have a4 := hL.out.c4
      have a5 := hL.out.c5
      have z0 := hZ.out.c0
      have z1 := hZ.out.c1
      have z2 := hZ.out.c2
      have z3 := hZ.out.c3
      have z4 := hZ.out.c4
      have z5 := hZ.out.c5
      have f0 := hZ.out.fz 0
      have f1 := hZ.out.fz 1
      have f2 := hZ.out.fz 2
      have f3 := hZ.out.fz 3
      have f4 := hZ.out.fz 4
      have f5 := hZ.out.fz 5
      simp only [v0] at a0 a1 a2 a3 a4 z0 z1 z2 z3 z4
      have lZ' := hZ.out.lt
      have lL' := hL.out.lt
      obtain ⟨N2, hN2⟩ : ∃ N2, n * n = N2 := ⟨_, rfl⟩
      rw [hN2] at a2 a3 a4
      have FL : Hid (LB (w.heap.size + 1) n true ⟨pm', cm', pn', cn', pw', cw', ph', ch', pc', cc', vw'⟩ ((((((wr.setCell ⟨w.heap.size + 1, 0, none⟩ (.slice pm' n cm')).setCell ⟨w.heap.size + 1, 1, none⟩ (.slice pn' n cn')).setCell ⟨w.heap.size + 1, 2, none⟩ (.slice pw' N2 cw')).setCell ⟨w.heap.size + 1, 3, none⟩ (.slice ph' N2 ch')).setCell ⟨w.heap.size + 1, 4, none⟩ (.slice pc' N2 cc')).setCell ⟨w.heap.size + 1, 5, none⟩ (.bool true))) := by
        rw [← hN2]
        exact (World.rowIs.set (World.rowIs.set (World.rowIs.set (World.rowIs.set (World.rowIs.set (World.rowIs.set hZ.out 0 _) 1 _) 2 _) 3 _) 4 _) 5 _).congr (fun k hk => by
          have : k = 0 ∨ k = 1 ∨ k = 2 ∨ k = 3 ∨ k = 4 ∨ k = 5 := by omega
          rcases this with rfl | rfl | rfl | rfl | rfl | rfl <;> simp [rbF])
      have FB : Hid (Below w.heap.size w ((((((wr.setCell ⟨w.heap.size + 1, 0, none⟩ (.slice pm' n cm')).setCell ⟨w.heap.size + 1, 1, none⟩ (.slice pn' n cn')).setCell ⟨w.heap.size + 1, 2, none⟩ (.slice pw' N2 cw')).setCell ⟨w.heap.size + 1, 3, none⟩ (.slice ph' N2 ch')).setCell ⟨w.heap.size + 1, 4, none⟩ (.slice pc' N2 cc')).setCell ⟨w.heap.size + 1, 5, none⟩ (.bool true))) :=
        (((((hB.out.setCell (p := ⟨w.heap.size + 1, 0, none⟩) (Nat.le_succ _) _).setCell (p := ⟨w.heap.size + 1, 1, none⟩) (Nat.le_succ _) _).setCell (p := ⟨w.heap.size + 1, 2, none⟩) (Nat.le_succ _) _).setCell (p := ⟨w.heap.size + 1, 3, none⟩) (Nat.le_succ _) _).setCell (p := ⟨w.heap.size + 1, 4, none⟩) (Nat.le_succ _) _).setCell (p := ⟨w.heap.size + 1, 5, none⟩) (Nat.le_succ _) _
      have NZ : ¬ G' (w.heap.size + 1) := NL2.out
      have FR9 : Hid (RB G n (M.noteB n b p) ⟨pm', cm', pn', cn', pw', cw', ph', ch', pc', cc', vw'⟩ ((((((wr.setCell ⟨w.heap.size + 1, 0, none⟩ (.slice pm' n cm')).setCell ⟨w.heap.size + 1, 1, none⟩ (.slice pn' n cn')).setCell ⟨w.heap.size + 1, 2, none⟩ (.slice pw' N2 cw')).setCell ⟨w.heap.size + 1, 3, none⟩ (.slice ph' N2 ch')).setCell ⟨w.heap.size + 1, 4, none⟩ (.slice pc' N2 cc')).setCell ⟨w.heap.size + 1, 5, none⟩ (.bool true))) :=
        ((((((hR.out.set (a := ⟨w.heap.size + 1, 0, none⟩) NZ _).set (a := ⟨w.heap.size + 1, 1, none⟩) NZ _).set (a := ⟨w.heap.size + 1, 2, none⟩) NZ _).set (a := ⟨w.heap.size + 1, 3, none⟩) NZ _).set (a := ⟨w.heap.size + 1, 4, none⟩) NZ _).set (a := ⟨w.heap.size + 1, 5, none⟩) NZ _).mono (fun k _ hg => BK'.out k hg)
      clear hN2 hR hL hZ hB NZ
      go_wp2_with fail
      refine bodyPost_ret (v := rbV n true ⟨pm', cm', pn', cn', pw', cw', ph', ch', pc', cc', vw'⟩) (results_cell6 rfl _ _ (w.heap.size + 1) n true _ rfl FL.out) rfl ⟨_, rfl, FR9.out, FB.out⟩
end Go.Proofs.YtplplgpfglaajaaDoor
