/- Whether an op may come next (package hist, mayCome); what lay in memory lies as it lay. Written by mk_hi6.py. -/
import Derived.Test.YtdbejgidgajhlaaHi5
namespace Go.Proofs.Ytdbejgidgajhlaa
open Go.RowKit

theorem opsC_get (d i : Nat) (hi : i < 10) : (opsC d)[i]? = some (.bool (tb d i)) := by
  match i, hi with
  | 0, _ => rfl
  | 1, _ => rfl
  | 2, _ => rfl
  | 3, _ => rfl
  | 4, _ => rfl
  | 5, _ => rfl
  | 6, _ => rfl
  | 7, _ => rfl
  | 8, _ => rfl
  | 9, _ => rfl
theorem vaC_get (x y z i : Nat) (hi : i < 3) : (vaC x y z)[i]? = some (.int .i64 ((M.vf [x, y, z] i : Nat) : Int)) := by
  match i, hi with
  | 0, _ => rfl
  | 1, _ => rfl
  | 2, _ => rfl
/-- the relation that a search goes by, as a value -/
def bfV (all : Bool) : Value := if all then .func (.func 11) #[] #[] else .func (.func 12) #[] #[]
def hzO (a : M.HOp) : Oz := ⟨a.pr, a.ob, a.wr, a.va, a.fr, a.to⟩
theorem ov_all (a b : M.HOp) : ovB (hzO a) (hzO b) = M.aheadB true a b := by
  unfold ovB hzO M.aheadB
  rw [Bool.true_or, Bool.and_true]
  simp
theorem ov_there (a b : M.HOp) : ((hzO a).pr == (hzO b).pr && ovB (hzO a) (hzO b)) = M.aheadB false a b := by
  unfold ovB hzO M.aheadB
  rw [Bool.false_or, Bool.and_comm]
  congr 1
  · simp
  · rw [Bool.eq_iff_iff]; simp; omega
theorem oAt_hzO (h : List M.HOp) (j : Nat) : oAt (hz h) j = hzO (M.hop h j) := oAt_hz h j
theorem go_no {all : Bool} {h : List M.HOp} {d : Nat} {v : Nat → Nat} {i : Nat} (hno : ¬ M.Can all h d v i) : M.goB all h d v i = false := by
  cases e : M.goB all h d v i with
  | false => rfl
  | true => exact absurd (M.goB_iff.1 e) hno

set_option maxRecDepth 100000 in
set_option maxHeartbeats 8000000 in
theorem mayCome_over (h : List M.HOp) (p : Option Addr) (n cap S Mb : Nat) (v : Value) (i d x y z : Nat) (w : World) (hl : h.length = n) (hk : HOk h) (hc : HasO (hz h) p w) (hS : Blk w S #[.slice p n cap, bfV true, v, .map (some Mb)] 46) (hi : i < n) :
    Calls Try.prog 18 #[.pointer (some ⟨S, 0, none⟩), .int .i64 (i : Nat), opsV d, vaV x y z] w fun e w' => e = .returned (.bool (M.goB true h d (M.vf [x, y, z]) i)) ∧ Below w.heap.size w w' := by
  obtain ⟨w1, hw1⟩ : ∃ w1, (w.alloc (.cells (opsC d) 49)).alloc (.cells (vaC x y z) 51) = w1 := ⟨_, rfl⟩
  have hB1 : Below w.heap.size w w1 := hw1 ▸ bel_al (bel_al (Below.refl _ _) _) _
  have s1 : w1.heap.size = w.heap.size + 2 := by subst hw1; simp
  have b6 : Blk w1 w.heap.size (opsC d) 49 := hw1 ▸ (Blk.new _ _ _).alloc _
  have b7 : Blk w1 (w.heap.size + 1) (vaC x y z) 51 := by
    have := Blk.new (w.alloc (.cells (opsC d) 49)) (vaC x y z) 51
    rw [hw1] at this
    simpa using this
  have hS1 := hS.below hB1 hS.lt
  have hc1 := hc.later hB1
  have hn10 := hk.len
  obtain ⟨b, off, rfl, hop⟩ := hc1 i (by rw [hz_len]; omega)
  rw [oAt_hzO] at hop
  have hob3 := hk.ob i
  obtain ⟨O, hO⟩ : ∃ O, M.hop h i = O := ⟨_, rfl⟩
  have HO : Hid (M.hop h i = O) := hO
  rw [hO] at hop hob3
  obtain ⟨pr, ob, wt, va, fr, te⟩ := O
  have hopK : OpAt (hzO ⟨pr, ob, wt, va, fr, te⟩) b (off + i * 6) w1 := hop
  simp only [hzO] at hop
  obtain ⟨hb, k0, k1, k2, k3, k4, k5⟩ := hop
  simp only at hob3
  have q0 := hS1.cell 0
  have hSl := hS1.lt
  have hin : (i : Int) < (n : Int) := by omega
  have hi10 : (i : Int) < 10 := by omega
  have hob : (ob : Int) < 3 := by omega
  obtain ⟨x0, hx0⟩ : ∃ q, M.vf [x, y, z] ob = q := ⟨_, rfl⟩
  have HX : Hid (M.vf [x, y, z] ob = x0) := hx0
  have e6 := b6.cell i
  rw [opsC_get d i (by omega)] at e6
  have e7 := b7.cell ob
  rw [vaC_get x y z ob (by omega), hx0] at e7
  have l6 := b6.lt
  have l7 := b7.lt
  obtain ⟨w2, hw2⟩ : ∃ w2, w1.alloc (.cells #[.int .i64 (pr : Nat), .int .i64 (ob : Nat), .int .i64 (wt : Nat), .int .i64 (va : Nat), .int .i64 (fr : Nat), .int .i64 (te : Nat)] 33) = w2 := ⟨_, rfl⟩
  have hB12 : Below w1.heap.size w1 w2 := hw2 ▸ bel_al (Below.refl _ _) _
  have hB2 : Below w.heap.size w w2 := bel_on hB1 hB12
  have o2 : OpAt (hzO ⟨pr, ob, wt, va, fr, te⟩) (w.heap.size + 2) 0 w2 := by
    have := opAt_new w1 (hzO ⟨pr, ob, wt, va, fr, te⟩)
    rw [s1] at this
    exact hw2 ▸ this
  have s2 : w2.heap.size = w.heap.size + 3 := by subst hw2; simp [s1]
  clear hO hx0
  cases ht : tb d i with
  | true =>
    rw [ht] at e6
    rw [go_no (fun c => by have := c.new; rw [show d.testBit i = tb d i from rfl, ht] at this; cases this)]
    have HB2 : Hid (Below w.heap.size w w2) := hB2
    have HB1 : Hid (Below w.heap.size w w1) := hB1
    clear hB2 hB1 hB12 o2 ht hc1 hS1 hS hc b6 b7 hopK hw2 s2
    go_enter Try.func18, Try.ntmps18
    go_wp2_with fail
    go_big_quiet (fail)
    go_wp2_with fail
    go_ret
    exact ⟨rfl, bel_drN (bel_al HB1.out _) _⟩
  | false =>
    rw [ht] at e6
    by_cases hwr : wt = 0 ∧ x0 ≠ va
    · rw [go_no (fun c => by
        have := c.rd
        rw [HO.out] at this
        have := this hwr.1
        simp only at this
        rw [HX.out] at this
        exact hwr.2 this)]
      obtain ⟨rfl, hne⟩ := hwr
      have hd1 : ((x0 : Int) != (va : Int)) = true := by simpa using (fun e => hne (by omega) : ¬ (x0 : Int) = va)
      have HB1 : Hid (Below w.heap.size w w1) := hB1
      clear hB2 hB1 hB12 o2 ht hc1 hS1 hS hc b6 b7 hopK hw2 s2 hne
      go_enter Try.func18, Try.ntmps18
      go_wp2_with fail
      go_big_quiet (fail)
      go_wp2_with fail
      go_ret
      exact ⟨rfl, bel_drN (bel_al HB1.out _) _⟩
    · have HR : Hid (wt = 0 → x0 = va) := fun e => by
        apply Classical.byContradiction
        intro hne
        exact hwr ⟨e, hne⟩
      have b6' := b6.below hB12 l6
      have hS2 := hS1.below hB12 hSl
      have hc2 : HasO (hz h) (some ⟨b, off, none⟩) w2 := hc1.later hB12
      obtain ⟨g0, m0, m1, m2, m3, m4, m5⟩ := o2
      have o2 : OpAt (hzO ⟨pr, ob, wt, va, fr, te⟩) (w.heap.size + 2) 0 w2 := ⟨g0, m0, m1, m2, m3, m4, m5⟩
      simp only [hzO] at m0 m1 m2 m3 m4 m5
      have q2 := hS2.cell 0
      have l62 := b6'.lt
      have l72 : w.heap.size + 1 < w2.heap.size := by omega
      have e62 : w2.cell? ⟨w.heap.size, i, none⟩ = some (.bool false) := (hB12.cell (p := ⟨w.heap.size, i, none⟩) l6).trans e6
      have e72 : w2.cell? ⟨w.heap.size + 1, ob, none⟩ = some (.int .i64 (x0 : Nat)) := (hB12.cell (p := ⟨w.heap.size + 1, ob, none⟩) l7).trans e7
      have hSl2 := hS2.lt
      have HB2 : Hid (Below w.heap.size w w2) := hB2
      clear hB2 hB1 hB12 hc1 hS1 hS hc b6 b7 hopK
      by_cases hw0 : wt = 0
      · have hxv := HR.out hw0
        have hd0 : ((wt : Int) == 0) = true := by subst hw0; rfl
        have hd1 : ((x0 : Int) != (va : Int)) = false := by simpa using (by omega : (x0 : Int) = va)
        have HD : Hid (x0 = va) := hxv
        clear hxv hwr hw0
        go_enter Try.func18, Try.ntmps18
        go_wp2_with fail
        go_big_quiet (fail)
        go_wp2_with fail
        go_loopw [41] (fun u wr => ∃ j : Nat, u = .int .i64 j ∧ j ≤ n ∧ Hid (∀ j', j' < j → M.aheadB true (M.hop h j') (M.hop h i) = true → d.testBit j' = true) ∧ Below w2.heap.size w2 wr) (fun u _ => n - (intOf u).toNat)
        case atStart => exact ⟨0, rfl, Nat.zero_le _, fun j' h => absurd h (Nat.not_lt_zero _), bel_drN (Below.refl _ _) _⟩
        case round =>
          clear e6 e7 q0 hSl l6 l7 e62 e72 m0 m1 m2 m3 m4 m5 q2 k0 k1 k2 k3 k4 k5 hw1 hw2
          obtain ⟨j, rfl, hj, hz, hB⟩ := hrel
          have HBW : Hid (Below w.heap.size w wr) := bel_on HB2.out hB
          have q2 := (hS2.below hB hSl2).cell 0
          by_cases hjn : j < n
          · obtain ⟨_, _, e0, hop⟩ := (hc2.later hB) j (by rw [hz_len]; omega)
            cases e0
            rw [oAt_hzO] at hop
            obtain ⟨J, hJ⟩ : ∃ J, M.hop h j = J := ⟨_, rfl⟩
            have HJ : Hid (M.hop h j = J) := hJ
            rw [hJ] at hop
            obtain ⟨pj, oj, rj, vj, fj, tj⟩ := J
            simp only [hzO] at hop
            obtain ⟨hbj, k0, k1, k2, k3, k4, k5⟩ := hop
            have hjin : (j : Int) < (n : Int) := by omega
            have hj10 : (j : Int) < 10 := by omega
            obtain ⟨wx, hwx⟩ : ∃ wx, wr.alloc (.cells #[.int .i64 (pj : Nat), .int .i64 (oj : Nat), .int .i64 (rj : Nat), .int .i64 (vj : Nat), .int .i64 (fj : Nat), .int .i64 (tj : Nat)] 33) = wx := ⟨_, rfl⟩
            have hBx : Below wr.heap.size wr wx := hwx ▸ bel_al (Below.refl _ _) _
            have hC := bel_on hB hBx
            have HC : Hid (Below w2.heap.size w2 wx) := hC
            have oJ : OpAt (hzO ⟨pj, oj, rj, vj, fj, tj⟩) wr.heap.size 0 wx := hwx ▸ opAt_new wr (hzO ⟨pj, oj, rj, vj, fj, tj⟩)
            have ox := o2.later hC g0
            have bx := b6'.below hC l62
            have sx := hS2.below hC hSl2
            have ej := bx.cell j
            rw [opsC_get d j (by omega)] at ej
            have lx := bx.lt
            cases htj : tb d j with
            | true =>
              have HZ : Hid (∀ j', j' < j + 1 → M.aheadB true (M.hop h j') (M.hop h i) = true → d.testBit j' = true) := fun j' hj' e => by
                by_cases c : j' = j
                · subst c; exact htj
                · exact hz.out j' (by omega) e
              rw [htj] at ej
              clear hB hBx hC ox bx sx hJ oJ htj
              go_wp2_with fail
              go_big_quiet (fail)
              go_wp2_with fail
              go_roundw
              case rel => exact ⟨j + 1, by go_num, by omega, HZ, bel_drN HC.out _⟩
              case measure => simp [intOf]; omega
            | false =>
              rw [htj] at ej
              have hmk : ∀ W, Below wx.heap.size wx W → W.cell? ⟨w.heap.size, j, none⟩ = some (.bool false) ∧ W.cell? ⟨S, 1, none⟩ = some (.func (.func 11) #[] #[]) ∧
                  (W.cell? ⟨wr.heap.size, 0, none⟩ = some (.int .i64 (pj : Nat)) ∧ W.cell? ⟨wr.heap.size, 0 + 1, none⟩ = some (.int .i64 (oj : Nat)) ∧ W.cell? ⟨wr.heap.size, 0 + 2, none⟩ = some (.int .i64 (rj : Nat)) ∧ W.cell? ⟨wr.heap.size, 0 + 3, none⟩ = some (.int .i64 (vj : Nat)) ∧ W.cell? ⟨wr.heap.size, 0 + 4, none⟩ = some (.int .i64 (fj : Nat)) ∧ W.cell? ⟨wr.heap.size, 0 + 5, none⟩ = some (.int .i64 (tj : Nat))) ∧
                  (W.cell? ⟨w.heap.size + 2, 0, none⟩ = some (.int .i64 (pr : Nat)) ∧ W.cell? ⟨w.heap.size + 2, 0 + 1, none⟩ = some (.int .i64 (ob : Nat)) ∧ W.cell? ⟨w.heap.size + 2, 0 + 2, none⟩ = some (.int .i64 (wt : Nat)) ∧ W.cell? ⟨w.heap.size + 2, 0 + 3, none⟩ = some (.int .i64 (va : Nat)) ∧ W.cell? ⟨w.heap.size + 2, 0 + 4, none⟩ = some (.int .i64 (fr : Nat)) ∧ W.cell? ⟨w.heap.size + 2, 0 + 5, none⟩ = some (.int .i64 (te : Nat))) := fun W hW => by
                have a1 := oJ.later hW oJ.lt
                have a2 := ox.later hW ox.lt
                have a3 := (bx.below hW lx).cell j
                rw [opsC_get d j (by omega), htj] at a3
                exact ⟨a3, (sx.below hW sx.lt).cell 1, ⟨a1.c0, a1.c1, a1.c2, a1.c3, a1.c4, a1.c5⟩, ⟨a2.c0, a2.c1, a2.c2, a2.c3, a2.c4, a2.c5⟩⟩
              obtain ⟨r, hr⟩ : ∃ r, M.aheadB true ⟨pj, oj, rj, vj, fj, tj⟩ ⟨pr, ob, wt, va, fr, te⟩ = r := ⟨_, rfl⟩
              have hcall := fun W => isOver_ok (hzO ⟨pj, oj, rj, vj, fj, tj⟩) (hzO ⟨pr, ob, wt, va, fr, te⟩) W
              simp only [ov_all, hr] at hcall
              simp only [hzO] at hcall
              have q1 := (hmk wx (Below.refl _ _)).2.1
              have HTJ : Hid (tb d j = false) := htj
              have HR9 : Hid (M.aheadB true (M.hop h j) (M.hop h i) = r) := by show _ = _; rw [HJ.out, HO.out]; exact hr
              have lxx : wr.heap.size < wx.heap.size := oJ.lt
              obtain ⟨h1, h2, ⟨y0, y1, y2, y3, y4, y5⟩, ⟨z0, z1, z2, z3, z4, z5⟩⟩ := hmk wx (Below.refl _ _)
              clear hB hBx hC ox bx sx oJ htj hr hJ h1 h2
              cases r with
              | true =>
                have HGF : Hid (M.goB true h d (M.vf [x, y, z]) i = false) := go_no (fun c => by
                  have := c.pre j (by omega) HR9.out
                  rw [show d.testBit j = tb d j from rfl, HTJ.out] at this
                  cases this)
                go_wp2_with fail
                go_region_held3 (fun W => W.cell? ⟨w.heap.size, j, none⟩ = some (.bool false) ∧ W.cell? ⟨S, 1, none⟩ = some (.func (.func 11) #[] #[]) ∧
                  (W.cell? ⟨wr.heap.size, 0, none⟩ = some (.int .i64 (pj : Nat)) ∧ W.cell? ⟨wr.heap.size, 0 + 1, none⟩ = some (.int .i64 (oj : Nat)) ∧ W.cell? ⟨wr.heap.size, 0 + 2, none⟩ = some (.int .i64 (rj : Nat)) ∧ W.cell? ⟨wr.heap.size, 0 + 3, none⟩ = some (.int .i64 (vj : Nat)) ∧ W.cell? ⟨wr.heap.size, 0 + 4, none⟩ = some (.int .i64 (fj : Nat)) ∧ W.cell? ⟨wr.heap.size, 0 + 5, none⟩ = some (.int .i64 (tj : Nat))) ∧
                  (W.cell? ⟨w.heap.size + 2, 0, none⟩ = some (.int .i64 (pr : Nat)) ∧ W.cell? ⟨w.heap.size + 2, 0 + 1, none⟩ = some (.int .i64 (ob : Nat)) ∧ W.cell? ⟨w.heap.size + 2, 0 + 2, none⟩ = some (.int .i64 (wt : Nat)) ∧ W.cell? ⟨w.heap.size + 2, 0 + 3, none⟩ = some (.int .i64 (va : Nat)) ∧ W.cell? ⟨w.heap.size + 2, 0 + 4, none⟩ = some (.int .i64 (fr : Nat)) ∧ W.cell? ⟨w.heap.size + 2, 0 + 5, none⟩ = some (.int .i64 (te : Nat)))) (first | exact hmk _ ((Below.refl _ wx).drew) | exact hmk _ (bel_on ((Below.refl _ wx).drew) hB9)) (first | (go_at_call 11; refine (hcall _).mono ?_; rintro e w9 ⟨rfl, hB9⟩))
                go_wp2_with fail
                go_ret
                exact ⟨by rw [HGF.out]; rfl, bel_on (bel_on HB2.out HC.out.drew) hB9⟩
              | false =>
                have HZ : Hid (∀ j', j' < j + 1 → M.aheadB true (M.hop h j') (M.hop h i) = true → d.testBit j' = true) := fun j' hj' e => by
                  by_cases c : j' = j
                  · subst c; rw [HR9.out] at e; cases e
                  · exact hz.out j' (by omega) e
                go_wp2_with fail
                go_region_held3 (fun W => W.cell? ⟨w.heap.size, j, none⟩ = some (.bool false) ∧ W.cell? ⟨S, 1, none⟩ = some (.func (.func 11) #[] #[]) ∧
                  (W.cell? ⟨wr.heap.size, 0, none⟩ = some (.int .i64 (pj : Nat)) ∧ W.cell? ⟨wr.heap.size, 0 + 1, none⟩ = some (.int .i64 (oj : Nat)) ∧ W.cell? ⟨wr.heap.size, 0 + 2, none⟩ = some (.int .i64 (rj : Nat)) ∧ W.cell? ⟨wr.heap.size, 0 + 3, none⟩ = some (.int .i64 (vj : Nat)) ∧ W.cell? ⟨wr.heap.size, 0 + 4, none⟩ = some (.int .i64 (fj : Nat)) ∧ W.cell? ⟨wr.heap.size, 0 + 5, none⟩ = some (.int .i64 (tj : Nat))) ∧
                  (W.cell? ⟨w.heap.size + 2, 0, none⟩ = some (.int .i64 (pr : Nat)) ∧ W.cell? ⟨w.heap.size + 2, 0 + 1, none⟩ = some (.int .i64 (ob : Nat)) ∧ W.cell? ⟨w.heap.size + 2, 0 + 2, none⟩ = some (.int .i64 (wt : Nat)) ∧ W.cell? ⟨w.heap.size + 2, 0 + 3, none⟩ = some (.int .i64 (va : Nat)) ∧ W.cell? ⟨w.heap.size + 2, 0 + 4, none⟩ = some (.int .i64 (fr : Nat)) ∧ W.cell? ⟨w.heap.size + 2, 0 + 5, none⟩ = some (.int .i64 (te : Nat)))) (first | exact hmk _ ((Below.refl _ wx).drew) | exact hmk _ (bel_on ((Below.refl _ wx).drew) hB9)) (first | (go_at_call 11; refine (hcall _).mono ?_; rintro e w9 ⟨rfl, hB9⟩))
                go_wp2_with fail
                go_roundw
                case rel => exact ⟨j + 1, by go_num, by omega, HZ, bel_on HC.out.drew hB9⟩
                case measure => simp [intOf]; omega
          · obtain rfl : j = n := by omega
            have HG : Hid (M.goB true h d (M.vf [x, y, z]) i = true) := M.goB_iff.2 ⟨ht, fun j' hj' e => hz.out j' (by omega) e, fun e => by
              rw [HO.out] at e ⊢
              simp only at e ⊢
              rw [HX.out]
              exact HD.out⟩
            clear hB
            go_wp2_with fail
            go_ret
            exact ⟨by rw [HG.out]; rfl, HBW.out⟩
      · have hd1 : ((wt : Int) == 0) = false := by simpa using (by omega : ¬ (wt : Int) = 0)
        have HD : Hid (¬ wt = 0) := hw0
        clear hw0 hwr
        go_enter Try.func18, Try.ntmps18
        go_wp2_with fail
        go_big_quiet (fail)
        go_wp2_with fail
        go_loopw [41] (fun u wr => ∃ j : Nat, u = .int .i64 j ∧ j ≤ n ∧ Hid (∀ j', j' < j → M.aheadB true (M.hop h j') (M.hop h i) = true → d.testBit j' = true) ∧ Below w2.heap.size w2 wr) (fun u _ => n - (intOf u).toNat)
        case atStart => exact ⟨0, rfl, Nat.zero_le _, fun j' h => absurd h (Nat.not_lt_zero _), bel_drN (Below.refl _ _) _⟩
        case round =>
          clear e6 e7 q0 hSl l6 l7 e62 e72 m0 m1 m2 m3 m4 m5 q2 k0 k1 k2 k3 k4 k5 hw1 hw2
          obtain ⟨j, rfl, hj, hz, hB⟩ := hrel
          have HBW : Hid (Below w.heap.size w wr) := bel_on HB2.out hB
          have q2 := (hS2.below hB hSl2).cell 0
          by_cases hjn : j < n
          · obtain ⟨_, _, e0, hop⟩ := (hc2.later hB) j (by rw [hz_len]; omega)
            cases e0
            rw [oAt_hzO] at hop
            obtain ⟨J, hJ⟩ : ∃ J, M.hop h j = J := ⟨_, rfl⟩
            have HJ : Hid (M.hop h j = J) := hJ
            rw [hJ] at hop
            obtain ⟨pj, oj, rj, vj, fj, tj⟩ := J
            simp only [hzO] at hop
            obtain ⟨hbj, k0, k1, k2, k3, k4, k5⟩ := hop
            have hjin : (j : Int) < (n : Int) := by omega
            have hj10 : (j : Int) < 10 := by omega
            obtain ⟨wx, hwx⟩ : ∃ wx, wr.alloc (.cells #[.int .i64 (pj : Nat), .int .i64 (oj : Nat), .int .i64 (rj : Nat), .int .i64 (vj : Nat), .int .i64 (fj : Nat), .int .i64 (tj : Nat)] 33) = wx := ⟨_, rfl⟩
            have hBx : Below wr.heap.size wr wx := hwx ▸ bel_al (Below.refl _ _) _
            have hC := bel_on hB hBx
            have HC : Hid (Below w2.heap.size w2 wx) := hC
            have oJ : OpAt (hzO ⟨pj, oj, rj, vj, fj, tj⟩) wr.heap.size 0 wx := hwx ▸ opAt_new wr (hzO ⟨pj, oj, rj, vj, fj, tj⟩)
            have ox := o2.later hC g0
            have bx := b6'.below hC l62
            have sx := hS2.below hC hSl2
            have ej := bx.cell j
            rw [opsC_get d j (by omega)] at ej
            have lx := bx.lt
            cases htj : tb d j with
            | true =>
              have HZ : Hid (∀ j', j' < j + 1 → M.aheadB true (M.hop h j') (M.hop h i) = true → d.testBit j' = true) := fun j' hj' e => by
                by_cases c : j' = j
                · subst c; exact htj
                · exact hz.out j' (by omega) e
              rw [htj] at ej
              clear hB hBx hC ox bx sx hJ oJ htj
              go_wp2_with fail
              go_big_quiet (fail)
              go_wp2_with fail
              go_roundw
              case rel => exact ⟨j + 1, by go_num, by omega, HZ, bel_drN HC.out _⟩
              case measure => simp [intOf]; omega
            | false =>
              rw [htj] at ej
              have hmk : ∀ W, Below wx.heap.size wx W → W.cell? ⟨w.heap.size, j, none⟩ = some (.bool false) ∧ W.cell? ⟨S, 1, none⟩ = some (.func (.func 11) #[] #[]) ∧
                  (W.cell? ⟨wr.heap.size, 0, none⟩ = some (.int .i64 (pj : Nat)) ∧ W.cell? ⟨wr.heap.size, 0 + 1, none⟩ = some (.int .i64 (oj : Nat)) ∧ W.cell? ⟨wr.heap.size, 0 + 2, none⟩ = some (.int .i64 (rj : Nat)) ∧ W.cell? ⟨wr.heap.size, 0 + 3, none⟩ = some (.int .i64 (vj : Nat)) ∧ W.cell? ⟨wr.heap.size, 0 + 4, none⟩ = some (.int .i64 (fj : Nat)) ∧ W.cell? ⟨wr.heap.size, 0 + 5, none⟩ = some (.int .i64 (tj : Nat))) ∧
                  (W.cell? ⟨w.heap.size + 2, 0, none⟩ = some (.int .i64 (pr : Nat)) ∧ W.cell? ⟨w.heap.size + 2, 0 + 1, none⟩ = some (.int .i64 (ob : Nat)) ∧ W.cell? ⟨w.heap.size + 2, 0 + 2, none⟩ = some (.int .i64 (wt : Nat)) ∧ W.cell? ⟨w.heap.size + 2, 0 + 3, none⟩ = some (.int .i64 (va : Nat)) ∧ W.cell? ⟨w.heap.size + 2, 0 + 4, none⟩ = some (.int .i64 (fr : Nat)) ∧ W.cell? ⟨w.heap.size + 2, 0 + 5, none⟩ = some (.int .i64 (te : Nat))) := fun W hW => by
                have a1 := oJ.later hW oJ.lt
                have a2 := ox.later hW ox.lt
                have a3 := (bx.below hW lx).cell j
                rw [opsC_get d j (by omega), htj] at a3
                exact ⟨a3, (sx.below hW sx.lt).cell 1, ⟨a1.c0, a1.c1, a1.c2, a1.c3, a1.c4, a1.c5⟩, ⟨a2.c0, a2.c1, a2.c2, a2.c3, a2.c4, a2.c5⟩⟩
              obtain ⟨r, hr⟩ : ∃ r, M.aheadB true ⟨pj, oj, rj, vj, fj, tj⟩ ⟨pr, ob, wt, va, fr, te⟩ = r := ⟨_, rfl⟩
              have hcall := fun W => isOver_ok (hzO ⟨pj, oj, rj, vj, fj, tj⟩) (hzO ⟨pr, ob, wt, va, fr, te⟩) W
              simp only [ov_all, hr] at hcall
              simp only [hzO] at hcall
              have q1 := (hmk wx (Below.refl _ _)).2.1
              have HTJ : Hid (tb d j = false) := htj
              have HR9 : Hid (M.aheadB true (M.hop h j) (M.hop h i) = r) := by show _ = _; rw [HJ.out, HO.out]; exact hr
              have lxx : wr.heap.size < wx.heap.size := oJ.lt
              obtain ⟨h1, h2, ⟨y0, y1, y2, y3, y4, y5⟩, ⟨z0, z1, z2, z3, z4, z5⟩⟩ := hmk wx (Below.refl _ _)
              clear hB hBx hC ox bx sx oJ htj hr hJ h1 h2
              cases r with
              | true =>
                have HGF : Hid (M.goB true h d (M.vf [x, y, z]) i = false) := go_no (fun c => by
                  have := c.pre j (by omega) HR9.out
                  rw [show d.testBit j = tb d j from rfl, HTJ.out] at this
                  cases this)
                go_wp2_with fail
                go_region_held3 (fun W => W.cell? ⟨w.heap.size, j, none⟩ = some (.bool false) ∧ W.cell? ⟨S, 1, none⟩ = some (.func (.func 11) #[] #[]) ∧
                  (W.cell? ⟨wr.heap.size, 0, none⟩ = some (.int .i64 (pj : Nat)) ∧ W.cell? ⟨wr.heap.size, 0 + 1, none⟩ = some (.int .i64 (oj : Nat)) ∧ W.cell? ⟨wr.heap.size, 0 + 2, none⟩ = some (.int .i64 (rj : Nat)) ∧ W.cell? ⟨wr.heap.size, 0 + 3, none⟩ = some (.int .i64 (vj : Nat)) ∧ W.cell? ⟨wr.heap.size, 0 + 4, none⟩ = some (.int .i64 (fj : Nat)) ∧ W.cell? ⟨wr.heap.size, 0 + 5, none⟩ = some (.int .i64 (tj : Nat))) ∧
                  (W.cell? ⟨w.heap.size + 2, 0, none⟩ = some (.int .i64 (pr : Nat)) ∧ W.cell? ⟨w.heap.size + 2, 0 + 1, none⟩ = some (.int .i64 (ob : Nat)) ∧ W.cell? ⟨w.heap.size + 2, 0 + 2, none⟩ = some (.int .i64 (wt : Nat)) ∧ W.cell? ⟨w.heap.size + 2, 0 + 3, none⟩ = some (.int .i64 (va : Nat)) ∧ W.cell? ⟨w.heap.size + 2, 0 + 4, none⟩ = some (.int .i64 (fr : Nat)) ∧ W.cell? ⟨w.heap.size + 2, 0 + 5, none⟩ = some (.int .i64 (te : Nat)))) (first | exact hmk _ ((Below.refl _ wx).drew) | exact hmk _ (bel_on ((Below.refl _ wx).drew) hB9)) (first | (go_at_call 11; refine (hcall _).mono ?_; rintro e w9 ⟨rfl, hB9⟩))
                go_wp2_with fail
                go_ret
                exact ⟨by rw [HGF.out]; rfl, bel_on (bel_on HB2.out HC.out.drew) hB9⟩
              | false =>
                have HZ : Hid (∀ j', j' < j + 1 → M.aheadB true (M.hop h j') (M.hop h i) = true → d.testBit j' = true) := fun j' hj' e => by
                  by_cases c : j' = j
                  · subst c; rw [HR9.out] at e; cases e
                  · exact hz.out j' (by omega) e
                go_wp2_with fail
                go_region_held3 (fun W => W.cell? ⟨w.heap.size, j, none⟩ = some (.bool false) ∧ W.cell? ⟨S, 1, none⟩ = some (.func (.func 11) #[] #[]) ∧
                  (W.cell? ⟨wr.heap.size, 0, none⟩ = some (.int .i64 (pj : Nat)) ∧ W.cell? ⟨wr.heap.size, 0 + 1, none⟩ = some (.int .i64 (oj : Nat)) ∧ W.cell? ⟨wr.heap.size, 0 + 2, none⟩ = some (.int .i64 (rj : Nat)) ∧ W.cell? ⟨wr.heap.size, 0 + 3, none⟩ = some (.int .i64 (vj : Nat)) ∧ W.cell? ⟨wr.heap.size, 0 + 4, none⟩ = some (.int .i64 (fj : Nat)) ∧ W.cell? ⟨wr.heap.size, 0 + 5, none⟩ = some (.int .i64 (tj : Nat))) ∧
                  (W.cell? ⟨w.heap.size + 2, 0, none⟩ = some (.int .i64 (pr : Nat)) ∧ W.cell? ⟨w.heap.size + 2, 0 + 1, none⟩ = some (.int .i64 (ob : Nat)) ∧ W.cell? ⟨w.heap.size + 2, 0 + 2, none⟩ = some (.int .i64 (wt : Nat)) ∧ W.cell? ⟨w.heap.size + 2, 0 + 3, none⟩ = some (.int .i64 (va : Nat)) ∧ W.cell? ⟨w.heap.size + 2, 0 + 4, none⟩ = some (.int .i64 (fr : Nat)) ∧ W.cell? ⟨w.heap.size + 2, 0 + 5, none⟩ = some (.int .i64 (te : Nat)))) (first | exact hmk _ ((Below.refl _ wx).drew) | exact hmk _ (bel_on ((Below.refl _ wx).drew) hB9)) (first | (go_at_call 11; refine (hcall _).mono ?_; rintro e w9 ⟨rfl, hB9⟩))
                go_wp2_with fail
                go_roundw
                case rel => exact ⟨j + 1, by go_num, by omega, HZ, bel_on HC.out.drew hB9⟩
                case measure => simp [intOf]; omega
          · obtain rfl : j = n := by omega
            have HG : Hid (M.goB true h d (M.vf [x, y, z]) i = true) := M.goB_iff.2 ⟨ht, fun j' hj' e => hz.out j' (by omega) e, fun e => by
              rw [HO.out] at e ⊢
              simp only at e ⊢
              rw [HX.out]
              exact absurd e HD.out⟩
            clear hB
            go_wp2_with fail
            go_ret
            exact ⟨by rw [HG.out]; rfl, HBW.out⟩

set_option maxRecDepth 100000 in
set_option maxHeartbeats 8000000 in
theorem mayCome_there (h : List M.HOp) (p : Option Addr) (n cap S Mb : Nat) (v : Value) (i d x y z : Nat) (w : World) (hl : h.length = n) (hk : HOk h) (hc : HasO (hz h) p w) (hS : Blk w S #[.slice p n cap, bfV false, v, .map (some Mb)] 46) (hi : i < n) :
    Calls Try.prog 18 #[.pointer (some ⟨S, 0, none⟩), .int .i64 (i : Nat), opsV d, vaV x y z] w fun e w' => e = .returned (.bool (M.goB false h d (M.vf [x, y, z]) i)) ∧ Below w.heap.size w w' := by
  obtain ⟨w1, hw1⟩ : ∃ w1, (w.alloc (.cells (opsC d) 49)).alloc (.cells (vaC x y z) 51) = w1 := ⟨_, rfl⟩
  have hB1 : Below w.heap.size w w1 := hw1 ▸ bel_al (bel_al (Below.refl _ _) _) _
  have s1 : w1.heap.size = w.heap.size + 2 := by subst hw1; simp
  have b6 : Blk w1 w.heap.size (opsC d) 49 := hw1 ▸ (Blk.new _ _ _).alloc _
  have b7 : Blk w1 (w.heap.size + 1) (vaC x y z) 51 := by
    have := Blk.new (w.alloc (.cells (opsC d) 49)) (vaC x y z) 51
    rw [hw1] at this
    simpa using this
  have hS1 := hS.below hB1 hS.lt
  have hc1 := hc.later hB1
  have hn10 := hk.len
  obtain ⟨b, off, rfl, hop⟩ := hc1 i (by rw [hz_len]; omega)
  rw [oAt_hzO] at hop
  have hob3 := hk.ob i
  obtain ⟨O, hO⟩ : ∃ O, M.hop h i = O := ⟨_, rfl⟩
  have HO : Hid (M.hop h i = O) := hO
  rw [hO] at hop hob3
  obtain ⟨pr, ob, wt, va, fr, te⟩ := O
  have hopK : OpAt (hzO ⟨pr, ob, wt, va, fr, te⟩) b (off + i * 6) w1 := hop
  simp only [hzO] at hop
  obtain ⟨hb, k0, k1, k2, k3, k4, k5⟩ := hop
  simp only at hob3
  have q0 := hS1.cell 0
  have hSl := hS1.lt
  have hin : (i : Int) < (n : Int) := by omega
  have hi10 : (i : Int) < 10 := by omega
  have hob : (ob : Int) < 3 := by omega
  obtain ⟨x0, hx0⟩ : ∃ q, M.vf [x, y, z] ob = q := ⟨_, rfl⟩
  have HX : Hid (M.vf [x, y, z] ob = x0) := hx0
  have e6 := b6.cell i
  rw [opsC_get d i (by omega)] at e6
  have e7 := b7.cell ob
  rw [vaC_get x y z ob (by omega), hx0] at e7
  have l6 := b6.lt
  have l7 := b7.lt
  obtain ⟨w2, hw2⟩ : ∃ w2, w1.alloc (.cells #[.int .i64 (pr : Nat), .int .i64 (ob : Nat), .int .i64 (wt : Nat), .int .i64 (va : Nat), .int .i64 (fr : Nat), .int .i64 (te : Nat)] 33) = w2 := ⟨_, rfl⟩
  have hB12 : Below w1.heap.size w1 w2 := hw2 ▸ bel_al (Below.refl _ _) _
  have hB2 : Below w.heap.size w w2 := bel_on hB1 hB12
  have o2 : OpAt (hzO ⟨pr, ob, wt, va, fr, te⟩) (w.heap.size + 2) 0 w2 := by
    have := opAt_new w1 (hzO ⟨pr, ob, wt, va, fr, te⟩)
    rw [s1] at this
    exact hw2 ▸ this
  have s2 : w2.heap.size = w.heap.size + 3 := by subst hw2; simp [s1]
  clear hO hx0
  cases ht : tb d i with
  | true =>
    rw [ht] at e6
    rw [go_no (fun c => by have := c.new; rw [show d.testBit i = tb d i from rfl, ht] at this; cases this)]
    have HB2 : Hid (Below w.heap.size w w2) := hB2
    have HB1 : Hid (Below w.heap.size w w1) := hB1
    clear hB2 hB1 hB12 o2 ht hc1 hS1 hS hc b6 b7 hopK hw2 s2
    go_enter Try.func18, Try.ntmps18
    go_wp2_with fail
    go_big_quiet (fail)
    go_wp2_with fail
    go_ret
    exact ⟨rfl, bel_drN (bel_al HB1.out _) _⟩
  | false =>
    rw [ht] at e6
    by_cases hwr : wt = 0 ∧ x0 ≠ va
    · rw [go_no (fun c => by
        have := c.rd
        rw [HO.out] at this
        have := this hwr.1
        simp only at this
        rw [HX.out] at this
        exact hwr.2 this)]
      obtain ⟨rfl, hne⟩ := hwr
      have hd1 : ((x0 : Int) != (va : Int)) = true := by simpa using (fun e => hne (by omega) : ¬ (x0 : Int) = va)
      have HB1 : Hid (Below w.heap.size w w1) := hB1
      clear hB2 hB1 hB12 o2 ht hc1 hS1 hS hc b6 b7 hopK hw2 s2 hne
      go_enter Try.func18, Try.ntmps18
      go_wp2_with fail
      go_big_quiet (fail)
      go_wp2_with fail
      go_ret
      exact ⟨rfl, bel_drN (bel_al HB1.out _) _⟩
    · have HR : Hid (wt = 0 → x0 = va) := fun e => by
        apply Classical.byContradiction
        intro hne
        exact hwr ⟨e, hne⟩
      have b6' := b6.below hB12 l6
      have hS2 := hS1.below hB12 hSl
      have hc2 : HasO (hz h) (some ⟨b, off, none⟩) w2 := hc1.later hB12
      obtain ⟨g0, m0, m1, m2, m3, m4, m5⟩ := o2
      have o2 : OpAt (hzO ⟨pr, ob, wt, va, fr, te⟩) (w.heap.size + 2) 0 w2 := ⟨g0, m0, m1, m2, m3, m4, m5⟩
      simp only [hzO] at m0 m1 m2 m3 m4 m5
      have q2 := hS2.cell 0
      have l62 := b6'.lt
      have l72 : w.heap.size + 1 < w2.heap.size := by omega
      have e62 : w2.cell? ⟨w.heap.size, i, none⟩ = some (.bool false) := (hB12.cell (p := ⟨w.heap.size, i, none⟩) l6).trans e6
      have e72 : w2.cell? ⟨w.heap.size + 1, ob, none⟩ = some (.int .i64 (x0 : Nat)) := (hB12.cell (p := ⟨w.heap.size + 1, ob, none⟩) l7).trans e7
      have hSl2 := hS2.lt
      have HB2 : Hid (Below w.heap.size w w2) := hB2
      clear hB2 hB1 hB12 hc1 hS1 hS hc b6 b7 hopK
      by_cases hw0 : wt = 0
      · have hxv := HR.out hw0
        have hd0 : ((wt : Int) == 0) = true := by subst hw0; rfl
        have hd1 : ((x0 : Int) != (va : Int)) = false := by simpa using (by omega : (x0 : Int) = va)
        have HD : Hid (x0 = va) := hxv
        clear hxv hwr hw0
        go_enter Try.func18, Try.ntmps18
        go_wp2_with fail
        go_big_quiet (fail)
        go_wp2_with fail
        go_loopw [41] (fun u wr => ∃ j : Nat, u = .int .i64 j ∧ j ≤ n ∧ Hid (∀ j', j' < j → M.aheadB false (M.hop h j') (M.hop h i) = true → d.testBit j' = true) ∧ Below w2.heap.size w2 wr) (fun u _ => n - (intOf u).toNat)
        case atStart => exact ⟨0, rfl, Nat.zero_le _, fun j' h => absurd h (Nat.not_lt_zero _), bel_drN (Below.refl _ _) _⟩
        case round =>
          clear e6 e7 q0 hSl l6 l7 e62 e72 m0 m1 m2 m3 m4 m5 q2 k0 k1 k2 k3 k4 k5 hw1 hw2
          obtain ⟨j, rfl, hj, hz, hB⟩ := hrel
          have HBW : Hid (Below w.heap.size w wr) := bel_on HB2.out hB
          have q2 := (hS2.below hB hSl2).cell 0
          by_cases hjn : j < n
          · obtain ⟨_, _, e0, hop⟩ := (hc2.later hB) j (by rw [hz_len]; omega)
            cases e0
            rw [oAt_hzO] at hop
            obtain ⟨J, hJ⟩ : ∃ J, M.hop h j = J := ⟨_, rfl⟩
            have HJ : Hid (M.hop h j = J) := hJ
            rw [hJ] at hop
            obtain ⟨pj, oj, rj, vj, fj, tj⟩ := J
            simp only [hzO] at hop
            obtain ⟨hbj, k0, k1, k2, k3, k4, k5⟩ := hop
            have hjin : (j : Int) < (n : Int) := by omega
            have hj10 : (j : Int) < 10 := by omega
            obtain ⟨wx, hwx⟩ : ∃ wx, wr.alloc (.cells #[.int .i64 (pj : Nat), .int .i64 (oj : Nat), .int .i64 (rj : Nat), .int .i64 (vj : Nat), .int .i64 (fj : Nat), .int .i64 (tj : Nat)] 33) = wx := ⟨_, rfl⟩
            have hBx : Below wr.heap.size wr wx := hwx ▸ bel_al (Below.refl _ _) _
            have hC := bel_on hB hBx
            have HC : Hid (Below w2.heap.size w2 wx) := hC
            have oJ : OpAt (hzO ⟨pj, oj, rj, vj, fj, tj⟩) wr.heap.size 0 wx := hwx ▸ opAt_new wr (hzO ⟨pj, oj, rj, vj, fj, tj⟩)
            have ox := o2.later hC g0
            have bx := b6'.below hC l62
            have sx := hS2.below hC hSl2
            have ej := bx.cell j
            rw [opsC_get d j (by omega)] at ej
            have lx := bx.lt
            cases htj : tb d j with
            | true =>
              have HZ : Hid (∀ j', j' < j + 1 → M.aheadB false (M.hop h j') (M.hop h i) = true → d.testBit j' = true) := fun j' hj' e => by
                by_cases c : j' = j
                · subst c; exact htj
                · exact hz.out j' (by omega) e
              rw [htj] at ej
              clear hB hBx hC ox bx sx hJ oJ htj
              go_wp2_with fail
              go_big_quiet (fail)
              go_wp2_with fail
              go_roundw
              case rel => exact ⟨j + 1, by go_num, by omega, HZ, bel_drN HC.out _⟩
              case measure => simp [intOf]; omega
            | false =>
              rw [htj] at ej
              have hmk : ∀ W, Below wx.heap.size wx W → W.cell? ⟨w.heap.size, j, none⟩ = some (.bool false) ∧ W.cell? ⟨S, 1, none⟩ = some (.func (.func 12) #[] #[]) ∧
                  (W.cell? ⟨wr.heap.size, 0, none⟩ = some (.int .i64 (pj : Nat)) ∧ W.cell? ⟨wr.heap.size, 0 + 1, none⟩ = some (.int .i64 (oj : Nat)) ∧ W.cell? ⟨wr.heap.size, 0 + 2, none⟩ = some (.int .i64 (rj : Nat)) ∧ W.cell? ⟨wr.heap.size, 0 + 3, none⟩ = some (.int .i64 (vj : Nat)) ∧ W.cell? ⟨wr.heap.size, 0 + 4, none⟩ = some (.int .i64 (fj : Nat)) ∧ W.cell? ⟨wr.heap.size, 0 + 5, none⟩ = some (.int .i64 (tj : Nat))) ∧
                  (W.cell? ⟨w.heap.size + 2, 0, none⟩ = some (.int .i64 (pr : Nat)) ∧ W.cell? ⟨w.heap.size + 2, 0 + 1, none⟩ = some (.int .i64 (ob : Nat)) ∧ W.cell? ⟨w.heap.size + 2, 0 + 2, none⟩ = some (.int .i64 (wt : Nat)) ∧ W.cell? ⟨w.heap.size + 2, 0 + 3, none⟩ = some (.int .i64 (va : Nat)) ∧ W.cell? ⟨w.heap.size + 2, 0 + 4, none⟩ = some (.int .i64 (fr : Nat)) ∧ W.cell? ⟨w.heap.size + 2, 0 + 5, none⟩ = some (.int .i64 (te : Nat))) := fun W hW => by
                have a1 := oJ.later hW oJ.lt
                have a2 := ox.later hW ox.lt
                have a3 := (bx.below hW lx).cell j
                rw [opsC_get d j (by omega), htj] at a3
                exact ⟨a3, (sx.below hW sx.lt).cell 1, ⟨a1.c0, a1.c1, a1.c2, a1.c3, a1.c4, a1.c5⟩, ⟨a2.c0, a2.c1, a2.c2, a2.c3, a2.c4, a2.c5⟩⟩
              obtain ⟨r, hr⟩ : ∃ r, M.aheadB false ⟨pj, oj, rj, vj, fj, tj⟩ ⟨pr, ob, wt, va, fr, te⟩ = r := ⟨_, rfl⟩
              have hcall := fun W => isOverThere_ok (hzO ⟨pj, oj, rj, vj, fj, tj⟩) (hzO ⟨pr, ob, wt, va, fr, te⟩) W
              simp only [ov_there, hr] at hcall
              simp only [hzO] at hcall
              have q1 := (hmk wx (Below.refl _ _)).2.1
              have HTJ : Hid (tb d j = false) := htj
              have HR9 : Hid (M.aheadB false (M.hop h j) (M.hop h i) = r) := by show _ = _; rw [HJ.out, HO.out]; exact hr
              have lxx : wr.heap.size < wx.heap.size := oJ.lt
              obtain ⟨h1, h2, ⟨y0, y1, y2, y3, y4, y5⟩, ⟨z0, z1, z2, z3, z4, z5⟩⟩ := hmk wx (Below.refl _ _)
              clear hB hBx hC ox bx sx oJ htj hr hJ h1 h2
              cases r with
              | true =>
                have HGF : Hid (M.goB false h d (M.vf [x, y, z]) i = false) := go_no (fun c => by
                  have := c.pre j (by omega) HR9.out
                  rw [show d.testBit j = tb d j from rfl, HTJ.out] at this
                  cases this)
                go_wp2_with fail
                go_region_held3 (fun W => W.cell? ⟨w.heap.size, j, none⟩ = some (.bool false) ∧ W.cell? ⟨S, 1, none⟩ = some (.func (.func 12) #[] #[]) ∧
                  (W.cell? ⟨wr.heap.size, 0, none⟩ = some (.int .i64 (pj : Nat)) ∧ W.cell? ⟨wr.heap.size, 0 + 1, none⟩ = some (.int .i64 (oj : Nat)) ∧ W.cell? ⟨wr.heap.size, 0 + 2, none⟩ = some (.int .i64 (rj : Nat)) ∧ W.cell? ⟨wr.heap.size, 0 + 3, none⟩ = some (.int .i64 (vj : Nat)) ∧ W.cell? ⟨wr.heap.size, 0 + 4, none⟩ = some (.int .i64 (fj : Nat)) ∧ W.cell? ⟨wr.heap.size, 0 + 5, none⟩ = some (.int .i64 (tj : Nat))) ∧
                  (W.cell? ⟨w.heap.size + 2, 0, none⟩ = some (.int .i64 (pr : Nat)) ∧ W.cell? ⟨w.heap.size + 2, 0 + 1, none⟩ = some (.int .i64 (ob : Nat)) ∧ W.cell? ⟨w.heap.size + 2, 0 + 2, none⟩ = some (.int .i64 (wt : Nat)) ∧ W.cell? ⟨w.heap.size + 2, 0 + 3, none⟩ = some (.int .i64 (va : Nat)) ∧ W.cell? ⟨w.heap.size + 2, 0 + 4, none⟩ = some (.int .i64 (fr : Nat)) ∧ W.cell? ⟨w.heap.size + 2, 0 + 5, none⟩ = some (.int .i64 (te : Nat)))) (first | exact hmk _ ((Below.refl _ wx).drew) | exact hmk _ (bel_on ((Below.refl _ wx).drew) hB9)) (first | (go_at_call 12; refine (hcall _).mono ?_; rintro e w9 ⟨rfl, hB9⟩))
                go_wp2_with fail
                go_ret
                exact ⟨by rw [HGF.out]; rfl, bel_on (bel_on HB2.out HC.out.drew) hB9⟩
              | false =>
                have HZ : Hid (∀ j', j' < j + 1 → M.aheadB false (M.hop h j') (M.hop h i) = true → d.testBit j' = true) := fun j' hj' e => by
                  by_cases c : j' = j
                  · subst c; rw [HR9.out] at e; cases e
                  · exact hz.out j' (by omega) e
                go_wp2_with fail
                go_region_held3 (fun W => W.cell? ⟨w.heap.size, j, none⟩ = some (.bool false) ∧ W.cell? ⟨S, 1, none⟩ = some (.func (.func 12) #[] #[]) ∧
                  (W.cell? ⟨wr.heap.size, 0, none⟩ = some (.int .i64 (pj : Nat)) ∧ W.cell? ⟨wr.heap.size, 0 + 1, none⟩ = some (.int .i64 (oj : Nat)) ∧ W.cell? ⟨wr.heap.size, 0 + 2, none⟩ = some (.int .i64 (rj : Nat)) ∧ W.cell? ⟨wr.heap.size, 0 + 3, none⟩ = some (.int .i64 (vj : Nat)) ∧ W.cell? ⟨wr.heap.size, 0 + 4, none⟩ = some (.int .i64 (fj : Nat)) ∧ W.cell? ⟨wr.heap.size, 0 + 5, none⟩ = some (.int .i64 (tj : Nat))) ∧
                  (W.cell? ⟨w.heap.size + 2, 0, none⟩ = some (.int .i64 (pr : Nat)) ∧ W.cell? ⟨w.heap.size + 2, 0 + 1, none⟩ = some (.int .i64 (ob : Nat)) ∧ W.cell? ⟨w.heap.size + 2, 0 + 2, none⟩ = some (.int .i64 (wt : Nat)) ∧ W.cell? ⟨w.heap.size + 2, 0 + 3, none⟩ = some (.int .i64 (va : Nat)) ∧ W.cell? ⟨w.heap.size + 2, 0 + 4, none⟩ = some (.int .i64 (fr : Nat)) ∧ W.cell? ⟨w.heap.size + 2, 0 + 5, none⟩ = some (.int .i64 (te : Nat)))) (first | exact hmk _ ((Below.refl _ wx).drew) | exact hmk _ (bel_on ((Below.refl _ wx).drew) hB9)) (first | (go_at_call 12; refine (hcall _).mono ?_; rintro e w9 ⟨rfl, hB9⟩))
                go_wp2_with fail
                go_roundw
                case rel => exact ⟨j + 1, by go_num, by omega, HZ, bel_on HC.out.drew hB9⟩
                case measure => simp [intOf]; omega
          · obtain rfl : j = n := by omega
            have HG : Hid (M.goB false h d (M.vf [x, y, z]) i = true) := M.goB_iff.2 ⟨ht, fun j' hj' e => hz.out j' (by omega) e, fun e => by
              rw [HO.out] at e ⊢
              simp only at e ⊢
              rw [HX.out]
              exact HD.out⟩
            clear hB
            go_wp2_with fail
            go_ret
            exact ⟨by rw [HG.out]; rfl, HBW.out⟩
      · have hd1 : ((wt : Int) == 0) = false := by simpa using (by omega : ¬ (wt : Int) = 0)
        have HD : Hid (¬ wt = 0) := hw0
        clear hw0 hwr
        go_enter Try.func18, Try.ntmps18
        go_wp2_with fail
        go_big_quiet (fail)
        go_wp2_with fail
        go_loopw [41] (fun u wr => ∃ j : Nat, u = .int .i64 j ∧ j ≤ n ∧ Hid (∀ j', j' < j → M.aheadB false (M.hop h j') (M.hop h i) = true → d.testBit j' = true) ∧ Below w2.heap.size w2 wr) (fun u _ => n - (intOf u).toNat)
        case atStart => exact ⟨0, rfl, Nat.zero_le _, fun j' h => absurd h (Nat.not_lt_zero _), bel_drN (Below.refl _ _) _⟩
        case round =>
          clear e6 e7 q0 hSl l6 l7 e62 e72 m0 m1 m2 m3 m4 m5 q2 k0 k1 k2 k3 k4 k5 hw1 hw2
          obtain ⟨j, rfl, hj, hz, hB⟩ := hrel
          have HBW : Hid (Below w.heap.size w wr) := bel_on HB2.out hB
          have q2 := (hS2.below hB hSl2).cell 0
          by_cases hjn : j < n
          · obtain ⟨_, _, e0, hop⟩ := (hc2.later hB) j (by rw [hz_len]; omega)
            cases e0
            rw [oAt_hzO] at hop
            obtain ⟨J, hJ⟩ : ∃ J, M.hop h j = J := ⟨_, rfl⟩
            have HJ : Hid (M.hop h j = J) := hJ
            rw [hJ] at hop
            obtain ⟨pj, oj, rj, vj, fj, tj⟩ := J
            simp only [hzO] at hop
            obtain ⟨hbj, k0, k1, k2, k3, k4, k5⟩ := hop
            have hjin : (j : Int) < (n : Int) := by omega
            have hj10 : (j : Int) < 10 := by omega
            obtain ⟨wx, hwx⟩ : ∃ wx, wr.alloc (.cells #[.int .i64 (pj : Nat), .int .i64 (oj : Nat), .int .i64 (rj : Nat), .int .i64 (vj : Nat), .int .i64 (fj : Nat), .int .i64 (tj : Nat)] 33) = wx := ⟨_, rfl⟩
            have hBx : Below wr.heap.size wr wx := hwx ▸ bel_al (Below.refl _ _) _
            have hC := bel_on hB hBx
            have HC : Hid (Below w2.heap.size w2 wx) := hC
            have oJ : OpAt (hzO ⟨pj, oj, rj, vj, fj, tj⟩) wr.heap.size 0 wx := hwx ▸ opAt_new wr (hzO ⟨pj, oj, rj, vj, fj, tj⟩)
            have ox := o2.later hC g0
            have bx := b6'.below hC l62
            have sx := hS2.below hC hSl2
            have ej := bx.cell j
            rw [opsC_get d j (by omega)] at ej
            have lx := bx.lt
            cases htj : tb d j with
            | true =>
              have HZ : Hid (∀ j', j' < j + 1 → M.aheadB false (M.hop h j') (M.hop h i) = true → d.testBit j' = true) := fun j' hj' e => by
                by_cases c : j' = j
                · subst c; exact htj
                · exact hz.out j' (by omega) e
              rw [htj] at ej
              clear hB hBx hC ox bx sx hJ oJ htj
              go_wp2_with fail
              go_big_quiet (fail)
              go_wp2_with fail
              go_roundw
              case rel => exact ⟨j + 1, by go_num, by omega, HZ, bel_drN HC.out _⟩
              case measure => simp [intOf]; omega
            | false =>
              rw [htj] at ej
              have hmk : ∀ W, Below wx.heap.size wx W → W.cell? ⟨w.heap.size, j, none⟩ = some (.bool false) ∧ W.cell? ⟨S, 1, none⟩ = some (.func (.func 12) #[] #[]) ∧
                  (W.cell? ⟨wr.heap.size, 0, none⟩ = some (.int .i64 (pj : Nat)) ∧ W.cell? ⟨wr.heap.size, 0 + 1, none⟩ = some (.int .i64 (oj : Nat)) ∧ W.cell? ⟨wr.heap.size, 0 + 2, none⟩ = some (.int .i64 (rj : Nat)) ∧ W.cell? ⟨wr.heap.size, 0 + 3, none⟩ = some (.int .i64 (vj : Nat)) ∧ W.cell? ⟨wr.heap.size, 0 + 4, none⟩ = some (.int .i64 (fj : Nat)) ∧ W.cell? ⟨wr.heap.size, 0 + 5, none⟩ = some (.int .i64 (tj : Nat))) ∧
                  (W.cell? ⟨w.heap.size + 2, 0, none⟩ = some (.int .i64 (pr : Nat)) ∧ W.cell? ⟨w.heap.size + 2, 0 + 1, none⟩ = some (.int .i64 (ob : Nat)) ∧ W.cell? ⟨w.heap.size + 2, 0 + 2, none⟩ = some (.int .i64 (wt : Nat)) ∧ W.cell? ⟨w.heap.size + 2, 0 + 3, none⟩ = some (.int .i64 (va : Nat)) ∧ W.cell? ⟨w.heap.size + 2, 0 + 4, none⟩ = some (.int .i64 (fr : Nat)) ∧ W.cell? ⟨w.heap.size + 2, 0 + 5, none⟩ = some (.int .i64 (te : Nat))) := fun W hW => by
                have a1 := oJ.later hW oJ.lt
                have a2 := ox.later hW ox.lt
                have a3 := (bx.below hW lx).cell j
                rw [opsC_get d j (by omega), htj] at a3
                exact ⟨a3, (sx.below hW sx.lt).cell 1, ⟨a1.c0, a1.c1, a1.c2, a1.c3, a1.c4, a1.c5⟩, ⟨a2.c0, a2.c1, a2.c2, a2.c3, a2.c4, a2.c5⟩⟩
              obtain ⟨r, hr⟩ : ∃ r, M.aheadB false ⟨pj, oj, rj, vj, fj, tj⟩ ⟨pr, ob, wt, va, fr, te⟩ = r := ⟨_, rfl⟩
              have hcall := fun W => isOverThere_ok (hzO ⟨pj, oj, rj, vj, fj, tj⟩) (hzO ⟨pr, ob, wt, va, fr, te⟩) W
              simp only [ov_there, hr] at hcall
              simp only [hzO] at hcall
              have q1 := (hmk wx (Below.refl _ _)).2.1
              have HTJ : Hid (tb d j = false) := htj
              have HR9 : Hid (M.aheadB false (M.hop h j) (M.hop h i) = r) := by show _ = _; rw [HJ.out, HO.out]; exact hr
              have lxx : wr.heap.size < wx.heap.size := oJ.lt
              obtain ⟨h1, h2, ⟨y0, y1, y2, y3, y4, y5⟩, ⟨z0, z1, z2, z3, z4, z5⟩⟩ := hmk wx (Below.refl _ _)
              clear hB hBx hC ox bx sx oJ htj hr hJ h1 h2
              cases r with
              | true =>
                have HGF : Hid (M.goB false h d (M.vf [x, y, z]) i = false) := go_no (fun c => by
                  have := c.pre j (by omega) HR9.out
                  rw [show d.testBit j = tb d j from rfl, HTJ.out] at this
                  cases this)
                go_wp2_with fail
                go_region_held3 (fun W => W.cell? ⟨w.heap.size, j, none⟩ = some (.bool false) ∧ W.cell? ⟨S, 1, none⟩ = some (.func (.func 12) #[] #[]) ∧
                  (W.cell? ⟨wr.heap.size, 0, none⟩ = some (.int .i64 (pj : Nat)) ∧ W.cell? ⟨wr.heap.size, 0 + 1, none⟩ = some (.int .i64 (oj : Nat)) ∧ W.cell? ⟨wr.heap.size, 0 + 2, none⟩ = some (.int .i64 (rj : Nat)) ∧ W.cell? ⟨wr.heap.size, 0 + 3, none⟩ = some (.int .i64 (vj : Nat)) ∧ W.cell? ⟨wr.heap.size, 0 + 4, none⟩ = some (.int .i64 (fj : Nat)) ∧ W.cell? ⟨wr.heap.size, 0 + 5, none⟩ = some (.int .i64 (tj : Nat))) ∧
                  (W.cell? ⟨w.heap.size + 2, 0, none⟩ = some (.int .i64 (pr : Nat)) ∧ W.cell? ⟨w.heap.size + 2, 0 + 1, none⟩ = some (.int .i64 (ob : Nat)) ∧ W.cell? ⟨w.heap.size + 2, 0 + 2, none⟩ = some (.int .i64 (wt : Nat)) ∧ W.cell? ⟨w.heap.size + 2, 0 + 3, none⟩ = some (.int .i64 (va : Nat)) ∧ W.cell? ⟨w.heap.size + 2, 0 + 4, none⟩ = some (.int .i64 (fr : Nat)) ∧ W.cell? ⟨w.heap.size + 2, 0 + 5, none⟩ = some (.int .i64 (te : Nat)))) (first | exact hmk _ ((Below.refl _ wx).drew) | exact hmk _ (bel_on ((Below.refl _ wx).drew) hB9)) (first | (go_at_call 12; refine (hcall _).mono ?_; rintro e w9 ⟨rfl, hB9⟩))
                go_wp2_with fail
                go_ret
                exact ⟨by rw [HGF.out]; rfl, bel_on (bel_on HB2.out HC.out.drew) hB9⟩
              | false =>
                have HZ : Hid (∀ j', j' < j + 1 → M.aheadB false (M.hop h j') (M.hop h i) = true → d.testBit j' = true) := fun j' hj' e => by
                  by_cases c : j' = j
                  · subst c; rw [HR9.out] at e; cases e
                  · exact hz.out j' (by omega) e
                go_wp2_with fail
                go_region_held3 (fun W => W.cell? ⟨w.heap.size, j, none⟩ = some (.bool false) ∧ W.cell? ⟨S, 1, none⟩ = some (.func (.func 12) #[] #[]) ∧
                  (W.cell? ⟨wr.heap.size, 0, none⟩ = some (.int .i64 (pj : Nat)) ∧ W.cell? ⟨wr.heap.size, 0 + 1, none⟩ = some (.int .i64 (oj : Nat)) ∧ W.cell? ⟨wr.heap.size, 0 + 2, none⟩ = some (.int .i64 (rj : Nat)) ∧ W.cell? ⟨wr.heap.size, 0 + 3, none⟩ = some (.int .i64 (vj : Nat)) ∧ W.cell? ⟨wr.heap.size, 0 + 4, none⟩ = some (.int .i64 (fj : Nat)) ∧ W.cell? ⟨wr.heap.size, 0 + 5, none⟩ = some (.int .i64 (tj : Nat))) ∧
                  (W.cell? ⟨w.heap.size + 2, 0, none⟩ = some (.int .i64 (pr : Nat)) ∧ W.cell? ⟨w.heap.size + 2, 0 + 1, none⟩ = some (.int .i64 (ob : Nat)) ∧ W.cell? ⟨w.heap.size + 2, 0 + 2, none⟩ = some (.int .i64 (wt : Nat)) ∧ W.cell? ⟨w.heap.size + 2, 0 + 3, none⟩ = some (.int .i64 (va : Nat)) ∧ W.cell? ⟨w.heap.size + 2, 0 + 4, none⟩ = some (.int .i64 (fr : Nat)) ∧ W.cell? ⟨w.heap.size + 2, 0 + 5, none⟩ = some (.int .i64 (te : Nat)))) (first | exact hmk _ ((Below.refl _ wx).drew) | exact hmk _ (bel_on ((Below.refl _ wx).drew) hB9)) (first | (go_at_call 12; refine (hcall _).mono ?_; rintro e w9 ⟨rfl, hB9⟩))
                go_wp2_with fail
                go_roundw
                case rel => exact ⟨j + 1, by go_num, by omega, HZ, bel_on HC.out.drew hB9⟩
                case measure => simp [intOf]; omega
          · obtain rfl : j = n := by omega
            have HG : Hid (M.goB false h d (M.vf [x, y, z]) i = true) := M.goB_iff.2 ⟨ht, fun j' hj' e => hz.out j' (by omega) e, fun e => by
              rw [HO.out] at e ⊢
              simp only at e ⊢
              rw [HX.out]
              exact absurd e HD.out⟩
            clear hB
            go_wp2_with fail
            go_ret
            exact ⟨by rw [HG.out]; rfl, HBW.out⟩
end Go.Proofs.Ytdbejgidgajhlaa
