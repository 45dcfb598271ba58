/- What waits first on a way comes (package snap, come). -/
import Derived.Test.YtplplgpfglaajaaDoorBk4
namespace Go.Proofs.YtplplgpfglaajaaDoor
open Go.RowKit

theorem way_block {w : World} {v : Value} {x : Int} {r : List Int} (h : w.ownsRow 0 3 1 v (x :: r).length (zc (x :: r))) : ∃ g cap f, v = .slice (some ⟨g, 0, none⟩) (r.length + 1) cap ∧ g < w.heap.size ∧ r.length + 1 ≤ cap ∧ cap ≤ maxLen ∧ w.rowIs g 3 cap f ∧ ∀ j, j < r.length + 1 → f j = .int .i64 ((x :: r)[j]?.getD 0) := by
  rcases h.2 with ⟨_, h0⟩ | ⟨g, cap, cur, rfl, _, hg, h1, h2, h3, h4⟩
  · simp at h0
  · have hsz : cur.size = cap := by rw [h3, Nat.mul_one]
    refine ⟨g, cap, fun i => cur[i]?.getD default, rfl, (Array.getElem?_eq_some_iff.1 hg).1, h1, h2, ⟨cur, hg, hsz, fun i hi => ?_⟩, fun j hj => ?_⟩
    · show cur[i]? = some (cur[i]?.getD default)
      rw [Array.getElem?_eq_getElem (by omega)]; rfl
    · have e : (cur.toList.take ((x :: r).length * 1))[j]? = (zc (x :: r))[j]? := by rw [h4]
      rw [List.getElem?_take, if_pos (by simp; omega), zc_at (by simp; omega), Array.getElem?_toList] at e
      show cur[j]?.getD default = _
      rw [e]; rfl
theorem pop_facts {O : Nat → Prop} {w w1 : World} {S Pb : Nat} {v : Nat → Nat → Value} {n : Nat} {b : M.Bk} {p q g cap m : Nat} {r : List Int} (h1 : BVr w S Pb v n b) (h2 : Foot O S Pb v) (hq : q < 5) (hp : p < 5) (hV : v q p = .slice (some ⟨g, 0, none⟩) m cap)
    (ho : w1.ownsRow 0 3 1 (.slice (some ⟨g, 0, none⟩) r.length cap) r.length (zc r)) (hg : w.grownBy w1 (some g)) :
    BVr (w1.setCell ⟨S, 1 + q * 15 + p * 3, none⟩ (.slice (some ⟨g, 0, none⟩) r.length cap)) S Pb (M.upd2 v q p (.slice (some ⟨g, 0, none⟩) r.length cap)) n (M.popB b p q r) ∧ Foot O S Pb (M.upd2 v q p (.slice (some ⟨g, 0, none⟩) r.length cap)) ∧
    Frm O w (w1.setCell ⟨S, 1 + q * 15 + p * 3, none⟩ (.slice (some ⟨g, 0, none⟩) r.length cap)) ∧ w1.rowIs S 58 76 (bkF (.slice (some ⟨Pb, 0, none⟩) n n) v b) := by
  have hgo : (v q p).ownBlock = some g := by rw [hV]; rfl
  have hO1 : O g := h2.v q p g hq hp hgo
  have hneS : g ≠ S := fun e => h1.neS hq hp (by rw [hgo, e])
  refine ⟨h1.setW hq hp (l := r) (fun k hk e => hg.block k hk (fun x => e (by rw [hgo, x]))) ho (fun g' e => .inl (by rw [hgo, ← e]; rfl)), h2.set (fun g' e => ?_), ?_, h1.blk.of_block (hg.block S h1.ltS (fun e => hneS (Option.some.inj e).symm))⟩
  · obtain rfl : g = g' := by simpa [Value.ownBlock] using e
    exact hO1
  · refine ((Frm.refl O w).grown hg (fun k e => ?_)).set (p := ⟨S, 1 + q * 15 + p * 3, none⟩) h2.s _
    obtain rfl : g = k := Option.some.inj e
    exact hO1
set_option maxRecDepth 100000 in
set_option maxHeartbeats 1000000 in
theorem come_none {O : Nat → Prop} {S n : Nat} {b : M.Bk} (p q : Nat) (w : World) (h : BV O S n b w) (hn5 : n ≤ 5) (hp : p < n) (hq : q < n) (hw : b.wy p q = []) :
    Calls Tryd.prog 24 #[.pointer (some ⟨S, 0, none⟩), .int .i64 p, .int .i64 q] w fun e w' => e = .returned (terr 5) ∧ w = w' := by
  obtain ⟨Pb, v, h1, _⟩ := h
  have hc := h1.waits (q := q) (p := p) (by omega) (by omega)
  have hown := h1.way q p (by omega) (by omega)
  rw [hw] at hown
  obtain ⟨V, hV⟩ : ∃ V, v q p = V := ⟨_, rfl⟩
  rw [hV] at hown hc
  obtain ⟨ad, c0, rfl⟩ := owns_slice hown
  have hp5 : (p : Int) < 5 := by omega
  have hq5 : (q : Int) < 5 := by omega
  rw [List.length_nil] at hc
  clear hown hV h1 hw
  go_enter Tryd.func24, Tryd.ntmps24
  go_wp2_with fail
  go_ret
  exact ⟨rfl, rfl⟩
set_option maxRecDepth 100000 in
set_option maxHeartbeats 2000000 in
theorem come_mark {O : Nat → Prop} {S n : Nat} {b : M.Bk} (p q : Nat) (r : List Int) (w : World) (h : BV O S n b w) (hO : ∀ k, w.heap.size ≤ k → O k) (hg : M.BG n b) (hp : p < n) (hq : q < n) (hpq : p ≠ q) (hw : b.wy p q = -1 :: r) :
    Calls Tryd.prog 24 #[.pointer (some ⟨S, 0, none⟩), .int .i64 p, .int .i64 q] w fun e w' => e = .returned (terr 0) ∧ BV O S n (M.markB n b p q r) w' ∧ Frm O w w' := by
  obtain ⟨Pb, v, h1, h2⟩ := h
  have hn5 := hg.n5
  have hc := h1.waits (q := q) (p := p) (by omega) (by omega)
  have fc := h1.blk.frozen (1 + q * 15 + p * 3)
  have hown := h1.way q p (by omega) (by omega)
  rw [hw] at hown
  obtain ⟨g, cap, f, hV, hgl, hcap, hmax, hrow, hf⟩ := way_block hown
  have c0 := hrow.cell (i := 0) (by omega)
  rw [hf 0 (by omega)] at c0
  have c0' : w.cell? ⟨g, 0, none⟩ = some (.int .i64 (-1)) := c0
  rw [hV] at hc
  have H1 : Hid (BVr w S Pb v n b) := h1
  have H2 : Hid (Foot O S Pb v) := h2
  have HR : Hid (w.rowIs g 3 cap f) := hrow
  have HF : Hid (∀ j, j < r.length + 1 → f j = .int .i64 (((-1 : Int) :: r)[j]?.getD 0)) := hf
  have HV : Hid (v q p = .slice (some ⟨g, 0, none⟩) (r.length + 1) cap) := hV
  have HG : Hid (M.BG n b) := hg
  have hp5 : (p : Int) < 5 := by omega
  have hq5 : (q : Int) < 5 := by omega
  have HW : Hid (b.wy p q = -1 :: r) := hw
  have HPQ : Hid (p ≠ q) := hpq
  have hcap1 : 0 < cap := by omega
  clear c0 hown h1 h2 hrow hf hV hg hw hpq
  go_enter Tryd.func24, Tryd.ntmps24
  go_wp2_with fail
  refine (deleteZ_core g cap (r.length + 1) (-1) r w f (by omega) (by simp) hcap hmax HR.out HF.out).mono ?_
  rintro e w1 ⟨rfl, ho1, hg1⟩
  have e1 : r.length + 1 - 1 = r.length := by omega
  rw [e1] at ho1 ⊢
  obtain ⟨P1, P2, P3, hb1⟩ := pop_facts H1.out H2.out (by omega) (by omega) HV.out ho1 hg1
  have hd := hb1.cell (i := 1 + q * 15 + p * 3) (by omega)
  have fd := hb1.frozen (1 + q * 15 + p * 3)
  have HB1 : Hid (BVr _ _ _ _ _ _) := P1
  have HM1 : Hid (Frm _ _ _) := P3
  clear P1 P3
  obtain ⟨w2, hw2⟩ : ∃ w2, w1.setCell ⟨S, 1 + q * 15 + p * 3, none⟩ (.slice (some ⟨g, 0, none⟩) r.length cap) = w2 := ⟨_, rfl⟩
  rw [hw2] at HB1 HM1
  have hm2 := HB1.out.marked (q := q) (p := p) (by omega) (by omega)
  have fm2 := HB1.out.blk.frozen (1 + q * 15 + p * 3 + 1)
  have HB2 : Hid (BV O S n (M.hearB (M.popB b p q r) p q) (w2.setCell ⟨S, 1 + q * 15 + p * 3 + 1, none⟩ (.bool true))) := ⟨Pb, _, HB1.out.setHe (q := q) (p := p) (by omega), P2⟩
  have HM2 : Hid (Frm O w (w2.setCell ⟨S, 1 + q * 15 + p * 3 + 1, none⟩ (.bool true))) := HM1.out.set (p := ⟨S, 1 + q * 15 + p * 3 + 1, none⟩) H2.out.s _
  clear hc fc c0' hg1 hb1 HB1 HM1 ho1 e1 P2 H2 H1 HR HF HV
  go_wp2_with fail
  by_cases h0 : 0 ≤ b.no q
  · have e : M.markB n b p q r = M.hearB (M.popB b p q r) p q := by unfold M.markB; rw [if_neg (by omega)]
    have HE : Hid (M.markB n b p q r = M.hearB (M.popB b p q r) p q) := e
    clear e
    refine (note_old q _ HB2.out hq h0).mono ?_
    rintro e w3 ⟨⟨u, rfl⟩, rfl⟩
    clear hw2 hm2 fm2 hd fd
    go_wp2_with fail
    go_ret
    exact ⟨rfl, by rw [HE.out]; exact HB2.out, HM2.out⟩
  · have hno : b.no q = -1 := HG.out.no_neg hq h0
    have e : M.markB n b p q r = M.noteB n (M.hearB (M.popB b p q r) p q) q := by unfold M.markB; rw [if_pos hno]; rfl
    have HE : Hid (M.markB n b p q r = M.noteB n (M.hearB (M.popB b p q r) p q) q) := e
    clear e
    refine (note_new q _ HB2.out (fun k hk => hO k (Nat.le_trans HM2.out.size hk)) hq hn5 h0 (HG.out.mo0 hq) (fun c => ?_)).mono ?_
    · rw [M.hp_wy]
      split
      · have := HG.out.cnt p q; rw [HW.out, List.length_cons] at this; omega
      · have := HG.out.cnt q c; omega
    rintro e w3 ⟨⟨u, rfl⟩, hB3, hF3⟩
    have G1 : Hid (BV O S n (M.noteB n (M.hearB (M.popB b p q r) p q) q) w3) := hB3
    have G2 : Hid (Frm O w w3) := HM2.out.trans hF3
    clear hw2 hm2 fm2 hd fd hB3 hF3 HB2 HM2 h0
    go_wp2_with fail
    go_ret
    exact ⟨rfl, by rw [HE.out]; exact G1.out, G2.out⟩
end Go.Proofs.YtplplgpfglaajaaDoor
