/- A sum comes (package snap, come); any coming. -/
import Derived.Test.YtplplgpfglaajaaDoorBk5
namespace Go.Proofs.YtplplgpfglaajaaDoor
open Go.RowKit
namespace M
theorem sumB_pos {b : Bk} {p q : Nat} {x : Int} {r : List Int} (h : 0 ≤ b.no q ∧ b.he q p = false) : sumB b p q x r = { b with mo := upd1 b.mo q (b.mo q + x), wy := upd2 b.wy p q r, ca := upd2 b.ca q p (b.ca q p + x) } := by
  unfold sumB; rw [if_pos h]
theorem sumB_neg {b : Bk} {p q : Nat} {x : Int} {r : List Int} (h : ¬ (0 ≤ b.no q ∧ b.he q p = false)) : sumB b p q x r = { b with mo := upd1 b.mo q (b.mo q + x), wy := upd2 b.wy p q r } := by
  unfold sumB; rw [if_neg h]
end M
set_option maxRecDepth 100000 in
set_option maxHeartbeats 2000000 in
theorem come_sum {O : Nat → Prop} {S n : Nat} {b : M.Bk} (p q : Nat) (x : Int) (r : List Int) (w : World) (h : BV O S n b w) (hg : M.BG n b) (hp : p < n) (hq : q < n) (hw : b.wy p q = x :: r) (hx : x ≠ -1) :
    Calls Tryd.prog 24 #[.pointer (some ⟨S, 0, none⟩), .int .i64 p, .int .i64 q] w fun e w' => e = .returned (terr 0) ∧ BV O S n (M.sumB b p q x r) w' ∧ Frm O w w' := by
  obtain ⟨Pb, v, h1, h2⟩ := h
  have hn5 := hg.n5
  have hc := h1.waits (q := q) (p := p) (by omega) (by omega)
  have fc := h1.blk.frozen (1 + q * 15 + p * 3)
  have hown := h1.way q p (by omega) (by omega)
  have hx5 : 0 ≤ x ∧ x ≤ 5000 := by
    rcases hg.wy_le (p := p) (q := q) (x := x) (by rw [hw]; exact List.mem_cons_self ..) with e | e
    · exact absurd e hx
    · exact e
  rw [hw] at hown
  obtain ⟨g, cap, f, hV, hgl, hcap, hmax, hrow, hf⟩ := way_block hown
  have c0 := hrow.cell (i := 0) (by omega)
  rw [hf 0 (by omega)] at c0
  have c0' : w.cell? ⟨g, 0, none⟩ = some (.int .i64 x) := c0
  rw [hV] at hc
  have H1 : Hid (BVr w S Pb v n b) := h1
  have H2 : Hid (Foot O S Pb v) := h2
  have HR : Hid (w.rowIs g 3 cap f) := hrow
  have HF : Hid (∀ j, j < r.length + 1 → f j = .int .i64 ((x :: r)[j]?.getD 0)) := hf
  have HV : Hid (v q p = .slice (some ⟨g, 0, none⟩) (r.length + 1) cap) := hV
  have hm0 := hg.mo0 hq
  have hm5 := hg.mo_le hq
  have hk0 := hg.ca0 p q
  have hk5 := hg.ca_le p q
  have hp5 : (p : Int) < 5 := by omega
  have hq5 : (q : Int) < 5 := by omega
  have hqn : (q : Int) < n := by omega
  have hcap1 : 0 < cap := by omega
  obtain ⟨hx0, hx1⟩ := hx5
  have hxd : (x == -1) = false := by simp; omega
  clear c0 hown h1 h2 hrow hf hV hg hw hx
  go_enter Tryd.func24, Tryd.ntmps24
  go_wp2_with fail
  refine (deleteZ_core g cap (r.length + 1) x r w f (by omega) (by simp) hcap hmax HR.out HF.out).mono ?_
  rintro e w1 ⟨rfl, ho1, hg1⟩
  have e1 : r.length + 1 - 1 = r.length := by omega
  rw [e1] at ho1 ⊢
  obtain ⟨P1, P2, P3, hb1⟩ := pop_facts H1.out H2.out (by omega) (by omega) HV.out ho1 hg1
  have hd := hb1.cell (i := 1 + q * 15 + p * 3) (by omega)
  have fd := hb1.frozen (1 + q * 15 + p * 3)
  have HB1 : Hid (BVr _ _ _ _ _ _) := P1
  have HM1 : Hid (Frm _ _ _) := P3
  clear P1 P3
  obtain ⟨w2, hw2⟩ : ∃ w2, w1.setCell ⟨S, 1 + q * 15 + p * 3, none⟩ (.slice (some ⟨g, 0, none⟩) r.length cap) = w2 := ⟨_, rfl⟩
  rw [hw2] at HB1 HM1
  have hpr := HB1.out.procs
  have hmo : w2.cell? ⟨Pb, q * 3, none⟩ = some (.int .i64 (b.mo q)) := HB1.out.mo hq
  have fmo := HB1.out.prs.frozen (q * 3)
  have B3 : BVr (w2.setCell ⟨Pb, q * 3, none⟩ (.int .i64 (b.mo q + x))) _ _ _ _ _ := HB1.out.setMo q (b.mo q + x)
  have HM3 : Hid (Frm O w (w2.setCell ⟨Pb, q * 3, none⟩ (.int .i64 (b.mo q + x)))) := HM1.out.set (p := ⟨Pb, q * 3, none⟩) H2.out.p _
  obtain ⟨w3, hw3⟩ : ∃ w3, w2.setCell ⟨Pb, q * 3, none⟩ (.int .i64 (b.mo q + x)) = w3 := ⟨_, rfl⟩
  rw [hw3] at B3 HM3
  have hno : w3.cell? ⟨Pb, q * 3 + 1, none⟩ = some (.bool (decide (0 ≤ b.no q))) := B3.no hq
  have hhe : w3.cell? ⟨S, 1 + q * 15 + p * 3 + 1, none⟩ = some (.bool (b.he q p)) := B3.marked (by omega) (by omega)
  have hca : w3.cell? ⟨S, 1 + q * 15 + p * 3 + 2, none⟩ = some (.int .i64 (b.ca q p)) := B3.came (by omega) (by omega)
  have fca := B3.blk.frozen (1 + q * 15 + p * 3 + 2)
  have HB4 : Hid (BVr (w3.setCell ⟨S, 1 + q * 15 + p * 3 + 2, none⟩ (.int .i64 (b.ca q p + x))) _ _ _ _ _) := B3.setCa (q := q) (p := p) (by omega) (b.ca q p + x)
  have HM4 : Hid (Frm O w (w3.setCell ⟨S, 1 + q * 15 + p * 3 + 2, none⟩ (.int .i64 (b.ca q p + x)))) := HM3.out.set (p := ⟨S, 1 + q * 15 + p * 3 + 2, none⟩) H2.out.s _
  have HB3 : Hid (BVr _ _ _ _ _ _) := B3
  obtain ⟨mo, hmo'⟩ : ∃ mo, b.mo q = mo := ⟨_, rfl⟩
  obtain ⟨ca, hca'⟩ : ∃ ca, b.ca q p = ca := ⟨_, rfl⟩
  by_cases h0 : 0 ≤ b.no q
  · rw [decide_eq_true h0] at hno
    cases hh : b.he q p with
    | false =>
      rw [hh] at hhe
      have FIN : Hid (BV O S n (M.sumB b p q x r) (w3.setCell ⟨S, 1 + q * 15 + p * 3 + 2, none⟩ (.int .i64 (b.ca q p + x)))) := by rw [M.sumB_pos ⟨h0, hh⟩]; exact ⟨Pb, _, HB4.out, P2⟩
      rw [hmo'] at hmo hw3 hm0 hm5
      rw [hca'] at hca FIN HM4 hk0 hk5
      clear hc fc c0' hg1 hb1 HB1 HM1 ho1 e1 P2 H2 H1 HR HF HV B3 h0 hh hmo' hca' HB3 HB4 HM3
      go_wp2_with fail
      go_ret
      exact ⟨rfl, FIN.out, HM4.out⟩
    | true =>
      rw [hh] at hhe
      have FIN : Hid (BV O S n (M.sumB b p q x r) w3) := by rw [M.sumB_neg (fun x => by rw [hh] at x; cases x.2)]; exact ⟨Pb, _, HB3.out, P2⟩
      rw [hmo'] at hmo hw3 hm0 hm5
      clear hc fc c0' hg1 hb1 HB1 HM1 ho1 e1 P2 H2 H1 HR HF HV B3 h0 hh hmo' hca' HB3 HB4 HM4 hca fca
      go_wp2_with fail
      go_ret
      exact ⟨rfl, FIN.out, HM3.out⟩
  · rw [decide_eq_false h0] at hno
    have FIN : Hid (BV O S n (M.sumB b p q x r) w3) := by rw [M.sumB_neg (fun x => h0 x.1)]; exact ⟨Pb, _, HB3.out, P2⟩
    rw [hmo'] at hmo hw3 hm0 hm5
    clear hc fc c0' hg1 hb1 HB1 HM1 ho1 e1 P2 H2 H1 HR HF HV B3 h0 hmo' hca' HB3 HB4 HM4 hca fca
    go_wp2_with fail
    go_ret
    exact ⟨rfl, FIN.out, HM3.out⟩
theorem come_ok {O : Nat → Prop} {S n : Nat} {b : M.Bk} (p q : Nat) (w : World) (h : BV O S n b w) (hO : ∀ k, w.heap.size ≤ k → O k) (hg : M.BG n b) (hp : p < n) (hq : q < n) (hpq : p ≠ q) :
    Calls Tryd.prog 24 #[.pointer (some ⟨S, 0, none⟩), .int .i64 p, .int .i64 q] w fun e w' => e = .returned (terr (M.comeR n b p q).2) ∧ BV O S n (M.comeR n b p q).1 w' ∧ Frm O w w' := by
  unfold M.comeR
  cases hw : b.wy p q with
  | nil =>
    refine (come_none p q w h hg.n5 hp hq hw).mono ?_
    rintro e w' ⟨rfl, rfl⟩
    exact ⟨rfl, h, Frm.refl _ _⟩
  | cons x r =>
    by_cases hx : x = -1
    · subst hx
      simp only [if_pos]
      exact come_mark p q r w h hO hg hp hq hpq hw
    · simp only [if_neg hx]
      exact come_sum p q x r w h hg hp hq hw hx
end Go.Proofs.YtplplgpfglaajaaDoor
