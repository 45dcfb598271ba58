/- A process notes (package snap, note), one begins to (begin). -/
import Derived.Test.YtplplgpfglaajaaDoorBk2
namespace Go.Proofs.YtplplgpfglaajaaDoor
open Go.RowKit

theorem prF_note (b : M.Bk) (p : Nat) (h0 : 0 ≤ b.mo p) (k : Nat) : (if k = p * 3 + 2 then Value.int .i64 (b.mo p) else if k = p * 3 + 1 then .bool true else prF b k) = prF (M.noteK b p 0) k := by
  by_cases e2 : k = p * 3 + 2
  · subst e2
    rw [if_pos rfl, prF_had]
    show _ = Value.int .i64 (if 0 ≤ M.upd1 b.no p (b.mo p) p then M.upd1 b.no p (b.mo p) p else 0)
    rw [M.upd1_same, if_pos h0]
  · rw [if_neg e2]
    by_cases e1 : k = p * 3 + 1
    · subst e1
      rw [if_pos rfl, prF_no]
      show _ = Value.bool (decide (0 ≤ M.upd1 b.no p (b.mo p) p))
      rw [M.upd1_same, decide_eq_true h0]
    · rw [if_neg e1]
      unfold prF
      by_cases e0 : k % 3 = 0
      · rw [if_pos e0, if_pos e0]; rfl
      · rw [if_neg e0, if_neg e0]
        have hne : k / 3 ≠ p := by omega
        show (if k % 3 = 1 then _ else _) = if k % 3 = 1 then Value.bool (decide (0 ≤ M.upd1 b.no p (b.mo p) (k / 3))) else Value.int .i64 (if 0 ≤ M.upd1 b.no p (b.mo p) (k / 3) then M.upd1 b.no p (b.mo p) (k / 3) else 0)
        rw [M.upd1_other _ _ hne]
theorem BVr.noted {w : World} {S Pb : Nat} {v : Nat → Nat → Value} {n : Nat} {b : M.Bk} (h : BVr w S Pb v n b) {p : Nat} (h0 : 0 ≤ b.mo p) : BVr ((w.setCell ⟨Pb, p * 3 + 1, none⟩ (.bool true)).setCell ⟨Pb, p * 3 + 2, none⟩ (.int .i64 (b.mo p))) S Pb v n (M.noteK b p 0) := by
  have hw : (M.noteK b p 0).wy = b.wy := by
    funext a c
    rw [M.noteK_wy, if_neg (fun x => absurd x.2.2 (Nat.not_lt_zero _))]
  refine ⟨?_, ((h.prs.set (p * 3 + 1) (.bool true)).set (p * 3 + 2) (.int .i64 (b.mo p))).congr (fun k _ => prF_note b p h0 k), fun q' p' hq hp => ?_, h.inj⟩
  · refine ((h.blk.setOther (a := ⟨Pb, p * 3 + 1, none⟩) h.neSP _).setOther (a := ⟨Pb, p * 3 + 2, none⟩) h.neSP _).congr fun k _ => ?_
    rfl
  · rw [hw]
    exact owns_blk (h.way q' p' hq hp) (fun g hg => (Below.heap_setCell _ _ _ _ (fun x => h.neP hq hp (hg.trans (congrArg some x)))).trans (Below.heap_setCell _ _ _ _ (fun x => h.neP hq hp (hg.trans (congrArg some x)))))
set_option maxRecDepth 100000 in
set_option maxHeartbeats 1000000 in
theorem note_old {O : Nat → Prop} {S n : Nat} {b : M.Bk} (p : Nat) (w : World) (h : BV O S n b w) (hp : p < n) (h0 : 0 ≤ b.no p) :
    Calls Tryd.prog 29 #[.pointer (some ⟨S, 0, none⟩), .int .i64 p] w fun e w' => (∃ u, e = .returned u) ∧ w = w' := by
  obtain ⟨Pb, v, h1, _⟩ := h
  have hc := h1.procs
  have hn := h1.no hp
  rw [decide_eq_true h0] at hn
  clear h1 h0
  go_enter Tryd.func29, Tryd.ntmps29
  go_wp2_with fail
  exact bodyPost_ret (results_none rfl _ _ _) rfl ⟨⟨_, rfl⟩, rfl⟩
set_option maxRecDepth 100000 in
set_option maxHeartbeats 1000000 in
theorem note_new {O : Nat → Prop} {S n : Nat} {b : M.Bk} (p : Nat) (w : World) (h : BV O S n b w) (hO : ∀ k, w.heap.size ≤ k → O k) (hp : p < n) (hn5 : n ≤ 5) (h0 : ¬ 0 ≤ b.no p) (hm : 0 ≤ b.mo p) (hl : ∀ c, (b.wy p c).length ≤ 50) :
    Calls Tryd.prog 29 #[.pointer (some ⟨S, 0, none⟩), .int .i64 p] w fun e w' => (∃ u, e = .returned u) ∧ BV O S n (M.noteB n b p) w' ∧ Frm O w w' := by
  obtain ⟨Pb, v, h1, h2⟩ := h
  have hc := h1.procs
  have hn := h1.no hp
  have hmo := h1.mo hp
  have hha := h1.had hp
  rw [decide_eq_false h0] at hn
  have f1 := h1.prs.frozen (p * 3 + 1)
  have f2 := h1.prs.frozen (p * 3 + 2)
  have hS := h1.ltS
  have hP := h1.ltP
  have hne := h1.neSP
  have HB : Hid (BV O S n (M.noteK b p 0) ((w.setCell ⟨Pb, p * 3 + 1, none⟩ (.bool true)).setCell ⟨Pb, p * 3 + 2, none⟩ (.int .i64 (b.mo p)))) := ⟨Pb, v, h1.noted hm, h2⟩
  have HF : Hid (Frm O w ((w.setCell ⟨Pb, p * 3 + 1, none⟩ (.bool true)).setCell ⟨Pb, p * 3 + 2, none⟩ (.int .i64 (b.mo p)))) := ((Frm.refl O w).set (p := ⟨Pb, p * 3 + 1, none⟩) h2.p _).set (p := ⟨Pb, p * 3 + 2, none⟩) h2.p _
  obtain ⟨mo, hmo'⟩ : ∃ mo, b.mo p = mo := ⟨_, rfl⟩
  rw [hmo'] at hmo HB HF
  have H0 : Hid (¬ 0 ≤ b.no p) := h0
  clear h1 h2 hm hmo' h0
  go_enter Tryd.func29, Tryd.ntmps29
  go_wp2_with fail
  obtain ⟨w1, hw1⟩ : ∃ w1, w1 = (w.setCell ⟨Pb, p * 3 + 1, none⟩ (.bool true)).setCell ⟨Pb, p * 3 + 2, none⟩ (.int .i64 mo) := ⟨_, rfl⟩
  rw [← hw1] at HB HF ⊢
  clear hw1 hc hn hha f1 f2 hmo
  go_loopw [31] (fun v wr => ∃ k : Nat, v = .int .i64 k ∧ k ≤ n ∧ BV O S n (M.noteK b p k) wr ∧ Frm O w wr) (fun v _ => n - (intOf v).toNat)
  case atStart => exact ⟨0, rfl, Nat.zero_le _, HB.out, HF.out⟩
  case round =>
    clear HB HF
    obtain ⟨k, rfl, hk, hB, hF⟩ := hrel
    by_cases hlt : k < n
    · have hki : (k : Int) < n := by omega
      by_cases e : k = p
      · subst e
        have HR : Hid (BV O S n (M.noteK b k (k + 1)) wr) := by rw [M.noteK_self]; exact hB
        have HF : Hid (Frm O w wr) := hF
        clear hB hF
        go_wp2_with fail
        go_roundw
        case rel => exact ⟨k + 1, by go_num, by omega, HR.out, HF.out⟩
        case measure => simp [intOf]; omega
      · have hd : ((k : Int) != (p : Int)) = true := by simp; omega
        have hd' : (k != p) = true := by simp; omega
        have HE : Hid (¬ k = p) := e
        have HF : Hid (Frm O w wr) := hF
        have HB : Hid (BV O S n (M.noteK b p k) wr) := hB
        clear e hB hF
        go_wp2_with fail
        refine (send_ok p k (-1) wr HB.out (fun j hj => hO j (Nat.le_trans HF.out.size hj)) (by omega) (by omega) ?_).mono ?_
        · rw [M.noteK_wy, if_neg (fun x => absurd x.2.2 (Nat.lt_irrefl _))]; have := hl k; omega
        rintro e w2 ⟨⟨u, rfl⟩, hB2, hF2⟩
        rw [M.noteK_send b HE.out] at hB2
        have H2 : Hid (BV O S n (M.noteK b p (k + 1)) w2) := hB2
        have G2 : Hid (Frm O w w2) := HF.out.trans hF2
        clear hB2 hF2 HB HF
        go_wp2_with fail
        go_roundw
        case rel => exact ⟨k + 1, by go_num, by omega, H2.out, G2.out⟩
        case measure => simp [intOf]; omega
    · obtain rfl : n = k := by omega
      have HR : Hid (BV O S n (M.noteB n b p) wr) := hB
      have HF : Hid (Frm O w wr) := hF
      clear hB hF
      go_wp2_with fail
      go_end0
      exact ⟨⟨_, rfl⟩, HR.out, HF.out⟩
set_option maxRecDepth 100000 in
set_option maxHeartbeats 1000000 in
theorem begin_old {O : Nat → Prop} {S n : Nat} {b : M.Bk} (p : Nat) (w : World) (h : BV O S n b w) (hn5 : n ≤ 5) (h0 : ∃ s, s < n ∧ 0 ≤ b.no s) :
    Calls Tryd.prog 22 #[.pointer (some ⟨S, 0, none⟩), .int .i64 p] w fun e w' => e = .returned (terr 7) ∧ Below w.heap.size w w' := by
  obtain ⟨Pb, v, h1, _⟩ := h
  have hc := h1.procs
  have H0 : Hid (∃ s, s < n ∧ 0 ≤ b.no s) := h0
  have H1 : Hid (BVr w S Pb v n b) := h1
  clear h0 h1
  go_enter Tryd.func22, Tryd.ntmps22
  go_wp2_with fail
  go_loopw [12] (fun v wr => ∃ k : Nat, v = .int .i64 k ∧ k ≤ n ∧ Hid (∀ j, j < k → ¬ 0 ≤ b.no j) ∧ Below w.heap.size w wr) (fun v _ => n - (intOf v).toNat)
  case atStart => exact ⟨0, rfl, Nat.zero_le _, show ∀ j, j < 0 → _ from fun j hj => absurd hj (Nat.not_lt_zero _), Below.refl _ _⟩
  case round =>
    obtain ⟨k, rfl, hk, hJ, hB⟩ := hrel
    by_cases hlt : k < n
    · have hr := H1.out.below hB
      have c0 := hr.mo hlt
      have c1 := hr.no hlt
      have c2 := hr.had hlt
      have hP := hr.ltP
      have hki : (k : Int) < n := by omega
      obtain ⟨z0, hz0⟩ : ∃ z, b.mo k = z := ⟨_, rfl⟩
      obtain ⟨z2, hz2⟩ : ∃ z, (if 0 ≤ b.no k then b.no k else 0) = z := ⟨_, rfl⟩
      rw [hz0] at c0
      rw [hz2] at c2
      clear hr hz0 hz2
      by_cases e : 0 ≤ b.no k
      · rw [decide_eq_true e] at c1
        clear e
        go_wp2_with fail
        go_ret
        exact ⟨rfl, bel_al hB _⟩
      · rw [decide_eq_false e] at c1
        have HJ : Hid (∀ j, j < k + 1 → ¬ 0 ≤ b.no j) := fun j hj => by
          by_cases x : j = k
          · subst x; exact e
          · exact hJ.out j (by omega)
        clear e
        go_wp2_with fail
        go_roundw
        case rel => exact ⟨k + 1, by go_num, by omega, HJ, bel_al hB _⟩
        case measure => simp [intOf]; omega
    · obtain ⟨s, hs, hn⟩ := H0.out
      exact absurd hn (hJ.out s (by omega))
set_option maxRecDepth 100000 in
set_option maxHeartbeats 1000000 in
theorem begin_new {O : Nat → Prop} {S n : Nat} {b : M.Bk} (p : Nat) (w : World) (h : BV O S n b w) (hO : ∀ k, w.heap.size ≤ k → O k) (hp : p < n) (hn5 : n ≤ 5) (h0 : ∀ s, s < n → ¬ 0 ≤ b.no s) (hm : 0 ≤ b.mo p) (hl : ∀ c, (b.wy p c).length ≤ 50) :
    Calls Tryd.prog 22 #[.pointer (some ⟨S, 0, none⟩), .int .i64 p] w fun e w' => e = .returned (terr 0) ∧ BV O S n (M.noteB n b p) w' ∧ Frm O w w' := by
  obtain ⟨Pb, v, h1, h2⟩ := h
  have hc := h1.procs
  have H0 : Hid (∀ s, s < n → ¬ 0 ≤ b.no s) := h0
  have H1 : Hid (BVr w S Pb v n b) := h1
  clear h0 h1
  go_enter Tryd.func22, Tryd.ntmps22
  go_wp2_with fail
  go_loopw [12] (fun v wr => ∃ k : Nat, v = .int .i64 k ∧ k ≤ n ∧ Hid (∀ j, j < k → ¬ 0 ≤ b.no j) ∧ Below w.heap.size w wr) (fun v _ => n - (intOf v).toNat)
  case atStart => exact ⟨0, rfl, Nat.zero_le _, show ∀ j, j < 0 → _ from fun j hj => absurd hj (Nat.not_lt_zero _), Below.refl _ _⟩
  case round =>
    obtain ⟨k, rfl, hk, hJ, hB⟩ := hrel
    by_cases hlt : k < n
    · have hr := H1.out.below hB
      have c0 := hr.mo hlt
      have c1 := hr.no hlt
      have c2 := hr.had hlt
      have hP := hr.ltP
      have hki : (k : Int) < n := by omega
      obtain ⟨z0, hz0⟩ : ∃ z, b.mo k = z := ⟨_, rfl⟩
      obtain ⟨z2, hz2⟩ : ∃ z, (if 0 ≤ b.no k then b.no k else 0) = z := ⟨_, rfl⟩
      rw [hz0] at c0
      rw [hz2] at c2
      clear hr hz0 hz2
      have e : ¬ 0 ≤ b.no k := by have := H0.out k hlt; omega
      rw [decide_eq_false e] at c1
      have HJ : Hid (∀ j, j < k + 1 → ¬ 0 ≤ b.no j) := fun j hj => by
        by_cases x : j = k
        · subst x; exact e
        · exact hJ.out j (by omega)
      clear e
      go_wp2_with fail
      go_roundw
      case rel => exact ⟨k + 1, by go_num, by omega, HJ, bel_al hB _⟩
      case measure => simp [intOf]; omega
    · obtain rfl : n = k := by omega
      go_wp2_with fail
      refine (note_new p wr (⟨Pb, v, H1.out.below hB, h2⟩ : BV O S n b wr) (fun j hj => hO j (Nat.le_trans hB.size hj)) hp hn5 (by have := H0.out p hp; omega) hm hl).mono ?_
      rintro e w2 ⟨⟨u, rfl⟩, hB2, hF2⟩
      have H2 : Hid (BV O S n (M.noteB n b p) w2) := hB2
      have G2 : Hid (Frm O w w2) := (Frm.of_below hB).trans hF2
      clear hB2 hF2 H1 h2
      go_wp2_with fail
      go_ret
      exact ⟨rfl, H2.out, G2.out⟩
end Go.Proofs.YtplplgpfglaajaaDoor
