/- A sum is paid (package snap, pay). -/
import Derived.Test.YtplplgpfglaajaaDoorBk3
namespace Go.Proofs.YtplplgpfglaajaaDoor
open Go.RowKit
namespace M
/-- a payment: the bank behind it, and what is wrong -/
def payR (b : Bk) (p q : Nat) (s : Int) : Bk × Nat := if ¬ (0 ≤ s ∧ s ≤ 1000) then (b, 1) else if b.mo p < s then (b, 5) else if 8 ≤ (b.wy p q).length then (b, 4) else (payB b p q s, 0)
/-- a coming -/
def comeR (n : Nat) (b : Bk) (p q : Nat) : Bk × Nat := match b.wy p q with
  | [] => (b, 5)
  | x :: r => if x = -1 then (markB n b p q r, 0) else (sumB b p q x r, 0)
end M
section
variable {w : World} {S Pb : Nat} {v : Nat → Nat → Value} {n : Nat} {b : M.Bk}
theorem BVr.setMo (h : BVr w S Pb v n b) (p : Nat) (z : Int) : BVr (w.setCell ⟨Pb, p * 3, none⟩ (.int .i64 z)) S Pb v n { b with mo := M.upd1 b.mo p z } := by
  refine h.setP (b' := { b with mo := M.upd1 b.mo p z }) rfl rfl rfl (fun k _ => ?_)
  by_cases e : k = p * 3
  · subst e; rw [if_pos rfl, prF_mo]
    show _ = Value.int .i64 (M.upd1 b.mo p z p)
    rw [M.upd1_same]
  · rw [if_neg e]
    unfold prF
    by_cases e0 : k % 3 = 0
    · rw [if_pos e0, if_pos e0]
      show _ = Value.int .i64 (M.upd1 b.mo p z (k / 3))
      rw [M.upd1_other _ _ (by omega)]
    · rw [if_neg e0, if_neg e0]
theorem BVr.setHe (h : BVr w S Pb v n b) {q p : Nat} (hp : p < 5) : BVr (w.setCell ⟨S, 1 + q * 15 + p * 3 + 1, none⟩ (.bool true)) S Pb v n (M.hearB b p q) := by
  refine h.setS (b' := M.hearB b p q) rfl rfl rfl (fun k _ => ?_)
  by_cases e : k = 1 + q * 15 + p * 3 + 1
  · subst e; rw [if_pos rfl, bkF_mark _ _ _ hp]
    show _ = Value.bool (M.upd2 b.he q p true q p)
    rw [M.upd2_same]
  · rw [if_neg e]
    unfold bkF
    by_cases e0 : k = 0
    · rw [if_pos e0, if_pos e0]
    · rw [if_neg e0, if_neg e0]
      by_cases e1 : (k - 1) % 3 = 0
      · rw [if_pos e1, if_pos e1]
      · rw [if_neg e1, if_neg e1]
        by_cases e2 : (k - 1) % 3 = 1
        · rw [if_pos e2, if_pos e2]
          show _ = Value.bool (M.upd2 b.he q p true _ _)
          rw [M.upd2_other _ _ (fun x => e (by omega))]
        · rw [if_neg e2, if_neg e2]; rfl
theorem BVr.setCa (h : BVr w S Pb v n b) {q p : Nat} (hp : p < 5) (z : Int) : BVr (w.setCell ⟨S, 1 + q * 15 + p * 3 + 2, none⟩ (.int .i64 z)) S Pb v n { b with ca := M.upd2 b.ca q p z } := by
  refine h.setS (b' := { b with ca := M.upd2 b.ca q p z }) rfl rfl rfl (fun k _ => ?_)
  by_cases e : k = 1 + q * 15 + p * 3 + 2
  · subst e; rw [if_pos rfl, bkF_came _ _ _ hp]
    show _ = Value.int .i64 (M.upd2 b.ca q p z q p)
    rw [M.upd2_same]
  · rw [if_neg e]
    unfold bkF
    by_cases e0 : k = 0
    · rw [if_pos e0, if_pos e0]
    · rw [if_neg e0, if_neg e0]
      by_cases e1 : (k - 1) % 3 = 0
      · rw [if_pos e1, if_pos e1]
      · rw [if_neg e1, if_neg e1]
        by_cases e2 : (k - 1) % 3 = 1
        · rw [if_pos e2, if_pos e2]
        · rw [if_neg e2, if_neg e2]
          show _ = Value.int .i64 (M.upd2 b.ca q p z _ _)
          rw [M.upd2_other _ _ (fun x => e (by omega))]
end
set_option maxRecDepth 100000 in
set_option maxHeartbeats 1000000 in
theorem pay_ok {O : Nat → Prop} {S n : Nat} {b : M.Bk} (p q : Nat) (s : Int) (w : World) (h : BV O S n b w) (hO : ∀ k, w.heap.size ≤ k → O k) (hg : M.BG n b) (hp : p < n) (hq : q < n) :
    Calls Tryd.prog 23 #[.pointer (some ⟨S, 0, none⟩), .int .i64 p, .int .i64 q, .int .i64 s] w fun e w' => e = .returned (terr (M.payR b p q s).2) ∧ BV O S n (M.payR b p q s).1 w' ∧ Frm O w w' := by
  have h0 := h
  obtain ⟨Pb, v, h1, h2⟩ := h
  have hn5 := hg.n5
  have hm0 := hg.mo0 hp
  have hm5 := hg.mo_le hp
  have hc := h1.procs
  have hmo := h1.mo hp
  have hw := h1.waits (q := q) (p := p) (by omega) (by omega)
  have hown := h1.way q p (by omega) (by omega)
  have fm := h1.prs.frozen (p * 3)
  have hS := h1.ltS
  have hP := h1.ltP
  have hne := h1.neSP
  have H0 : Hid (BV O S n b w) := h0
  have H1 : Hid (BVr w S Pb v n b) := h1
  have H2 : Hid (Foot O S Pb v) := h2
  have HL : Hid ((b.wy p q).length ≤ 9) := hg.cnt p q
  have HR : Hid (∀ R, M.payR b p q s = R → M.payR b p q s = R) := fun _ h => h
  obtain ⟨L, hL⟩ : ∃ L, (b.wy p q).length = L := ⟨_, rfl⟩
  obtain ⟨V, hV⟩ : ∃ V, v q p = V := ⟨_, rfl⟩
  rw [hV, hL] at hown
  rw [hV] at hw
  obtain ⟨ad, c0, rfl⟩ := owns_slice hown
  clear hown h0 h1 h2 HR hV
  have hpi : (p : Int) < n := by omega
  have hp5 : (p : Int) < 5 := by omega
  have hq5 : (q : Int) < 5 := by omega
  by_cases hs : 0 ≤ s ∧ s ≤ 1000
  · have hsb : sumZ s = true := decide_eq_true hs
    by_cases hlt : b.mo p < s
    · have e : M.payR b p q s = (b, 5) := by unfold M.payR; rw [if_neg (fun x => x hs), if_pos hlt]
      rw [e]
      obtain ⟨mo, hmo'⟩ : ∃ mo, b.mo p = mo := ⟨_, rfl⟩
      rw [hmo'] at hmo hlt
      clear e hmo' hL hm0 hm5 hg
      go_enter Tryd.func23, Tryd.ntmps23
      go_wp2_with fail
      refine (isSum_ok s w).mono ?_
      rw [hsb]
      rintro e w' ⟨rfl, rfl⟩
      clear hsb
      go_wp2_with fail
      go_ret
      exact ⟨rfl, H0.out, Frm.refl _ _⟩
    · by_cases h8 : 8 ≤ L
      · have e : M.payR b p q s = (b, 4) := by unfold M.payR; rw [if_neg (fun x => x hs), if_neg hlt, hL, if_pos h8]
        rw [e]
        have hge : s ≤ b.mo p := by omega
        obtain ⟨mo, hmo'⟩ : ∃ mo, b.mo p = mo := ⟨_, rfl⟩
        rw [hmo'] at hmo hge
        clear e hmo' hL hm0 hm5 hg hlt
        have h8i : (8 : Int) ≤ (L : Int) := by omega
        go_enter Tryd.func23, Tryd.ntmps23
        go_wp2_with fail
        refine (isSum_ok s w).mono ?_
        rw [hsb]
        rintro e w' ⟨rfl, rfl⟩
        clear hsb
        go_wp2_with fail
        go_ret
        exact ⟨rfl, H0.out, Frm.refl _ _⟩
      · have e : M.payR b p q s = (M.payB b p q s, 0) := by unfold M.payR; rw [if_neg (fun x => x hs), if_neg hlt, hL, if_neg h8]
        rw [e]
        have hge : s ≤ b.mo p := by omega
        obtain ⟨hs0, hs1⟩ := hs
        have HP : Hid (BV O S n { b with mo := M.upd1 b.mo p (b.mo p - s) } (w.setCell ⟨Pb, p * 3, none⟩ (.int .i64 (b.mo p - s)))) := ⟨Pb, v, H1.out.setMo p (b.mo p - s), H2.out⟩
        have HF : Hid (Frm O w (w.setCell ⟨Pb, p * 3, none⟩ (.int .i64 (b.mo p - s)))) := (Frm.refl O w).set (p := ⟨Pb, p * 3, none⟩) H2.out.p _
        obtain ⟨mo, hmo'⟩ : ∃ mo, b.mo p = mo := ⟨_, rfl⟩
        have HQ : Hid (b.mo p = mo) := hmo'
        rw [hmo'] at hmo hge HP HF hm0 hm5
        have h8i : (L : Int) < (8 : Int) := by omega
        have HLL : Hid ((b.wy p q).length = L) := hL
        clear e hmo' hL hg hlt h8
        go_enter Tryd.func23, Tryd.ntmps23
        go_wp2_with fail
        refine (isSum_ok s w).mono ?_
        rw [hsb]
        rintro e w' ⟨rfl, rfl⟩
        clear hsb
        go_wp2_with fail
        refine (send_ok p q s _ HP.out (fun k hk => hO k (by simpa [World.setCell] using hk)) (by omega) (by omega) (by show (b.wy p q).length ≤ 100; have := HL.out; omega)).mono ?_
        rintro e w2 ⟨⟨u, rfl⟩, hB2, hF2⟩
        have hB2' : BV O S n (M.payB b p q s) w2 := by
          have e : M.payB b p q s = M.sendB { b with mo := M.upd1 b.mo p (mo - s) } p q s := by rw [← HQ.out]; rfl
          rw [e]; exact hB2
        have G1 : Hid (BV O S n (M.payB b p q s) w2) := hB2'
        have G2 : Hid (Frm O w w2) := HF.out.trans hF2
        clear hB2 hB2' hF2 HP HF
        go_wp2_with fail
        go_ret
        exact ⟨rfl, G1.out, G2.out⟩
  · have e : M.payR b p q s = (b, 1) := by unfold M.payR; rw [if_pos hs]
    have hsb : sumZ s = false := decide_eq_false hs
    rw [e]
    clear e hs hL hm0 hm5 hg
    go_enter Tryd.func23, Tryd.ntmps23
    go_wp2_with fail
    refine (isSum_ok s w).mono ?_
    rw [hsb]
    rintro e w' ⟨rfl, rfl⟩
    clear hsb
    go_wp2_with fail
    go_ret
    exact ⟨rfl, H0.out, Frm.refl _ _⟩
end Go.Proofs.YtplplgpfglaajaaDoor
