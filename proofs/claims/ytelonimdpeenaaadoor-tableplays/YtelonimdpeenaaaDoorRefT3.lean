/- A write at the document's own table (package whensteadref2, Write). -/
import Derived.Test.YtelonimdpeenaaaDoorRefT2
import Derived.StillTailTactics
namespace Go.Proofs.YtelonimdpeenaaaDoor
open Go.RowKit
namespace M
/-- how often each wrote, behind a write -/
def wrW (n : Nat) (k : Kt) (W : Nat → Nat) (z : Int) : Nat → Nat := if (wrT n k z).2 = 0 then more1 W z.toNat else W
end M
/-- What a step of the document's table begins with: the table in block N, what is handed back in block N + 1; the table's lists lie elsewhere. -/
structure WS (N : Nat) (G : Nat → Prop) (n m : Nat) (k : M.Kt) (W : Nat → Nat) (v : TT) (w0 w : World) : Prop where
  rt : RT G n m k W v w
  lb : LT N n m n v w
  zb : LT (N + 1) 0 0 0 tt0 w
  bl : Below N w0 w
  nl : ¬ G N
  nz : ¬ G (N + 1)
  fr : ∀ j, N + 1 < j → G j
theorem ws_begin {G : Nat → Prop} {n m : Nat} {k : M.Kt} {W : Nat → Nat} {v : TT} {w : World} (hR : RT G n m k W v w) (hG : ∀ j, w.heap.size ≤ j → G j) : WS w.heap.size (fun j => G j ∧ j ≠ w.heap.size ∧ j ≠ w.heap.size + 1) n m k W v w
    ((w.alloc (.cells #[.int .i64 (n : Nat), .slice v.pk m v.ck, .slice v.pd n v.cd] 31)).alloc (.cells #[.int .i64 0, .slice none 0 0, .slice none 0 0] 31)) := by
  obtain ⟨w1, hw1⟩ : ∃ w1, w.alloc (.cells #[.int .i64 (n : Nat), .slice v.pk m v.ck, .slice v.pd n v.cd] 31) = w1 := ⟨_, rfl⟩
  rw [hw1]
  obtain ⟨w2, hw2⟩ : ∃ w2, w1.alloc (.cells #[.int .i64 0, .slice none 0 0, .slice none 0 0] 31) = w2 := ⟨_, rfl⟩
  rw [hw2]
  have s1 : w1.heap.size = w.heap.size + 1 := by subst hw1; simp
  have L1 : LT w.heap.size n m n v w1 := by rw [← hw1]; exact lt_alloc w n m n v
  have Z2 : LT (w.heap.size + 1) 0 0 0 tt0 w2 := by rw [← s1, ← hw2]; exact lt_alloc w1 0 0 0 tt0
  have B1 : Below w.heap.size w w1 := by rw [← hw1]; exact bel_al (Below.refl _ _) _
  have B2 : Below w1.heap.size w1 w2 := by rw [← hw2]; exact bel_al (Below.refl _ _) _
  have BB := bel_on B1 B2
  exact ⟨(hR.mono (fun j hj hg => ⟨hg, by omega, by omega⟩)).later BB, L1.below B2, Z2, BB, fun e => e.2.1 rfl, fun e => e.2.2 rfl, fun j hj => ⟨hG j (by omega), by omega, by omega⟩⟩
section
variable {N : Nat} {G G0 : Nat → Prop} {n m : Nat} {k k' : M.Kt} {W W' : Nat → Nat} {v : TT} {w0 w w' : World}
/-- a table is handed back as it stands -/
theorem WS.ret (h : WS N G n m k W v w0 w) (hG : ∀ j, G j → G0 j) : LT (N + 1) n m n v (cpyT w (N + 1) n m n v.pk v.ck v.pd v.cd) ∧ RT G0 n m k W v (cpyT w (N + 1) n m n v.pk v.ck v.pd v.cd) ∧ Below N w0 (cpyT w (N + 1) n m n v.pk v.ck v.pd v.cd) :=
  ⟨h.zb.cpy v, (h.rt.cpy h.nz _ _ _ _ _ _ _).mono (fun j _ hj => hG j hj), bel_cpyT h.bl (by omega) _ _ _ _ _ _ _⟩
theorem WS.sz (h : WS N G n m k W v w0 w) : N + 1 < w.heap.size := h.zb.lt
theorem WS.later (h : WS N G n m k W v w0 w) (hb : Below w.heap.size w w') : WS N G n m k W v w0 w' :=
  ⟨h.rt.later hb, h.lb.below hb, h.zb.below hb, h.bl.trans (hb.mono (by have := h.sz; omega)), h.nl, h.nz, h.fr⟩
/-- its numbers are stored anew -/
theorem WS.setK (h : WS N G n m k W v w0 w) (hb : Below w.heap.size w w') {p : Option Addr} (c : Nat) {f : Nat → Nat} (hf : FI G m (nF f) p w') (hr : M.Row3 n f k') : WS N G n m k' W { v with pk := p, ck := c } w0 (w'.setCell ⟨N, 1, none⟩ (.slice p m c)) := by
  have h' := h.later hb
  exact ⟨⟨⟨f, hf.set (a := ⟨N, 1, none⟩) h.nl _, hr⟩, h'.rt.dn.set (a := ⟨N, 1, none⟩) h.nl _⟩, h'.lb.setK p c, h'.zb.other (a := ⟨N, 1, none⟩) (show N + 1 ≠ N by omega) _, h'.bl.setCell (p := ⟨N, 1, none⟩) (Nat.le_refl _) _, h.nl, h.nz, h.fr⟩
/-- its counts are stored anew -/
theorem WS.setD (h : WS N G n m k W v w0 w) (hb : Below w.heap.size w w') {p : Option Addr} (c : Nat) (hf : FI G n (nF W') p w') : WS N G n m k W' { v with pd := p, cd := c } w0 (w'.setCell ⟨N, 2, none⟩ (.slice p n c)) := by
  have h' := h.later hb
  obtain ⟨f, h1, h2⟩ := h'.rt.kn
  exact ⟨⟨⟨f, h1.set (a := ⟨N, 2, none⟩) h.nl _, h2⟩, hf.set (a := ⟨N, 2, none⟩) h.nl _⟩, h'.lb.setD p c, h'.zb.other (a := ⟨N, 2, none⟩) (show N + 1 ≠ N by omega) _, h'.bl.setCell (p := ⟨N, 2, none⟩) (Nat.le_refl _) _, h.nl, h.nz, h.fr⟩
end
set_option maxRecDepth 100000 in
set_option maxHeartbeats 8000000 in
theorem rwrite_ok {G : Nat → Prop} {n m : Nat} {k : M.Kt} {W : Nat → Nat} (v : TT) (z : Int) (w : World) (h5 : n ≤ 5) (hm : n * n * n = m) (hR : RT G n m k W v w) (hG : ∀ j, w.heap.size ≤ j → G j) (hW : ∀ p, p < n → W p = k p p p) :
    Calls Tryd.prog 7 #[rtV n m v, .int .i64 z] w fun e w' => ∃ v', e = .returned (.tuple #[rtV n m v', .int .i64 ((M.wrT n k z).2 : Nat)]) ∧ RT G n m (M.wrT n k z).1 (M.wrW n k W z) v' w' ∧ Below w.heap.size w w' := by
  have hWS := ws_begin hR hG
  obtain ⟨N, hN⟩ : ∃ N, w.heap.size = N := ⟨_, rfl⟩
  obtain ⟨G', hG'⟩ : ∃ G' : Nat → Prop, (fun j => G j ∧ j ≠ w.heap.size ∧ j ≠ w.heap.size + 1) = G' := ⟨_, rfl⟩
  have HGG : Hid (∀ j, G' j → G j) := by rw [← hG']; exact fun j hj => hj.1
  rw [hG', hN] at hWS
  rw [hN]
  obtain ⟨pk, ck, pd, cd⟩ := v
  simp only at hWS
  obtain ⟨w2, hw2⟩ : ∃ w2, (w.alloc (.cells #[.int .i64 (n : Nat), .slice pk m ck, .slice pd n cd] 31)).alloc (.cells #[.int .i64 0, .slice none 0 0, .slice none 0 0] 31) = w2 := ⟨_, rfl⟩
  rw [hw2] at hWS
  have HS : Hid (WS N G' n m k W ⟨pk, ck, pd, cd⟩ w w2) := hWS
  have l0 := hWS.lb.c0
  have l1 := hWS.lb.c1
  have l2 := hWS.lb.c2
  simp only at l1 l2
  have z0 := hWS.zb.c0
  have z1 := hWS.zb.c1
  have z2 := hWS.zb.c2
  have j0 := hWS.zb.fz 0
  have j1 := hWS.zb.fz 1
  have j2 := hWS.zb.fz 2
  clear hWS hR hG hG'
  by_cases hz : 0 ≤ z ∧ z < n
  case neg =>
    have e : M.wrT n k z = (k, 1) := by unfold M.wrT; rw [if_pos hz]
    have e2 : M.wrW n k W z = W := by unfold M.wrW; rw [e]; rfl
    rw [e2, e]
    have hin := fun w' => in_is z 0 ((n : Int) - 1) false w' (inB_false (fun x => hz ⟨x.1, by omega⟩))
    have HZ : Hid (¬ (0 ≤ z ∧ z < n)) := hz
    clear e e2 hz
    go_enter Tryd.func7, Tryd.ntmps7
    go_wp2_with fail
    refine (hin _).mono ?_
    rintro e w' ⟨rfl, rfl⟩
    obtain ⟨F1, F2, F3⟩ := HS.out.ret HGG.out
    have HF : Hid _ := F1
    have HF2 : Hid _ := F2
    have HF3 : Hid _ := F3
    clear F1 F2 F3
    go_wp2_with fail
    refine bodyPost_ret (v := .tuple #[rtV n m ⟨pk, ck, pd, cd⟩, .int .i64 ((1 : Nat) : Int)]) (results_tabc rfl _ _ (N + 1) n m ⟨pk, ck, pd, cd⟩ ((1 : Nat) : Int) rfl rfl HF.out) rfl ⟨_, rfl, HF2.out, HF3.out⟩
  obtain ⟨p, rfl⟩ : ∃ p : Nat, z = p := ⟨z.toNat, by omega⟩
  have hp : p < n := by omega
  have hin := fun w' => in_is (p : Int) 0 ((n : Int) - 1) true w' (inB_true hz.1 (by omega))
  obtain ⟨bd, od, e1, hbd, hgd, hcd⟩ := HS.out.rt.dn.at_ (by omega)
  simp only at e1
  subst e1
  have hc1 := hcd p hp
  simp only [nF] at hc1
  have e0 : W p = k p p p := hW p hp
  have hpi : (p : Int) < n := by omega
  clear hcd hgd
  by_cases hk : 60 ≤ k p p p
  · have e : M.wrT n k (p : Int) = (k, 4) := by unfold M.wrT; rw [if_neg (by omega), if_pos (by simpa using hk)]
    have e2 : M.wrW n k W (p : Int) = W := by unfold M.wrW; rw [e]; rfl
    rw [e2, e]
    obtain ⟨x, hx⟩ : ∃ x, W p = x := ⟨_, rfl⟩
    have hx60 : 60 ≤ x := by omega
    have hxi : (60 : Int) ≤ (x : Int) := by omega
    rw [hx] at hc1
    obtain ⟨F1, F2, F3⟩ := HS.out.ret HGG.out
    have HF : Hid _ := F1
    have HF2 : Hid _ := F2
    have HF3 : Hid _ := F3
    clear e e2 hz hk hx e0 hW F1 F2 F3
    go_enter Tryd.func7, Tryd.ntmps7
    go_wp2_with fail
    refine (hin _).mono ?_
    rintro e w' ⟨rfl, rfl⟩
    go_wp2_with fail
    refine bodyPost_ret (v := .tuple #[rtV n m ⟨pk, ck, some ⟨bd, od, none⟩, cd⟩, .int .i64 ((4 : Nat) : Int)]) (results_tabc rfl _ _ (N + 1) n m ⟨pk, ck, some ⟨bd, od, none⟩, cd⟩ ((4 : Nat) : Int) rfl rfl HF.out) rfl ⟨_, rfl, HF2.out, HF3.out⟩
  have e : M.wrT n k (p : Int) = (M.wrK k p, 0) := by unfold M.wrT; rw [if_neg (by omega), if_neg (by simpa using hk)]; simp
  have e2 : M.wrW n k W (p : Int) = M.more1 W p := by unfold M.wrW; rw [e]; simp
  rw [e2, e]
  obtain ⟨x, hx⟩ : ∃ x, W p = x := ⟨_, rfl⟩
  obtain ⟨x1, hx1⟩ : ∃ x1, x + 1 = x1 := ⟨_, rfl⟩
  have hxi : (x : Int) < 60 := by omega
  have hx1i : (x : Int) + 1 = (x1 : Int) := by omega
  have hup : M.upN W p x1 = M.more1 W p := by
    funext j
    unfold M.upN M.more1
    by_cases h : j = p
    · subst h; rw [if_pos rfl, if_pos rfl]; omega
    · rw [if_neg h, if_neg h]
  rw [hx] at hc1
  have hwd : ∀ W', Below w2.heap.size w2 W' → Calls Tryd.prog 15 #[.slice (some ⟨bd, od, none⟩) n cd, .int .i64 (p : Nat), .int .i64 (x1 : Nat)] W' fun e w' => ∃ p' c', e = .returned (.slice p' n c') ∧ Hid (WS N G' n m k (M.more1 W p) ⟨pk, ck, p', c'⟩ w (w'.setCell ⟨N, 2, none⟩ (.slice p' n c'))) ∧ w'.cell? ⟨N, 2, none⟩ = some (.slice (some ⟨bd, od, none⟩) n cd) ∧ w'.frozen? ⟨N, 2, none⟩ = false := by
    intro W' hB
    have hs' := (HS.out.later hB)
    refine (withN_ok W n p x1 _ cd W' (by omega) hp hs'.rt.dn).mono ?_
    rintro e w' ⟨p', c', rfl, hF, hB'⟩
    rw [hup] at hF
    have hBB := bel_on hB hB'
    have hs2 := HS.out.later hBB
    exact ⟨p', c', rfl, HS.out.setD hBB c' (hF.mono (fun j _ hj => HS.out.fr j (by have := HS.out.sz; have := hB.size; omega))), hs2.lb.c2, hs2.lb.fz 2⟩
  obtain ⟨i, hi⟩ : ∃ i, (p * n + p) * n + p = i := ⟨_, rfl⟩
  have him : i < m := by rw [← hi, ← hm]; exact M.place_lt hp hp hp
  have hm125 : m ≤ 125 := by rw [← hm]; exact Nat.mul_le_mul (Nat.mul_le_mul h5 h5) h5
  have hiz : (i : Int) < (m : Int) := by omega
  obtain ⟨y, hy⟩ : ∃ y, k p p p = y := ⟨_, rfl⟩
  obtain ⟨y1, hy1⟩ : ∃ y1, y + 1 = y1 := ⟨_, rfl⟩
  have hyi : (y : Int) < 60 := by omega
  have hy1i : (y : Int) + 1 = (y1 : Int) := by omega
  have HK : Hid (k p p p = y ∧ y + 1 = y1) := ⟨hy, hy1⟩
  clear e e2 hz hk hx hx1 e0 hW hup hm hy hy1
  go_enter Tryd.func7, Tryd.ntmps7
  go_wp2_with fail
  refine (hin _).mono ?_
  rintro e w' ⟨rfl, rfl⟩
  have g2 := HS.out.lb.fz 2
  go_wp2_with fail
  go_still_tail 9, (by kernel_rfl)
  go_wp2_with fail
  refine (hwd _ (Below.refl _ _).drew).mono ?_
  rintro e w6 ⟨pd, cd2, rfl, HS6, d0, d1⟩
  obtain ⟨wc, hwc⟩ : ∃ wc, w6.setCell ⟨N, 2, none⟩ (.slice pd n cd2) = wc := ⟨_, rfl⟩
  rw [hwc] at HS6
  have l0' := HS6.out.lb.c0
  have l1' := HS6.out.lb.c1
  have l2' := HS6.out.lb.c2
  simp only at l1' l2'
  clear hwd z0 z1 z2 j0 j1 j2 g2 hc1 l0 l1 l2 HS
  go_wp2_with fail
  refine (place_ok n m p p p i ⟨pk, ck, pd, cd2⟩ wc h5 hp hp hp hi).mono ?_
  rintro e w7 ⟨rfl, hB7⟩
  have HS7 : Hid (WS N G' n m k (M.more1 W p) ⟨pk, ck, pd, cd2⟩ w w7) := HS6.out.later hB7
  have hS7 := HS7.out
  obtain ⟨f, hf, hrow⟩ := hS7.rt.kn
  obtain ⟨bk, ok, e1, hbk, hgk, hck⟩ := hf.at_ (by omega)
  simp only at e1
  subst e1
  have hc1 := hck i him
  have hfi : f i = y := by rw [← hi, hrow p p p hp hp hp]; exact HK.out.1
  simp only [nF] at hc1
  rw [hfi] at hc1
  have hwk : ∀ W', Below w7.heap.size w7 W' → Calls Tryd.prog 15 #[.slice (some ⟨bk, ok, none⟩) m ck, .int .i64 (i : Nat), .int .i64 (y1 : Nat)] W' fun e w' => ∃ p' c', e = .returned (.slice p' m c') ∧ Hid (WS N G' n m (M.wrK k p) (M.more1 W p) ⟨p', c', pd, cd2⟩ w (w'.setCell ⟨N, 1, none⟩ (.slice p' m c'))) ∧ w'.cell? ⟨N, 1, none⟩ = some (.slice (some ⟨bk, ok, none⟩) m ck) ∧ w'.frozen? ⟨N, 1, none⟩ = false := by
    intro W' hB
    refine (withN_ok f m i y1 _ ck W' (by omega) him (hf.later hB)).mono ?_
    rintro e w' ⟨p', c', rfl, hF, hB'⟩
    have hBB := bel_on hB hB'
    have hs2 := HS7.out.later hBB
    have hr2 : M.Row3 n (M.upN f i y1) (M.wrK k p) := by
      rw [← hi]
      refine hrow.set hp hp ?_ (fun a b c _ _ _ hne => ?_)
      · unfold M.wrK; rw [if_pos ⟨rfl, rfl, rfl⟩, HK.out.1, HK.out.2]
      · unfold M.wrK; rw [if_neg hne]
    exact ⟨p', c', rfl, HS7.out.setK hBB c' (hF.mono (fun j _ hj => HS7.out.fr j (by have := HS7.out.sz; have := hB.size; omega))) hr2, hs2.lb.c1, hs2.lb.fz 1⟩
  have l0 := HS7.out.lb.c0
  have l1 := HS7.out.lb.c1
  have l2 := HS7.out.lb.c2
  have g1 := HS7.out.lb.fz 1
  simp only at l1 l2
  clear hS7 hf hrow hgk hck hfi HS6 hB7 hi hbd hwc d0 d1 l0' l1' l2'
  go_wp2_with fail
  go_still_tail 9, (by kernel_rfl)
  go_wp2_with fail
  refine (hwk _ (Below.refl _ _).drew).mono ?_
  rintro e w8 ⟨pk, ck2, rfl, HS9, d0, d1⟩
  obtain ⟨wz, hwz⟩ : ∃ wz, w8.setCell ⟨N, 1, none⟩ (.slice pk m ck2) = wz := ⟨_, rfl⟩
  rw [hwz] at HS9
  obtain ⟨F1, F2, F3⟩ := HS9.out.ret HGG.out
  have HF : Hid _ := F1
  have HF2 : Hid _ := F2
  have HF3 : Hid _ := F3
  have l0' := HS9.out.lb.c0
  have l1' := HS9.out.lb.c1
  have l2' := HS9.out.lb.c2
  have z0 := HS9.out.zb.c0
  have z1 := HS9.out.zb.c1
  have z2 := HS9.out.zb.c2
  have j0 := HS9.out.zb.fz 0
  have j1 := HS9.out.zb.fz 1
  have j2 := HS9.out.zb.fz 2
  simp only at l1' l2'
  clear F1 F2 F3 hwk g1 hc1 l0 l1 l2
  go_wp2_with fail
  refine bodyPost_ret (v := .tuple #[rtV n m ⟨pk, ck2, pd, cd2⟩, .int .i64 ((0 : Nat) : Int)]) (results_tabc rfl _ _ (N + 1) n m ⟨pk, ck2, pd, cd2⟩ ((0 : Nat) : Int) rfl rfl HF.out) rfl ⟨_, rfl, HF2.out, HF3.out⟩
end Go.Proofs.YtelonimdpeenaaaDoor
