/- A deed at a store of views (package view, Do). -/
import Derived.Test.YtajiichehffaaaaDoorVm2
namespace Go.Proofs.YtajiichehffaaaaDoor
open Go.RowKit
/-- a deed of whole numbers: the store behind it, what is told, and what is wrong -/
def vwZ (s : M.Vw) (k t o x : Int) : M.Vw × Int × Nat := if vdIn k t o x = true then M.vwDo s k.toNat t.toNat o.toNat x.toNat else (s, 0, 1)
theorem vdIn_true {k t o x : Int} (h : vdIn k t o x = true) : (3 ≤ k ∧ k ≤ 5) ∧ (0 ≤ t ∧ t < 5) ∧ (k = 3 → (0 ≤ o ∧ o < 4) ∧ 0 ≤ x ∧ x < 2) := by
  unfold vdIn thingZ at h
  simp only [Bool.and_eq_true, Bool.or_eq_true, decide_eq_true_eq] at h
  obtain ⟨⟨h1, h2⟩, h4⟩ := h
  refine ⟨h1, by omega, fun e => ?_⟩
  rcases h4 with h | h
  · exact absurd e h
  · omega
theorem M.VI.z {s : M.Vw} (h : M.VI s) (k t o x : Int) : M.VI (vwZ s k t o x).1 := by
  unfold vwZ
  by_cases e : vdIn k t o x = true
  · rw [if_pos e]
    have := vdIn_true e
    exact h.step _ _ (by omega) (by omega)
  · rw [if_neg e]; exact h
theorem vwZ_bad {s : M.Vw} {k t o x : Int} (e : vdIn k t o x = false) : vwZ s k t o x = (s, 0, 1) := if_neg (by rw [e]; simp)
theorem vw_state {s : M.Vw} {k t o x : Nat} (h : s.dg t ≠ (if k = 4 then 0 else 1)) : M.vwDo s k t o x = (s, 0, 7) := by unfold M.vwDo; rw [if_pos h]
theorem vw_beg {s : M.Vw} {t o x : Nat} (h : s.dg t = 0) : M.vwDo s 4 t o x = (M.vBeg s t, -1, 0) := by unfold M.vwDo; rw [if_neg (by simp [h]), if_pos rfl]
theorem vw_com {s : M.Vw} {t o x : Nat} (h : s.dg t = 1) : M.vwDo s 5 t o x = M.cmDo s t := by unfold M.vwDo M.cmDo; rw [if_neg (by simp [h]), if_neg (by decide), if_pos rfl]
theorem vw_wr {s : M.Vw} {t o : Nat} (h : s.dg t = 1) : M.vwDo s 3 t o 1 = (M.vWr s t o, -1, 0) := by unfold M.vwDo; rw [if_neg (by simp [h]), if_neg (by decide), if_neg (by decide), if_pos rfl]
theorem vw_own {s : M.Vw} {t o : Nat} (h : s.dg t = 1) (hb : (s.wr t).testBit o = true) : M.vwDo s 3 t o 0 = (s, ((t : Nat) : Int), 0) := by unfold M.vwDo; rw [if_neg (by simp [h]), if_neg (by decide), if_neg (by decide), if_neg (by decide), if_pos hb]
theorem vw_rd {s : M.Vw} {t o : Nat} (h : s.dg t = 1) (hb : (s.wr t).testBit o = false) : M.vwDo s 3 t o 0 = (M.vRd s t o, M.lastW s o (s.se t), 0) := by unfold M.vwDo; rw [if_neg (by simp [h]), if_neg (by decide), if_neg (by decide), if_neg (by decide), if_neg (by rw [hb]; simp)]
/-- how things stand behind the first look at a deed -/
structure VA (O : Nat → Prop) (S : Nat) (s : M.Vw) (k t o x : Int) (A : Nat) (w wr : World) : Prop where
  vv : VV O S s wr
  d : DeAt ⟨k, t, o, x⟩ A 0 wr
  bl : Below w.heap.size w wr
  hO : ∀ k, wr.heap.size ≤ k → O k
theorem vdo_look {O : Nat → Prop} {S : Nat} {s : M.Vw} (k t o x : Int) (w : World) (h : VV O S s w) (hO : ∀ k, w.heap.size ≤ k → O k) :
    ∀ w1, Below (w.heap.size + 1) (w.alloc (.cells #[.int .i64 k, .int .i64 t, .int .i64 o, .int .i64 x] 31)) w1 → VA O S s k t o x w.heap.size w w1 := fun w1 hB => by
  have bb : Below w.heap.size w w1 := (bel_al (Below.refl _ _) _).trans (hB.mono (by omega))
  exact ⟨h.below bb, (deAt_new w ⟨k, t, o, x⟩).later (N := w.heap.size + 1) hB (by omega), bb, fun j hj => hO j (Nat.le_trans bb.size hj)⟩
set_option maxHeartbeats 2000000 in
theorem vdo_bad {O : Nat → Prop} {S : Nat} {s : M.Vw} (k t o x : Int) (w : World) (h : VV O S s w) (e : vdIn k t o x = false) :
    Calls Tryd.prog 9 #[.pointer (some ⟨S, 0, none⟩), dvV k t o x] w fun e w' => e = .returned (.tuple #[.int .i64 0, terr 1]) ∧ VV O S s w' ∧ Frm O w w' := by
  have HT : Hid (VV O S s w) := h
  have hd := fun w' => visDeed_ok k t o x w'
  have l1 := h.lt
  rw [terr_ne (by decide)]
  rw [e] at hd
  clear h e
  go_enter Tryd.func9, Tryd.ntmps9
  go_wp2_with fail
  refine (hd _).mono ?_
  rintro e w1 ⟨rfl, hB1⟩
  have BB : Hid (Below w.heap.size w w1) := (bel_al (Below.refl _ _) _).trans (hB1.mono (by simp))
  clear hB1 hd
  go_wp2_with fail
  go_ret2
  exact ⟨rfl, HT.out.below BB.out, Frm.of_below BB.out⟩
set_option maxHeartbeats 2000000 in
theorem vdo_state {O : Nat → Prop} {S : Nat} {s : M.Vw} (k t : Nat) (o x : Int) (w : World) (h : VV O S s w) (hI : M.VI s) (hO : ∀ k, w.heap.size ≤ k → O k) (e : vdIn k t o x = true) (ht : t < 5) (hs : s.dg t ≠ (if k = 4 then 0 else 1)) :
    Calls Tryd.prog 9 #[.pointer (some ⟨S, 0, none⟩), dvV k t o x] w fun e w' => e = .returned (.tuple #[.int .i64 0, terr 7]) ∧ VV O S s w' ∧ Frm O w w' := by
  have hd := fun w' => visDeed_ok k t o x w'
  rw [terr_ne (by decide)]
  rw [e] at hd
  have HL : Hid (∀ w1, Below (w.heap.size + 1) (w.alloc (.cells #[.int .i64 k, .int .i64 t, .int .i64 o, .int .i64 x] 31)) w1 → VA O S s k t o x w.heap.size w w1) := vdo_look k t o x w h hO
  have hti : (t : Int) < 5 := by omega
  have hdg := hI.dg t
  obtain ⟨n, hn⟩ : ∃ n, s.dg t = n := ⟨_, rfl⟩
  rw [hn] at hs hdg
  have HN : Hid (s.dg t = n) := hn
  clear h e hO hI hn
  go_enter Tryd.func9, Tryd.ntmps9
  go_wp2_with fail
  refine (hd _).mono ?_
  rintro e w1 ⟨rfl, hB1⟩
  have VA1 : Hid _ := HL.out w1 (hB1.mono (by simp))
  obtain ⟨d0, d1, hcd, lA, lS⟩ : w1.cell? ⟨w.heap.size, 0, none⟩ = some (.int .i64 (k : Nat)) ∧ w1.cell? ⟨w.heap.size, 1, none⟩ = some (.int .i64 (t : Nat)) ∧ w1.cell? ⟨S, t * 4, none⟩ = some (.int .i64 (n : Nat)) ∧ w.heap.size < w1.heap.size ∧ S < w1.heap.size := by
    obtain ⟨⟨v, v1, _⟩, h2, _, _⟩ := VA1.out
    exact ⟨h2.c0, h2.c1, by rw [← HN.out]; exact v1.dg ht, h2.lt, v1.lt⟩
  clear hB1 hd HL HN
  by_cases h4 : k = 4
  · subst h4
    rw [if_pos rfl] at hs
    have hb : ((n : Int) != 0) = true := by simp; omega
    clear hs
    go_wp2_with fail
    go_quiet (fail)
    go_wp2_with fail
    go_ret2
    exact ⟨rfl, VA1.out.vv.below (bel_drN (Below.refl _ _) _), Frm.of_below (bel_drN VA1.out.bl _)⟩
  · rw [if_neg h4] at hs
    have h4' : ((k : Int) == 4) = false := by simp; omega
    have hb : ((n : Int) != 1) = true := by simp; omega
    clear hs h4
    go_wp2_with fail
    go_quiet (fail)
    go_wp2_with fail
    go_ret2
    exact ⟨rfl, VA1.out.vv.below (bel_drN (Below.refl _ _) _), Frm.of_below (bel_drN VA1.out.bl _)⟩
set_option maxHeartbeats 2000000 in
theorem vdo_beg {O : Nat → Prop} {S : Nat} {s : M.Vw} (t : Nat) (o x : Int) (w : World) (h : VV O S s w) (hI : M.VI s) (hO : ∀ k, w.heap.size ≤ k → O k) (e : vdIn 4 t o x = true) (ht : t < 5) (hs : s.dg t = 0) :
    Calls Tryd.prog 9 #[.pointer (some ⟨S, 0, none⟩), dvV 4 t o x] w fun e w' => e = .returned (.tuple #[.int .i64 (-1), .nilIface]) ∧ VV O S (M.vBeg s t) w' ∧ Frm O w w' := by
  have hd := fun w' => visDeed_ok 4 t o x w'
  rw [e] at hd
  have HL : Hid (∀ w1, Below (w.heap.size + 1) (w.alloc (.cells #[.int .i64 4, .int .i64 t, .int .i64 o, .int .i64 x] 31)) w1 → VA O S s 4 t o x w.heap.size w w1) := vdo_look 4 t o x w h hO
  have HI : Hid (M.VI s) := hI
  have hti : (t : Int) < 5 := by omega
  have HN : Hid (s.dg t = 0) := hs
  clear h e hO hI hs
  go_enter Tryd.func9, Tryd.ntmps9
  go_wp2_with fail
  refine (hd _).mono ?_
  rintro e w1 ⟨rfl, hB1⟩
  have VA1 : Hid _ := HL.out w1 (hB1.mono (by simp))
  obtain ⟨d0, d1, d2, d3, hcd, lA, lS⟩ : w1.cell? ⟨w.heap.size, 0, none⟩ = some (.int .i64 4) ∧ w1.cell? ⟨w.heap.size, 1, none⟩ = some (.int .i64 (t : Nat)) ∧ w1.cell? ⟨w.heap.size, 2, none⟩ = some (.int .i64 o) ∧ w1.cell? ⟨w.heap.size, 3, none⟩ = some (.int .i64 x) ∧ w1.cell? ⟨S, t * 4, none⟩ = some (.int .i64 0) ∧ w.heap.size < w1.heap.size ∧ S < w1.heap.size := by
    obtain ⟨⟨v, v1, _⟩, h2, _, _⟩ := VA1.out
    exact ⟨h2.c0, h2.c1, h2.c2, h2.c3, by have h5 := v1.dg ht; rw [HN.out] at h5; exact h5, h2.lt, v1.lt⟩
  clear hB1 hd HL
  go_wp2_with fail
  go_quiet (fail)
  obtain ⟨wq, hwq⟩ : ∃ wq, w1.drewN nq = wq := ⟨_, rfl⟩
  rw [hwq]
  have VQ : Hid (VA O S s 4 t o x w.heap.size w wq) := by
    have hb : Below w1.heap.size w1 wq := by rw [← hwq]; exact bel_drN (Below.refl _ _) _
    obtain ⟨a1, a2, a3, a4⟩ := VA1.out
    exact ⟨a1.below hb, a2.later hb a2.lt, bel_on a3 hb, fun j hj => a4 j (Nat.le_trans hb.size hj)⟩
  clear hwq d0 d1 d2 d3 hcd lA lS VA1
  obtain ⟨d0, d1, d2, d3, hcd, lA, lS⟩ : wq.cell? ⟨w.heap.size, 0, none⟩ = some (.int .i64 4) ∧ wq.cell? ⟨w.heap.size, 1, none⟩ = some (.int .i64 (t : Nat)) ∧ wq.cell? ⟨w.heap.size, 2, none⟩ = some (.int .i64 o) ∧ wq.cell? ⟨w.heap.size, 3, none⟩ = some (.int .i64 x) ∧ wq.cell? ⟨S, t * 4, none⟩ = some (.int .i64 0) ∧ w.heap.size < wq.heap.size ∧ S < wq.heap.size := by
    obtain ⟨⟨v, v1, _⟩, h2, _, _⟩ := VQ.out
    exact ⟨h2.c0, h2.c1, h2.c2, h2.c3, by have h5 := v1.dg ht; rw [HN.out] at h5; exact h5, h2.lt, v1.lt⟩
  obtain ⟨p, c, v1, _, hOS, hOv⟩ := VQ.out.vv.parts
  have hfz := v1.fz (t * 4)
  have v2 := v1.setDg ht 1
  have v3 := v2.setSe ht s.ro.length
  obtain ⟨wd, hwd⟩ : ∃ wd, wq.setCell ⟨S, t * 4, none⟩ (.int .i64 1) = wd := ⟨_, rfl⟩
  have v2' : VVr wd S { s with dg := M.up1 s.dg t 1 } (.slice p s.ro.length c) := by rw [← hwd]; exact v2
  have hcs := v2'.ro
  have hc1 := v2'.se ht
  have hf1 := v2'.fz (t * 4 + 1)
  have hl1 := v2'.lt
  have HF : Hid (VV O S (M.vBeg s t) (wd.setCell ⟨S, t * 4 + 1, none⟩ (.int .i64 (s.ro.length : Nat))) ∧ Frm O w (wd.setCell ⟨S, t * 4 + 1, none⟩ (.int .i64 (s.ro.length : Nat)))) := by
    refine ⟨⟨_, v2'.setSe ht s.ro.length, hOS, hOv⟩, ?_⟩
    rw [← hwd]
    exact ((Frm.of_below VQ.out.bl).set (p := ⟨S, t * 4, none⟩) hOS _).set (p := ⟨S, t * 4 + 1, none⟩) hOS _
  obtain ⟨L, hL⟩ : ∃ L, s.ro.length = L := ⟨_, rfl⟩
  obtain ⟨e1, he1⟩ : ∃ e1, s.se t = e1 := ⟨_, rfl⟩
  simp only at hcs hc1
  rw [hL] at HF hcs
  rw [he1] at hc1
  clear v1 v2 v3 v2' hL he1 hOS hOv VQ
  go_wp2_with fail
  go_ret2
  exact ⟨rfl, HF.out⟩
set_option maxHeartbeats 2000000 in
theorem vdo_com {O : Nat → Prop} {S : Nat} {s : M.Vw} (t : Nat) (o x : Int) (w : World) (h : VV O S s w) (hI : M.VI s) (hO : ∀ k, w.heap.size ≤ k → O k) (e : vdIn 5 t o x = true) (ht : t < 5) (hs : s.dg t = 1) :
    Calls Tryd.prog 9 #[.pointer (some ⟨S, 0, none⟩), dvV 5 t o x] w fun e w' => e = .returned (.tuple #[.int .i64 (M.cmDo s t).2.1, terr (M.cmDo s t).2.2]) ∧ VV O S (M.cmDo s t).1 w' ∧ Frm O w w' := by
  have hd := fun w' => visDeed_ok 5 t o x w'
  rw [e] at hd
  obtain ⟨r, hr⟩ : ∃ r, M.cmDo s t = r := ⟨_, rfl⟩
  have hcm := fun w1 (h : VV O S s w1) hO => vcommit_ok t w1 h hI hO ht
  rw [hr] at hcm ⊢
  clear hr
  have HL : Hid (∀ w1, Below (w.heap.size + 1) (w.alloc (.cells #[.int .i64 5, .int .i64 t, .int .i64 o, .int .i64 x] 31)) w1 → VA O S s 5 t o x w.heap.size w w1) := vdo_look 5 t o x w h hO
  have HI : Hid (M.VI s) := hI
  have hti : (t : Int) < 5 := by omega
  have HN : Hid (s.dg t = 1) := hs
  clear h e hO hI hs
  go_enter Tryd.func9, Tryd.ntmps9
  go_wp2_with fail
  refine (hd _).mono ?_
  rintro e w1 ⟨rfl, hB1⟩
  have VA1 : Hid _ := HL.out w1 (hB1.mono (by simp))
  obtain ⟨d0, d1, d2, d3, hcd, lA, lS⟩ : w1.cell? ⟨w.heap.size, 0, none⟩ = some (.int .i64 5) ∧ w1.cell? ⟨w.heap.size, 1, none⟩ = some (.int .i64 (t : Nat)) ∧ w1.cell? ⟨w.heap.size, 2, none⟩ = some (.int .i64 o) ∧ w1.cell? ⟨w.heap.size, 3, none⟩ = some (.int .i64 x) ∧ w1.cell? ⟨S, t * 4, none⟩ = some (.int .i64 1) ∧ w.heap.size < w1.heap.size ∧ S < w1.heap.size := by
    obtain ⟨⟨v, v1, _⟩, h2, _, _⟩ := VA1.out
    exact ⟨h2.c0, h2.c1, h2.c2, h2.c3, by have h5 := v1.dg ht; rw [HN.out] at h5; exact h5, h2.lt, v1.lt⟩
  clear hB1 hd HL
  go_wp2_with fail
  go_quiet (fail)
  obtain ⟨wq, hwq⟩ : ∃ wq, w1.drewN nq = wq := ⟨_, rfl⟩
  rw [hwq]
  have VQ : Hid (VA O S s 5 t o x w.heap.size w wq) := by
    have hb : Below w1.heap.size w1 wq := by rw [← hwq]; exact bel_drN (Below.refl _ _) _
    obtain ⟨a1, a2, a3, a4⟩ := VA1.out
    exact ⟨a1.below hb, a2.later hb a2.lt, bel_on a3 hb, fun j hj => a4 j (Nat.le_trans hb.size hj)⟩
  clear hwq d0 d1 d2 d3 hcd lA lS VA1
  obtain ⟨d0, d1, d2, d3, hcd, lA, lS⟩ : wq.cell? ⟨w.heap.size, 0, none⟩ = some (.int .i64 5) ∧ wq.cell? ⟨w.heap.size, 1, none⟩ = some (.int .i64 (t : Nat)) ∧ wq.cell? ⟨w.heap.size, 2, none⟩ = some (.int .i64 o) ∧ wq.cell? ⟨w.heap.size, 3, none⟩ = some (.int .i64 x) ∧ wq.cell? ⟨S, t * 4, none⟩ = some (.int .i64 1) ∧ w.heap.size < wq.heap.size ∧ S < wq.heap.size := by
    obtain ⟨⟨v, v1, _⟩, h2, _, _⟩ := VQ.out
    exact ⟨h2.c0, h2.c1, h2.c2, h2.c3, by have h5 := v1.dg ht; rw [HN.out] at h5; exact h5, h2.lt, v1.lt⟩
  go_wp2_with fail
  refine (hcm _ VQ.out.vv VQ.out.hO).mono ?_
  rintro e w2 ⟨rfl, h2, h3⟩
  have F2 : Hid (VV O S r.1 w2 ∧ Frm O w w2) := ⟨h2, (Frm.of_below VQ.out.bl).trans h3⟩
  clear h2 h3
  go_wp2_with fail
  go_ret2
  exact ⟨rfl, F2.out⟩
set_option maxHeartbeats 2000000 in
theorem vdo_wr {O : Nat → Prop} {S : Nat} {s : M.Vw} (t o : Nat) (w : World) (h : VV O S s w) (hI : M.VI s) (hO : ∀ k, w.heap.size ≤ k → O k) (e : vdIn 3 t o 1 = true) (ht : t < 5) (ho : o < 4) (hs : s.dg t = 1) :
    Calls Tryd.prog 9 #[.pointer (some ⟨S, 0, none⟩), dvV 3 t o 1] w fun e w' => e = .returned (.tuple #[.int .i64 (-1), .nilIface]) ∧ VV O S (M.vWr s t o) w' ∧ Frm O w w' := by
  have hd := fun w' => visDeed_ok 3 t o 1 w'
  rw [e] at hd
  have HL : Hid (∀ w1, Below (w.heap.size + 1) (w.alloc (.cells #[.int .i64 3, .int .i64 t, .int .i64 (o : Nat), .int .i64 1] 31)) w1 → VA O S s 3 t o 1 w.heap.size w w1) := vdo_look 3 t o 1 w h hO
  have HI : Hid (M.VI s) := hI
  have hti : (t : Int) < 5 := by omega
  have HN : Hid (s.dg t = 1) := hs
  clear h e hO hI hs
  go_enter Tryd.func9, Tryd.ntmps9
  go_wp2_with fail
  refine (hd _).mono ?_
  rintro e w1 ⟨rfl, hB1⟩
  have VA1 : Hid _ := HL.out w1 (hB1.mono (by simp))
  obtain ⟨d0, d1, d2, d3, hcd, lA, lS⟩ : w1.cell? ⟨w.heap.size, 0, none⟩ = some (.int .i64 3) ∧ w1.cell? ⟨w.heap.size, 1, none⟩ = some (.int .i64 (t : Nat)) ∧ w1.cell? ⟨w.heap.size, 2, none⟩ = some (.int .i64 (o : Nat)) ∧ w1.cell? ⟨w.heap.size, 3, none⟩ = some (.int .i64 1) ∧ w1.cell? ⟨S, t * 4, none⟩ = some (.int .i64 1) ∧ w.heap.size < w1.heap.size ∧ S < w1.heap.size := by
    obtain ⟨⟨v, v1, _⟩, h2, _, _⟩ := VA1.out
    exact ⟨h2.c0, h2.c1, h2.c2, h2.c3, by have h5 := v1.dg ht; rw [HN.out] at h5; exact h5, h2.lt, v1.lt⟩
  clear hB1 hd HL
  go_wp2_with fail
  go_quiet (fail)
  obtain ⟨wq, hwq⟩ : ∃ wq, w1.drewN nq = wq := ⟨_, rfl⟩
  rw [hwq]
  have VQ : Hid (VA O S s 3 t o 1 w.heap.size w wq) := by
    have hb : Below w1.heap.size w1 wq := by rw [← hwq]; exact bel_drN (Below.refl _ _) _
    obtain ⟨a1, a2, a3, a4⟩ := VA1.out
    exact ⟨a1.below hb, a2.later hb a2.lt, bel_on a3 hb, fun j hj => a4 j (Nat.le_trans hb.size hj)⟩
  clear hwq d0 d1 d2 d3 hcd lA lS VA1
  obtain ⟨d0, d1, d2, d3, hcd, lA, lS⟩ : wq.cell? ⟨w.heap.size, 0, none⟩ = some (.int .i64 3) ∧ wq.cell? ⟨w.heap.size, 1, none⟩ = some (.int .i64 (t : Nat)) ∧ wq.cell? ⟨w.heap.size, 2, none⟩ = some (.int .i64 (o : Nat)) ∧ wq.cell? ⟨w.heap.size, 3, none⟩ = some (.int .i64 1) ∧ wq.cell? ⟨S, t * 4, none⟩ = some (.int .i64 1) ∧ w.heap.size < wq.heap.size ∧ S < wq.heap.size := by
    obtain ⟨⟨v, v1, _⟩, h2, _, _⟩ := VQ.out
    exact ⟨h2.c0, h2.c1, h2.c2, h2.c3, by have h5 := v1.dg ht; rw [HN.out] at h5; exact h5, h2.lt, v1.lt⟩
  obtain ⟨p, c, v1, _, hOS, hOv⟩ := VQ.out.vv.parts
  have hfz := v1.fz (t * 4 + 3)
  have hc3 := v1.wr ht
  have HF : Hid (∀ n, VV O S (M.vWr s t o) ((wq.drewN n).setCell ⟨S, t * 4 + 3, none⟩ (.int .i64 (s.wr t ||| 1 <<< o : Nat))) ∧ Frm O w ((wq.drewN n).setCell ⟨S, t * 4 + 3, none⟩ (.int .i64 (s.wr t ||| 1 <<< o : Nat)))) := fun n =>
    ⟨⟨_, (v1.below (bel_drN (Below.refl _ _) n)).setWr ht _, hOS, hOv⟩, (Frm.of_below (bel_drN VQ.out.bl n)).set (p := ⟨S, t * 4 + 3, none⟩) hOS _⟩
  have hor := i64_or_nat (s.wr t) (1 <<< o) (by have := HI.out.wb t; omega) (by have := M.one_lt16 ho; omega)
  have hsh : IntKind.i64.wrap (2 ^ o) = ((1 <<< o : Nat) : Int) := i64_shl o (by omega)
  obtain ⟨y, hy⟩ : ∃ y, s.wr t = y := ⟨_, rfl⟩
  obtain ⟨q, hq⟩ : ∃ q, 1 <<< o = q := ⟨_, rfl⟩
  obtain ⟨r, hr⟩ : ∃ r, y ||| q = r := ⟨_, rfl⟩
  rw [hy, hq, hr] at hor HF
  rw [hy] at hc3
  rw [hq] at hsh
  clear v1 hOS hOv VQ hy hq hr
  go_wp2_with fail
  go_region
  go_wp2_with fail
  go_ret2
  exact ⟨rfl, (HF.out 0).1.heap rfl, (HF.out 0).2.heap rfl rfl rfl rfl⟩
set_option maxHeartbeats 2000000 in
theorem vdo_rd {O : Nat → Prop} {S : Nat} {s : M.Vw} (t o : Nat) (w : World) (h : VV O S s w) (hI : M.VI s) (hO : ∀ k, w.heap.size ≤ k → O k) (e : vdIn 3 t o 0 = true) (ht : t < 5) (ho : o < 4) (hs : s.dg t = 1) :
    Calls Tryd.prog 9 #[.pointer (some ⟨S, 0, none⟩), dvV 3 t o 0] w fun e w' => e = .returned (.tuple #[.int .i64 (M.vwDo s 3 t o 0).2.1, .nilIface]) ∧ VV O S (M.vwDo s 3 t o 0).1 w' ∧ Frm O w w' := by
  have hcr : ∀ w1, VV O S s w1 → Calls Tryd.prog 25 #[.pointer (some ⟨S, 0, none⟩), .int .i64 (t : Nat), .int .i64 (o : Nat)] w1 fun e w' => e = .returned (.int .i64 (M.vwDo s 3 t o 0).2.1) ∧ VV O S (M.vwDo s 3 t o 0).1 w' ∧ Frm O w1 w' := fun w1 h1 => by
    cases hb : (s.wr t).testBit o with
    | true =>
      rw [vw_own hs hb]
      refine (vread_own t o w1 h1 hI ht ho hb).mono ?_
      rintro e w' ⟨rfl, rfl⟩
      exact ⟨rfl, h1, Frm.refl _ _⟩
    | false =>
      rw [vw_rd hs hb]
      exact vread_ok t o w1 h1 hI ht ho hb
  obtain ⟨r, hr⟩ : ∃ r, M.vwDo s 3 t o 0 = r := ⟨_, rfl⟩
  rw [hr] at hcr ⊢
  clear hr
  have hd := fun w' => visDeed_ok 3 t o 0 w'
  rw [e] at hd
  have HL : Hid (∀ w1, Below (w.heap.size + 1) (w.alloc (.cells #[.int .i64 3, .int .i64 t, .int .i64 (o : Nat), .int .i64 0] 31)) w1 → VA O S s 3 t o 0 w.heap.size w w1) := vdo_look 3 t o 0 w h hO
  have HI : Hid (M.VI s) := hI
  have hti : (t : Int) < 5 := by omega
  have HN : Hid (s.dg t = 1) := hs
  clear h e hO hI hs
  go_enter Tryd.func9, Tryd.ntmps9
  go_wp2_with fail
  refine (hd _).mono ?_
  rintro e w1 ⟨rfl, hB1⟩
  have VA1 : Hid _ := HL.out w1 (hB1.mono (by simp))
  obtain ⟨d0, d1, d2, d3, hcd, lA, lS⟩ : w1.cell? ⟨w.heap.size, 0, none⟩ = some (.int .i64 3) ∧ w1.cell? ⟨w.heap.size, 1, none⟩ = some (.int .i64 (t : Nat)) ∧ w1.cell? ⟨w.heap.size, 2, none⟩ = some (.int .i64 (o : Nat)) ∧ w1.cell? ⟨w.heap.size, 3, none⟩ = some (.int .i64 0) ∧ w1.cell? ⟨S, t * 4, none⟩ = some (.int .i64 1) ∧ w.heap.size < w1.heap.size ∧ S < w1.heap.size := by
    obtain ⟨⟨v, v1, _⟩, h2, _, _⟩ := VA1.out
    exact ⟨h2.c0, h2.c1, h2.c2, h2.c3, by have h5 := v1.dg ht; rw [HN.out] at h5; exact h5, h2.lt, v1.lt⟩
  clear hB1 hd HL
  go_wp2_with fail
  go_quiet (fail)
  obtain ⟨wq, hwq⟩ : ∃ wq, w1.drewN nq = wq := ⟨_, rfl⟩
  rw [hwq]
  have VQ : Hid (VA O S s 3 t o 0 w.heap.size w wq) := by
    have hb : Below w1.heap.size w1 wq := by rw [← hwq]; exact bel_drN (Below.refl _ _) _
    obtain ⟨a1, a2, a3, a4⟩ := VA1.out
    exact ⟨a1.below hb, a2.later hb a2.lt, bel_on a3 hb, fun j hj => a4 j (Nat.le_trans hb.size hj)⟩
  clear hwq d0 d1 d2 d3 hcd lA lS VA1
  obtain ⟨d0, d1, d2, d3, hcd, lA, lS⟩ : wq.cell? ⟨w.heap.size, 0, none⟩ = some (.int .i64 3) ∧ wq.cell? ⟨w.heap.size, 1, none⟩ = some (.int .i64 (t : Nat)) ∧ wq.cell? ⟨w.heap.size, 2, none⟩ = some (.int .i64 (o : Nat)) ∧ wq.cell? ⟨w.heap.size, 3, none⟩ = some (.int .i64 0) ∧ wq.cell? ⟨S, t * 4, none⟩ = some (.int .i64 1) ∧ w.heap.size < wq.heap.size ∧ S < wq.heap.size := by
    obtain ⟨⟨v, v1, _⟩, h2, _, _⟩ := VQ.out
    exact ⟨h2.c0, h2.c1, h2.c2, h2.c3, by have h5 := v1.dg ht; rw [HN.out] at h5; exact h5, h2.lt, v1.lt⟩
  go_wp2_with fail
  refine (hcr _ VQ.out.vv).mono ?_
  rintro e w2 ⟨rfl, h2, h3⟩
  have F2 : Hid (VV O S r.1 w2 ∧ Frm O w w2) := ⟨h2, (Frm.of_below VQ.out.bl).trans h3⟩
  clear h2 h3
  go_wp2_with fail
  go_ret2
  exact ⟨rfl, F2.out⟩
theorem vdo_ok {O : Nat → Prop} {S : Nat} {s : M.Vw} (k t o x : Int) (w : World) (h : VV O S s w) (hO : ∀ k, w.heap.size ≤ k → O k) (hI : M.VI s) :
    Calls Tryd.prog 9 #[.pointer (some ⟨S, 0, none⟩), dvV k t o x] w fun e w' => e = .returned (.tuple #[.int .i64 (vwZ s k t o x).2.1, terr (vwZ s k t o x).2.2]) ∧ VV O S (vwZ s k t o x).1 w' ∧ Frm O w w' := by
  cases e : vdIn k t o x with
  | false => rw [vwZ_bad e]; exact vdo_bad k t o x w h e
  | true =>
    have e1 : vwZ s k t o x = M.vwDo s k.toNat t.toNat o.toNat x.toNat := if_pos e
    obtain ⟨⟨k3, k5⟩, ⟨t0, t5⟩, ho⟩ := vdIn_true e
    obtain ⟨k, rfl⟩ : ∃ n : Nat, k = n := ⟨k.toNat, by omega⟩
    obtain ⟨t, rfl⟩ : ∃ n : Nat, t = n := ⟨t.toNat, by omega⟩
    rw [Int.toNat_natCast, Int.toNat_natCast] at e1
    have ht : t < 5 := by omega
    by_cases hs : s.dg t ≠ (if k = 4 then 0 else 1)
    · rw [e1, vw_state hs]
      exact vdo_state k t o x w h hI hO e ht hs
    · have hs' := Classical.not_not.1 hs
      have hk : k = 3 ∨ k = 4 ∨ k = 5 := by omega
      rcases hk with rfl | rfl | rfl
      · obtain ⟨⟨o0, o4⟩, x0, x2⟩ := ho rfl
        obtain ⟨o, rfl⟩ : ∃ n : Nat, o = n := ⟨o.toNat, by omega⟩
        rw [Int.toNat_natCast] at e1
        rw [if_neg (by decide)] at hs'
        have hx : x = 0 ∨ x = 1 := by omega
        rcases hx with rfl | rfl
        · have hz : (M.vwDo s 3 t o 0).2.2 = 0 := by
            cases hb : (s.wr t).testBit o with
            | true => rw [vw_own hs' hb]
            | false => rw [vw_rd hs' hb]
          rw [e1]
          show Calls _ _ _ _ fun e w' => e = .returned (.tuple #[_, terr (M.vwDo s 3 t o 0).2.2]) ∧ _
          rw [hz]
          exact vdo_rd t o w h hI hO e ht (by omega) hs'
        · rw [e1]
          show Calls _ _ _ _ fun e w' => e = .returned (.tuple #[.int .i64 (M.vwDo s 3 t o 1).2.1, terr (M.vwDo s 3 t o 1).2.2]) ∧ VV O S (M.vwDo s 3 t o 1).1 w' ∧ _
          rw [vw_wr hs']
          exact vdo_wr t o w h hI hO e ht (by omega) hs'
      · rw [if_pos rfl] at hs'
        rw [e1, vw_beg hs']
        exact vdo_beg t o x w h hI hO e ht hs'
      · rw [if_neg (by decide)] at hs'
        rw [e1, vw_com hs']
        exact vdo_com t o x w h hI hO e ht hs'
end Go.Proofs.YtajiichehffaaaaDoor
