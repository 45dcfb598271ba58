/- Anything that is locked, freed, and done (law LockPlays), the walk. -/
import Derived.Test.YtcjodlgkmbmcgaaDoorRefK6
import Derived.Test.YtcjodlgkmbmcgaaDoorSac
import Derived.Test.YtcjodlgkmbmcgaaDoorErr
namespace Go.Proofs.YtcjodlgkmbmcgaaDoor
open Go.RowKit
theorem err_ok (c : Nat) (w : World) (hg : Ety w) : Calls Tryd.prog 20 #[terr c, .int .i64 (c : Nat)] w fun e w' => e = .returned (.bool true) ∧ Below w.heap.size w w' := by
  by_cases h : c = 0
  · subst h
    refine (error_nil w).mono ?_
    rintro e w' ⟨rfl, rfl⟩
    exact ⟨rfl, Below.refl _ _⟩
  · rw [terr_ne h]
    exact error_same c w hg
/-- How things stand: the program's table, with blocks of O alone, and the document's locks, in block B, with none of them. -/
structure PL (w : World) (S B : Nat) (O : Nat → Prop) (s : M.Lk) (v : LV) (wr : World) : Prop where
  tv : TV O S s wr
  lg : M.LG s
  rl : RL (fun k => ¬ O k ∧ k ≠ B) s v wr
  lb : LB B 20 5 (M.frS s) s.ac.length v wr
  nb : ¬ O B
  bl : Below w.heap.size w wr
  ol : ∀ k, k < w.heap.size → ¬ O k
  gt : w.heap.size ≤ B
theorem PL.later {w : World} {S B : Nat} {O : Nat → Prop} {s : M.Lk} {v : LV} {wr w1 : World} (h : PL w S B O s v wr) (hb : Below wr.heap.size wr w1) : PL w S B O s v w1 :=
  ⟨h.tv.below hb, h.lg, h.rl.later hb, h.lb.below hb, h.nb, h.bl.trans (hb.mono h.bl.size), h.ol, h.gt⟩
/-- How things stand behind the document's deed: its locks' copy in block C. -/
structure CutL (wr : World) (O : Nat → Prop) (B : Nat) (s : M.Lk) (C : Nat) (v : LV) (w' : World) : Prop where
  hC : wr.heap.size ≤ C
  hL : LB C 20 5 (M.frS s) s.ac.length v w'
  hR : RL (fun j => ¬ (O j ∧ j < wr.heap.size) ∧ j ≠ B) s v w'
  hB : Below wr.heap.size wr w'
theorem CutL.al {wr W6 : World} {O X : Nat → Prop} {B F L : Nat} {s : M.Lk} {v : LV} (hF : M.frS s = F) (hLn : s.ac.length = L) (hR : RL (fun j => ¬ (O j ∧ j < wr.heap.size) ∧ j ≠ B ∧ X j) s v W6) (hB : Below wr.heap.size wr W6) :
    CutL wr O B s W6.heap.size v (W6.alloc (.cells #[.slice v.ph 20 v.ch, .slice v.pw 5 v.cw, .int .i64 (F : Nat), .slice v.pa L v.ca] 46)) := by
  subst hF hLn
  exact ⟨hB.size, lb_alloc W6 20 5 _ _ v, (hR.mono (fun _ _ hg => ⟨hg.1, hg.2.1⟩)).later (bel_al (Below.refl _ _) _), bel_al hB _⟩
theorem CutL.cp {wr W6 : World} {O X : Nat → Prop} {B F L : Nat} {s : M.Lk} {v : LV} (hF : M.frS s = F) (hLn : s.ac.length = L) (hR : RL (fun j => ¬ (O j ∧ j < wr.heap.size) ∧ j ≠ B ∧ X j) s v W6) (hX : ¬ X wr.heap.size) (hB : Below wr.heap.size wr W6) (hL : LB wr.heap.size 0 0 0 0 lv0 W6) :
    CutL wr O B s wr.heap.size v (cpyL W6 wr.heap.size F L v.ph v.ch v.pw v.cw v.pa v.ca) := by
  subst hF hLn
  exact ⟨Nat.le_refl _, hL.cpy _ _ v, (hR.cpy (fun e => hX e.2.2) _ _ _ _ _ _ _ _).mono (fun _ _ hg => ⟨hg.1, hg.2.1⟩), bel_cpyL hB (Nat.le_refl _) _ _ _ _ _ _ _ _⟩
theorem zl_alloc (w : World) : LB w.heap.size 0 0 0 0 lv0 (w.alloc (.cells #[.slice none 0 0, .slice none 0 0, .int .i64 0, .slice none 0 0] 46)) := lb_alloc w 0 0 0 0 lv0
set_option maxRecDepth 100000 in
set_option maxHeartbeats 20000000 in
theorem kp_walk (zs : List Dz) (p : Option Addr) (n cap : Nat) (w : World) (he : Env w) (hty : Ety w) (hl : zs.length = n) (_ : n ≤ maxLen) (hc : HasD zs p w) :
    Calls Tryd.prog 6 #[.slice p n cap] w fun e w' => e = .returned (.bool true) ∧ Below w.heap.size w w' := by
  have HE : Hid (Env w) := he
  have HY : Hid (Ety w) := hty
  have HC : Hid (HasD zs p w) := hc
  clear he hc hty
  go_enter Tryd.func6, Tryd.ntmps6
  go_wp2_with fail
  refine (lnew_ok (O := fun k => k = w.heap.size) w rfl).mono ?_
  rintro e w2 ⟨S, hS, rfl, hT2, hB2⟩
  have H2 : Hid (TV (fun k => k = w.heap.size) S M.lk0 w2 ∧ Below w.heap.size w w2) := ⟨hT2, hB2⟩
  have hlt2 : w.heap.size < w2.heap.size := by have := hT2.lt; omega
  clear hT2 hB2 hS
  go_wp2_with fail
  refine (rnewL_ok w2).mono ?_
  rintro e w3 ⟨v, rfl, hR3, hB3⟩
  obtain ⟨ph, ch, pw, cw, pa, ca⟩ := v
  have P3 : Hid (PL w S w3.heap.size (fun k => k = w.heap.size) M.lk0 ⟨ph, ch, pw, cw, pa, ca⟩ (w3.alloc (.cells #[.slice ph 20 ch, .slice pw 5 cw, .int .i64 (M.frS M.lk0 : Nat), .slice pa M.lk0.ac.length ca] 46))) := by
    obtain ⟨k1, k2⟩ := H2.out
    have s2 := hB3.size
    exact ⟨(k1.below hB3).below (bel_al (Below.refl _ _) _), M.LG.zero, (hR3.mono (fun j hj hg => ⟨by omega, by omega⟩)).later (bel_al (Below.refl _ _) _), lb_alloc w3 20 5 _ _ ⟨ph, ch, pw, cw, pa, ca⟩, by omega, bel_al (k2.trans (hB3.mono k2.size)) _, fun k hk e => by omega, by have := k2.size; omega⟩
  obtain ⟨B, hBB⟩ : ∃ B, w3.heap.size = B := ⟨_, rfl⟩
  rw [hBB] at P3
  clear H2 hR3 hB3 hlt2
  go_wp2_with fail
  clear hBB
  go_loopw [5] (fun u wr => ∃ (i : Nat) (O : Nat → Prop) (s : M.Lk) (v : LV), u = .int .i64 (i : Nat) ∧ i ≤ n ∧ i ≤ 80 ∧ Hid (PL w S B O s v wr)) (fun u _ => 80 - (intOf u).toNat)
  case atStart => exact ⟨0, _, _, _, rfl, Nat.zero_le _, Nat.zero_le _, P3⟩
  case round =>
    clear P3
    obtain ⟨i, O, s, v, rfl, hi, hi2, HP⟩ := hrel
    by_cases hlt : i < n
    case neg =>
      obtain rfl : n = i := by omega
      go_wp2_with fail
      go_ret
      exact ⟨rfl, HP.out.bl⟩
    by_cases hlt2 : i < 80
    case neg =>
      have h80 : (80 : Int) ≤ (i : Int) := by omega
      have hii : (i : Int) < n := by omega
      go_wp2_with fail
      go_ret
      exact ⟨rfl, HP.out.bl⟩
    have hii : (i : Int) < n := by omega
    have hi80 : (i : Int) < 80 := by omega
    obtain ⟨bq, oq, eq, hd⟩ := (HC.out.later HP.out.bl) i (by omega)
    subst eq
    obtain ⟨⟨k, t, o, x⟩, hz⟩ : ∃ d, dAt zs i = d := ⟨_, rfl⟩
    rw [hz] at hd
    have HZ : Hid (dAt zs i = ⟨k, t, o, x⟩) := hz
    have c0 := hd.c0
    have c1 := hd.c1
    have c2 := hd.c2
    have c3 := hd.c3
    have hbq := hd.lt
    simp only at c0 c1 c2 c3
    obtain ⟨s', hs'⟩ : ∃ s', (lkZ s k t o x).1 = s' := ⟨_, rfl⟩
    obtain ⟨cd, hcd⟩ : ∃ cd, (lkZ s k t o x).2 = cd := ⟨_, rfl⟩
    obtain ⟨F', hF'⟩ : ∃ F', M.frS s' = F' := ⟨_, rfl⟩
    obtain ⟨L', hL'⟩ : ∃ L', s'.ac.length = L' := ⟨_, rfl⟩
    have HF : Hid (M.frS s' = F') := hF'
    have HLn : Hid (s'.ac.length = L') := hL'
    have lB := HP.out.lb.lt
    have hmvc : ∀ W', Below wr.heap.size wr W' → Calls Tryd.prog 19 #[rlV s v, .agg #[.int .i64 k, .int .i64 t, .int .i64 o, .int .i64 x]] W' fun e w' => ∃ v', e = .returned (.tuple #[.agg #[.slice v'.ph 20 v'.ch, .slice v'.pw 5 v'.cw, .int .i64 (F' : Nat), .slice v'.pa L' v'.ca], .int .i64 (cd : Nat)]) ∧ Hid (RL (fun j => ¬ (O j ∧ j < wr.heap.size) ∧ j ≠ B ∧ (wr.heap.size < W'.heap.size → j ≠ wr.heap.size)) s' v' w') ∧ Hid (Below wr.heap.size wr w') ∧ Hid (LB wr.heap.size 0 0 0 0 lv0 W' → LB wr.heap.size 0 0 0 0 lv0 w') ∧ Hid (W'.heap.size ≤ w'.heap.size) ∧ (∀ j, wr.heap.size < W'.heap.size → w'.cell? ⟨wr.heap.size, j, none⟩ = W'.cell? ⟨wr.heap.size, j, none⟩) ∧ (∀ j, wr.heap.size < W'.heap.size → w'.frozen? ⟨wr.heap.size, j, none⟩ = W'.frozen? ⟨wr.heap.size, j, none⟩) := by
      intro W' hBW
      have sW := hBW.size
      have hc := rlock_ok (G := fun j => ¬ (O j ∧ j < wr.heap.size) ∧ j ≠ B ∧ (wr.heap.size < W'.heap.size → j ≠ wr.heap.size)) v k t o x W' ((HP.out.rl.mono (fun j hj hg => ⟨fun x => hg.1 x.1, hg.2, fun _ => by omega⟩)).later hBW) (fun j hj => ⟨fun x => by omega, by omega, fun _ => by omega⟩) HP.out.lg
      rw [hs', hcd] at hc
      simp only [rlV] at hc
      rw [HF.out, HLn.out] at hc
      refine hc.mono ?_
      rintro e w' ⟨v', rfl, hR', hB'⟩
      exact ⟨v', rfl, hR', bel_on hBW hB', (fun hL => hL.below hB' : LB wr.heap.size 0 0 0 0 lv0 W' → LB wr.heap.size 0 0 0 0 lv0 w'), hB'.size, fun j hj => hB'.cell (p := ⟨wr.heap.size, j, none⟩) hj, fun j hj => hB'.frozen (p := ⟨wr.heap.size, j, none⟩) hj⟩
    have G' : Hid (M.LG s') := by show M.LG s'; rw [← hs']; exact HP.out.lg.z k t o x
    have l0 := HP.out.lb.c0
    have l1 := HP.out.lb.c1
    have l2 := HP.out.lb.c2
    have l3 := HP.out.lb.c3
    clear hz hd hF' hL'
    go_wp2_with fail
    go_cut [6, 7] from 20 to 28 (fun u6 u7 w' => ∃ (C : Nat) (v' : LV), u6 = .pointer (some ⟨C, 0, none⟩) ∧ u7 = .int .i64 (cd : Nat) ∧ Hid (CutL wr O B s' C v' w'))
    case first =>
      go_region_with (first | (go_at_call 19; refine (hmvc _ (by repeat first | exact Below.refl _ _ | apply bel_al | apply Below.drew)).mono ?_; rintro e w6 ⟨⟨ph6, ch6, pw6, cw6, pa6, ca6⟩, rfl, hR6, hB6, hL6, hs6, hc6, hf6⟩))
      all_goals (go_wp2_with fail; go_meet)
      all_goals first
        | (refine ⟨w6.heap.size, ⟨ph6, ch6, pw6, cw6, pa6, ca6⟩, by with_reducible rfl, rfl, ?_⟩; exact CutL.al (W6 := w6) (v := ⟨ph6, ch6, pw6, cw6, pa6, ca6⟩) HF.out HLn.out hR6.out hB6.out)
        | (refine ⟨wr.heap.size, ⟨ph6, ch6, pw6, cw6, pa6, ca6⟩, by with_reducible rfl, rfl, ?_⟩; exact CutL.cp (W6 := w6) (v := ⟨ph6, ch6, pw6, cw6, pa6, ca6⟩) HF.out HLn.out hR6.out (fun h => h ((zl_alloc wr).below (Below.refl _ _).drew).lt rfl) hB6.out (hL6.out ((zl_alloc wr).below (Below.refl _ _).drew)))
    case rest =>
      obtain ⟨C, v', rfl, rfl, hcp⟩ := hcut
      obtain ⟨hC, hLC0, hRC0, hBC0⟩ := hcp.out
      have hLC : Hid (LB C 20 5 (M.frS s') s'.ac.length v' wc) := hLC0
      have hRC : Hid (RL (fun j => ¬ (O j ∧ j < wr.heap.size) ∧ j ≠ B) s' v' wc) := hRC0
      have hBC : Hid (Below wr.heap.size wr wc) := hBC0
      clear hLC0 hRC0 hBC0 hcp
      clear hmvc l0 l1 l2 l3 c0 c1 c2 c3
      have lC := hLC.out.lt
      have hCB : C ≠ B := by omega
      have y0 := hLC.out.c0
      have y1 := hLC.out.c1
      have y2 := hLC.out.c2
      have y3 := hLC.out.c3
      rw [HF.out] at y2
      rw [HLn.out] at y3
      have LBc := HP.out.lb.below hBC.out
      have lBc := LBc.lt
      have x0 := LBc.c0
      have x1 := LBc.c1
      have x2 := LBc.c2
      have x3 := LBc.c3
      have g0 := LBc.fz 0
      have g1 := LBc.fz 1
      have g2 := LBc.fz 2
      have g3 := LBc.fz 3
      obtain ⟨w8, hw8⟩ : ∃ w8, cpyL wc B F' L' v'.ph v'.ch v'.pw v'.cw v'.pa v'.ca = w8 := ⟨_, rfl⟩
      have L8 : LB B 20 5 (M.frS s') s'.ac.length v' w8 := by rw [← hw8, HF.out, HLn.out]; exact LBc.cpy _ _ v'
      have R8 : RL (fun j => ¬ (O j ∧ j < wr.heap.size) ∧ j ≠ B) s' v' w8 := by rw [← hw8]; exact hRC.out.cpy (fun e => e.2 rfl) _ _ _ _ _ _ _ _
      have FC : Frm (fun j => j = B) wc w8 := by
        rw [← hw8]
        exact ((((Frm.refl (fun j => j = B) wc).set (p := ⟨B, 0, none⟩) rfl _).set (p := ⟨B, 1, none⟩) rfl _).set (p := ⟨B, 2, none⟩) rfl _).set (p := ⟨B, 3, none⟩) rfl _
      have V8 : TV (fun j => O j ∧ j < wr.heap.size) S s w8 := ((HP.out.tv.mono (O' := fun j => O j ∧ j < wr.heap.size) (fun j hj ho => ⟨ho, hj⟩)).below hBC.out).frm FC (fun j ho e => HP.out.nb (e ▸ ho.1))
      have B8 : Below w.heap.size w w8 := by rw [← hw8]; exact bel_cpyL (HP.out.bl.trans (hBC.out.mono HP.out.bl.size)) HP.out.gt _ _ _ _ _ _ _ _
      have s8 : wr.heap.size ≤ w8.heap.size := by have h1 := FC.size; have h2 := hBC.out.size; omega
      obtain ⟨O2, hO2⟩ : ∃ O2 : Nat → Prop, O2 = fun j => (O j ∧ j < wr.heap.size) ∨ w8.heap.size ≤ j := ⟨_, rfl⟩
      have V8' : TV O2 S s w8 := V8.mono (fun j _ ho => by rw [hO2]; exact .inl ho)
      have R8' : RL (fun j => ¬ O2 j ∧ j ≠ B) s' v' w8 := R8.mono (fun j hj hg => by rw [hO2]; exact ⟨fun x => x.elim hg.1 (fun y => by omega), hg.2⟩)
      have hO2f : ∀ j, w8.heap.size ≤ j → O2 j := fun j hj => by rw [hO2]; exact .inr hj
      have hO2l : ∀ j, j < w.heap.size → ¬ O2 j := fun j hj => by
        have h9 := B8.size
        rw [hO2]
        intro x
        rcases x with y | y
        · exact HP.out.ol j hj y.1
        · omega
      have nB2 : ¬ O2 B := by
        have h9 := L8.lt
        rw [hO2]
        intro x
        rcases x with y | y
        · exact HP.out.nb y.1
        · omega
      have hdo : Calls Tryd.prog 9 #[.pointer (some ⟨S, 0, none⟩), .agg #[.int .i64 k, .int .i64 t, .int .i64 o, .int .i64 x]] w8 fun e w' => e = .returned (terr cd) ∧ Hid (PL w S B O2 s' v' w') := by
        have hd := ldo_ok k t o x w8 V8' hO2f HP.out.lg
        rw [hs', hcd] at hd
        refine hd.mono ?_
        rintro e w' ⟨rfl, hV', hF'⟩
        exact ⟨rfl, hV', G'.out, R8'.frm hF' (fun j hg => hg.1), World.rowIs.of_block L8 (hF'.block _ L8.lt nB2), nB2, B8.trans (hF'.below B8.size hO2l), hO2l, HP.out.gt⟩
      obtain ⟨c0, c1, c2, c3⟩ : w8.cell? ⟨bq, oq + i * 4, none⟩ = some (.int .i64 k) ∧ w8.cell? ⟨bq, oq + i * 4 + 1, none⟩ = some (.int .i64 t) ∧ w8.cell? ⟨bq, oq + i * 4 + 2, none⟩ = some (.int .i64 o) ∧ w8.cell? ⟨bq, oq + i * 4 + 3, none⟩ = some (.int .i64 x) := by
        obtain ⟨b9, o9, e9, h9⟩ := (HC.out.later B8) i (by omega)
        cases e9
        rw [HZ.out] at h9
        exact ⟨h9.c0, h9.c1, h9.c2, h9.c3⟩
      have hbq8 : bq < w8.heap.size := World.block_lt_of_cell? _ _ c0
      have G8 : M.LG s' := G'.out
      obtain ⟨ph, ch, pw, cw, pa, ca⟩ := v'
      simp only at y0 y1 y3
      simp only [cpyL] at hw8
      have kk : ∀ w', Hid (PL w S B O2 s' ⟨ph, ch, pw, cw, pa, ca⟩ w') → w'.cell? ⟨B, 0, none⟩ = some (.slice ph 20 ch) ∧ w'.cell? ⟨B, 1, none⟩ = some (.slice pw 5 cw) ∧ w'.cell? ⟨B, 2, none⟩ = some (.int .i64 (F' : Nat)) ∧ w'.cell? ⟨B, 3, none⟩ = some (.slice pa L' ca) := fun w' h => ⟨h.out.lb.c0, h.out.lb.c1, by rw [← HF.out]; exact h.out.lb.c2, by rw [← HLn.out]; exact h.out.lb.c3⟩
      have hA : ∀ w', Hid (PL w S B O2 s' ⟨ph, ch, pw, cw, pa, ca⟩ w') → Calls Tryd.prog 11 #[.pointer (some ⟨S, 0, none⟩)] w' fun e w'' => ∃ p c, e = .returned (.slice p L' c) ∧ Hid (HasAc (az s'.ac) p w'') ∧ Hid (PL w S B O2 s' ⟨ph, ch, pw, cw, pa, ca⟩ w'') ∧ (w''.cell? ⟨B, 0, none⟩ = some (.slice ph 20 ch) ∧ w''.cell? ⟨B, 1, none⟩ = some (.slice pw 5 cw) ∧ w''.cell? ⟨B, 2, none⟩ = some (.int .i64 (F' : Nat)) ∧ w''.cell? ⟨B, 3, none⟩ = some (.slice pa L' ca)) := fun w' h => by
        refine (lacts_ok w' h.out.tv h.out.lg).mono ?_
        rintro e w'' ⟨p, c, rfl, _, h2, hB⟩
        rw [HLn.out]
        exact ⟨p, c, rfl, h2, h.out.later hB, kk w'' (h.out.later hB)⟩
      have hSA : ∀ w' p c, Hid (HasAc (az s'.ac) p w') → Hid (PL w S B O2 s' ⟨ph, ch, pw, cw, pa, ca⟩ w') → Calls Tryd.prog 12 #[.slice p L' c, .slice pa L' ca] w' fun e w'' => e = .returned (.bool true) ∧ Hid (PL w S B O2 s' ⟨ph, ch, pw, cw, pa, ca⟩ w'') ∧ (w''.cell? ⟨B, 0, none⟩ = some (.slice ph 20 ch) ∧ w''.cell? ⟨B, 1, none⟩ = some (.slice pw 5 cw) ∧ w''.cell? ⟨B, 2, none⟩ = some (.int .i64 (F' : Nat)) ∧ w''.cell? ⟨B, 3, none⟩ = some (.slice pa L' ca)) := fun w' p c hh h => by
        refine (same_acts (az s'.ac) p pa L' c ca w' (by rw [az_len, HLn.out]) (by rw [← HLn.out]; have := h.out.lg.len; unfold maxLen; omega) hh.out h.out.rl.ac.has).mono ?_
        rintro e w'' ⟨rfl, hB⟩
        exact ⟨rfl, h.out.later hB, kk w'' (h.out.later hB)⟩
      have hW : ∀ w', Hid (PL w S B O2 s' ⟨ph, ch, pw, cw, pa, ca⟩ w') → Calls Tryd.prog 14 #[.pointer (some ⟨S, 0, none⟩)] w' fun e w'' => ∃ A, e = .returned (.slice (some ⟨A, 0, none⟩) 5 5) ∧ Hid (HasI (ints (M.wtR s')) (some ⟨A, 0, none⟩) w'') ∧ Hid (PL w S B O2 s' ⟨ph, ch, pw, cw, pa, ca⟩ w'') ∧ (w''.cell? ⟨B, 0, none⟩ = some (.slice ph 20 ch) ∧ w''.cell? ⟨B, 1, none⟩ = some (.slice pw 5 cw) ∧ w''.cell? ⟨B, 2, none⟩ = some (.int .i64 (F' : Nat)) ∧ w''.cell? ⟨B, 3, none⟩ = some (.slice pa L' ca)) := fun w' h => by
        refine (lwaits_ok w' h.out.tv h.out.lg).mono ?_
        rintro e w'' ⟨A, rfl, h2, _, hB⟩
        exact ⟨A, rfl, RowAt.hasI h2, h.out.later hB, kk w'' (h.out.later hB)⟩
      have hRW : ∀ w' A, Hid (HasI (ints (M.wtR s')) (some ⟨A, 0, none⟩) w') → Hid (PL w S B O2 s' ⟨ph, ch, pw, cw, pa, ca⟩ w') → Calls Tryd.prog 22 #[.agg #[.slice ph 20 ch, .slice pw 5 cw, .int .i64 (F' : Nat), .slice pa L' ca]] w' fun e w'' => ∃ q c, e = .returned (.slice q 5 c) ∧ Hid (HasI (ints (M.wtR s')) (some ⟨A, 0, none⟩) w'' ∧ HasI (ints (M.wtR s')) q w'') ∧ Hid (PL w S B O2 s' ⟨ph, ch, pw, cw, pa, ca⟩ w'') ∧ (w''.cell? ⟨B, 0, none⟩ = some (.slice ph 20 ch) ∧ w''.cell? ⟨B, 1, none⟩ = some (.slice pw 5 cw) ∧ w''.cell? ⟨B, 2, none⟩ = some (.int .i64 (F' : Nat)) ∧ w''.cell? ⟨B, 3, none⟩ = some (.slice pa L' ca)) := fun w' A hh h => by
        have hc := rwaits_ok ⟨ph, ch, pw, cw, pa, ca⟩ w' h.out.rl h.out.lg
        simp only [rlV] at hc
        rw [HF.out, HLn.out] at hc
        refine hc.mono ?_
        rintro e w'' ⟨q, c, rfl, h2, hB⟩
        exact ⟨q, c, rfl, ⟨hh.out.later hB, h2⟩, h.out.later hB, kk w'' (h.out.later hB)⟩
      have hI : ∀ w' A q c, Hid (HasI (ints (M.wtR s')) (some ⟨A, 0, none⟩) w' ∧ HasI (ints (M.wtR s')) q w') → Hid (PL w S B O2 s' ⟨ph, ch, pw, cw, pa, ca⟩ w') → Calls Tryd.prog 21 #[.slice (some ⟨A, 0, none⟩) 5 5, .slice q 5 c] w' fun e w'' => e = .returned (.bool true) ∧ Hid (PL w S B O2 s' ⟨ph, ch, pw, cw, pa, ca⟩ w'') ∧ (w''.cell? ⟨B, 0, none⟩ = some (.slice ph 20 ch) ∧ w''.cell? ⟨B, 1, none⟩ = some (.slice pw 5 cw) ∧ w''.cell? ⟨B, 2, none⟩ = some (.int .i64 (F' : Nat)) ∧ w''.cell? ⟨B, 3, none⟩ = some (.slice pa L' ca)) := fun w' A q c hh h => by
        refine (same_intsI (ints (M.wtR s')) (some ⟨A, 0, none⟩) q 5 5 c w' (by rw [ints_length, M.wtR_len]) (by unfold maxLen; omega) hh.out.1 hh.out.2).mono ?_
        rintro e w'' ⟨rfl, hB⟩
        exact ⟨rfl, h.out.later hB, kk w'' (h.out.later hB)⟩
      obtain ⟨Z, hZZ⟩ : ∃ Z, M.stS s' = Z := ⟨_, rfl⟩
      have hSt : ∀ w', Hid (PL w S B O2 s' ⟨ph, ch, pw, cw, pa, ca⟩ w') → Calls Tryd.prog 13 #[.pointer (some ⟨S, 0, none⟩)] w' fun e w'' => e = .returned (.int .i64 (Z : Nat)) ∧ Hid (PL w S B O2 s' ⟨ph, ch, pw, cw, pa, ca⟩ w'') ∧ (w''.cell? ⟨B, 0, none⟩ = some (.slice ph 20 ch) ∧ w''.cell? ⟨B, 1, none⟩ = some (.slice pw 5 cw) ∧ w''.cell? ⟨B, 2, none⟩ = some (.int .i64 (F' : Nat)) ∧ w''.cell? ⟨B, 3, none⟩ = some (.slice pa L' ca)) := fun w' h => by
        refine (lstuck_ok w' (HE.out.later h.out.bl) h.out.tv h.out.lg).mono ?_
        rintro e w'' ⟨rfl, hB⟩
        rw [hZZ]
        exact ⟨rfl, h.out.later hB, kk w'' (h.out.later hB)⟩
      have hRS : ∀ w', Hid (PL w S B O2 s' ⟨ph, ch, pw, cw, pa, ca⟩ w') → Calls Tryd.prog 23 #[.agg #[.slice ph 20 ch, .slice pw 5 cw, .int .i64 (F' : Nat), .slice pa L' ca]] w' fun e w'' => e = .returned (.int .i64 (Z : Nat)) ∧ Hid (PL w S B O2 s' ⟨ph, ch, pw, cw, pa, ca⟩ w'') := fun w' h => by
        have hc := rstuck_ok ⟨ph, ch, pw, cw, pa, ca⟩ w' h.out.rl h.out.lg
        simp only [rlV] at hc
        rw [HF.out, HLn.out] at hc
        refine hc.mono ?_
        rintro e w'' ⟨rfl, hB⟩
        rw [hZZ]
        exact ⟨rfl, h.out.later hB⟩
      clear hLC hRC hBC LBc L8 R8 FC V8 V8' R8' hO2f hO2l nB2 G8 HP hO2 hs' hcd s8 hZZ lB hbq
      go_wp2_with fail
      refine hdo.mono ?_
      rintro e wd ⟨rfl, hPd⟩
      have her := err_ok cd wd (HY.out.later hPd.out.bl)
      clear hdo c0 c1 c2 c3 hbq8 x0 x1 x2 x3 g0 g1 g2 g3 y0 y1 y2 y3 hw8 B8
      go_wp2_with fail
      refine her.mono ?_
      rintro e we ⟨rfl, hBe⟩
      have hPe : Hid (PL w S B O2 s' ⟨ph, ch, pw, cw, pa, ca⟩ we) := hPd.out.later hBe
      obtain ⟨n0, n1, n2, n3⟩ := kk we hPe
      have lBe := hPe.out.lb.lt
      clear her hPd hBe
      go_wp2_with fail
      have kd : Hid (PL w S B O2 s' ⟨ph, ch, pw, cw, pa, ca⟩ we.drew) := hPe.out.later (Below.refl _ _).drew
      go_cut [59] from 39 to 58 (fun u w' => u = .bool false ∧ Hid (PL w S B O2 s' ⟨ph, ch, pw, cw, pa, ca⟩ w'))
      case first =>
        go_region_with (first
          | (go_at_call 11; refine (hA _ (by first | exact kd | exact hPe)).mono ?_; rintro e wA ⟨pA, cA, rfl, hIA, hPA, ⟨m0, m1, m2, m3⟩⟩)
          | (go_at_call 12; refine (hSA _ _ _ hIA hPA).mono ?_; rintro e wB ⟨rfl, hPB, ⟨b0, b1, b2, b3⟩⟩)
          | (go_at_call 14; refine (hW _ hPB).mono ?_; rintro e wC ⟨A, rfl, hIC, hPC, ⟨d0, d1, d2, d3⟩⟩)
          | (go_at_call 22; refine (hRW _ _ hIC hPC).mono ?_; rintro e wD ⟨qD, cD, rfl, hID, hPD, ⟨e0, e1, e2, e3⟩⟩)
          | (go_at_call 21; refine (hI _ _ _ _ hID hPD).mono ?_; rintro e wE ⟨rfl, hPE, ⟨f0, f1, f2, f3⟩⟩)
          | (go_at_call 13; refine (hSt _ hPE).mono ?_; rintro e wF ⟨rfl, hPF, ⟨g0, g1, g2, g3⟩⟩)
          | (go_at_call 23; refine (hRS _ hPF).mono ?_; rintro e wG ⟨rfl, hPG⟩))
        all_goals (go_wp2_with fail; go_meet)
        all_goals exact ⟨rfl, hPG⟩
      case rest =>
        obtain ⟨rfl, hP2⟩ := hcut
        clear hA hSA hW hRW hI hSt hRS kk kd hPe n0 n1 n2 n3
        go_wp2_with fail
        go_roundw
        case rel => exact ⟨i + 1, O2, s', _, by go_num, by omega, by omega, hP2⟩
        case measure => simp [intOf]; omega
end Go.Proofs.YtcjodlgkmbmcgaaDoor
