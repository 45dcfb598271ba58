/- Any gate, and any acts (law PriorPlays), the walk; written by mk_ppl.py. -/
import Derived.Test.YtlkdclifcmohlaaDoorRefP4
import Derived.Test.YtlkdclifcmohlaaDoorPr3
import Derived.Test.YtlkdclifcmohlaaDoorSac
import Derived.Test.YtlkdclifcmohlaaDoorErr
namespace Go.Proofs.YtlkdclifcmohlaaDoor
open Go.RowKit
theorem errP_ok (c : Nat) (w : World) (hg : Ety w) : Calls Tryd.prog 13 #[terr c, .int .i64 (c : Nat)] w fun e w' => e = .returned (.bool true) ∧ Below w.heap.size w w' := by
  by_cases h : c = 0
  · subst h
    refine (error_nil w).mono ?_
    rintro e w' ⟨rfl, rfl⟩
    exact ⟨rfl, Below.refl _ _⟩
  · rw [terr_ne h]
    exact error_same c w hg
/-- How things stand: the program's gate, with blocks of O alone, and the document's, in block B, with none of them. -/
structure PP (w : World) (S B : Nat) (O : Nat → Prop) (sk : Bool) (s : M.Gt) (pa : Option Addr) (ca : Nat) (wr : World) : Prop where
  gv : GV O S sk s wr
  gg : M.GG s
  ra : RA (fun k => ¬ O k ∧ k ≠ B) s.ac pa ca wr
  rb : RG B sk s.dead s.ac.length pa ca wr
  nb : ¬ O B
  bl : Below w.heap.size w wr
  ol : ∀ k, k < w.heap.size → ¬ O k
  gt : w.heap.size ≤ B
theorem PP.later {w : World} {S B : Nat} {O : Nat → Prop} {sk : Bool} {s : M.Gt} {pa : Option Addr} {ca : Nat} {wr w1 : World} (h : PP w S B O sk s pa ca wr) (hb : Below wr.heap.size wr w1) : PP w S B O sk s pa ca w1 :=
  ⟨h.gv.below hb, h.gg, h.ra.later hb, h.rb.below hb, h.nb, h.bl.trans (hb.mono h.bl.size), h.ol, h.gt⟩
/-- How things stand behind the document's act: its gate's copy in block C. -/
structure CutG (wr : World) (O : Nat → Prop) (B : Nat) (sk : Bool) (s : M.Gt) (C : Nat) (pa : Option Addr) (ca : Nat) (w' : World) : Prop where
  hC : wr.heap.size ≤ C
  hL : RG C sk s.dead s.ac.length pa ca w'
  hR : RA (fun j => ¬ (O j ∧ j < wr.heap.size) ∧ j ≠ B) s.ac pa ca w'
  hB : Below wr.heap.size wr w'
theorem CutG.al {wr W6 : World} {O X : Nat → Prop} {B D L : Nat} {sk : Bool} {s : M.Gt} {pa : Option Addr} {ca : Nat} (hD : s.dead = D) (hLn : s.ac.length = L) (hR : RA (fun j => ¬ (O j ∧ j < wr.heap.size) ∧ j ≠ B ∧ X j) s.ac pa ca W6) (hB : Below wr.heap.size wr W6) :
    CutG wr O B sk s W6.heap.size pa ca (W6.alloc (.cells #[.bool sk, .int .i64 (D : Nat), .slice pa L ca] 39)) := by
  subst hD hLn
  exact ⟨hB.size, rg_alloc W6 sk _ _ pa ca, (hR.mono (fun _ _ hg => ⟨hg.1, hg.2.1⟩)).later (bel_al (Below.refl _ _) _), bel_al hB _⟩
theorem CutG.cp {wr W6 : World} {O X : Nat → Prop} {B D L : Nat} {sk : Bool} {s : M.Gt} {pa : Option Addr} {ca : Nat} (hD : s.dead = D) (hLn : s.ac.length = L) (hR : RA (fun j => ¬ (O j ∧ j < wr.heap.size) ∧ j ≠ B ∧ X j) s.ac pa ca W6) (hX : ¬ X wr.heap.size) (hB : Below wr.heap.size wr W6) (hL : RG wr.heap.size false 0 0 none 0 W6) :
    CutG wr O B sk s wr.heap.size pa ca (cpyG W6 wr.heap.size sk D L pa ca) := by
  subst hD hLn
  exact ⟨Nat.le_refl _, hL.cpy _ _ _ _ _, (hR.cpyP (fun e => hX e.2.2) _ _ _ _ _).mono (fun _ _ hg => ⟨hg.1, hg.2.1⟩), bel_cpyG hB (Nat.le_refl _) _ _ _ _ _⟩
theorem zg_alloc (w : World) : RG w.heap.size false 0 0 none 0 (w.alloc (.cells #[.bool false, .int .i64 0, .slice none 0 0] 39)) := rg_alloc w false 0 0 none 0
set_option maxRecDepth 100000 in
set_option maxHeartbeats 20000000 in
theorem pp_walk (sk : Bool) (zs : List Az) (p : Option Addr) (n cap : Nat) (w : World) (hty : Ety w) (hl : zs.length = n) (_ : n ≤ maxLen) (_ : n ≤ cap) (hc : HasAc zs p w) :
    Calls Tryd.prog 5 #[.bool sk, .slice p n cap] w fun e w' => e = .returned (.bool true) ∧ Below w.heap.size w w' := by
  have HY : Hid (Ety w) := hty
  have HC : Hid (HasAc zs p w) := hc
  clear hc hty
  go_enter Tryd.func5, Tryd.ntmps5
  go_wp2_with fail
  refine (gnew_ok (O := fun k => k = w.heap.size) sk w rfl).mono ?_
  rintro e w2 ⟨rfl, hT2, hB2⟩
  obtain ⟨S, hS⟩ : ∃ S, w.heap.size = S := ⟨_, rfl⟩
  have P3 : Hid (PP w S w2.heap.size (fun k => k = S) sk M.gt0 none 0 (w2.alloc (.cells #[.bool sk, .int .i64 0, .slice none 0 0] 39))) := by
    have s2 := hT2.lt
    rw [hS] at hT2 s2
    exact ⟨hT2.below (bel_al (Below.refl _ _) _), M.GG.zero, ⟨fun _ => ⟨rfl, rfl⟩, ⟨Nat.le_refl _, Nat.zero_le _⟩, fun j hj => absurd hj (Nat.not_lt_zero _)⟩, rg_alloc w2 sk 0 0 none 0, by omega, bel_al hB2 _, fun k hk e => by omega, by omega⟩
  obtain ⟨B, hBB⟩ : ∃ B, w2.heap.size = B := ⟨_, rfl⟩
  rw [hBB] at P3
  rw [hS]
  clear hT2 hB2
  go_wp2_with fail
  clear hBB hS
  go_loopw [7] (fun u wr => ∃ (i : Nat) (O : Nat → Prop) (s : M.Gt) (pa : Option Addr) (ca : Nat), u = .int .i64 (i : Nat) ∧ i ≤ n ∧ i ≤ 60 ∧ Hid (PP w S B O sk s pa ca wr)) (fun u _ => 60 - (intOf u).toNat)
  case atStart => exact ⟨0, _, _, _, _, rfl, Nat.zero_le _, Nat.zero_le _, P3⟩
  case round =>
    clear P3
    obtain ⟨i, O, s, pa, ca, rfl, hi, hi2, HP⟩ := hrel
    by_cases hlt : i < n
    case neg =>
      obtain rfl : n = i := by omega
      go_wp2_with fail
      go_ret
      exact ⟨rfl, HP.out.bl⟩
    by_cases hlt2 : i < 60
    case neg =>
      have h80 : (60 : Int) ≤ (i : Int) := by omega
      have hii : (i : Int) < n := by omega
      go_wp2_with fail
      go_ret
      exact ⟨rfl, HP.out.bl⟩
    have hii : (i : Int) < n := by omega
    have hi80 : (i : Int) < 60 := by omega
    obtain ⟨bq, oq, eq, hd⟩ := (HC.out.later HP.out.bl) i (by omega)
    subst eq
    obtain ⟨⟨t, o, x⟩, hz⟩ : ∃ d, aAt zs i = d := ⟨_, rfl⟩
    rw [hz] at hd
    have HZ : Hid (aAt zs i = ⟨t, o, x⟩) := hz
    have c0 := hd.c0
    have c1 := hd.c1
    have c2 := hd.c2
    have hbq := hd.lt
    simp only at c0 c1 c2
    obtain ⟨s', hs'⟩ : ∃ s', (gtZ sk s ⟨t, o, x⟩).1 = s' := ⟨_, rfl⟩
    obtain ⟨dn, hdn⟩ : ∃ dn, (gtZ sk s ⟨t, o, x⟩).2.1 = dn := ⟨_, rfl⟩
    obtain ⟨cd, hcd⟩ : ∃ cd, (gtZ sk s ⟨t, o, x⟩).2.2 = cd := ⟨_, rfl⟩
    obtain ⟨D', hD'⟩ : ∃ D', s'.dead = D' := ⟨_, rfl⟩
    obtain ⟨L', hL'⟩ : ∃ L', s'.ac.length = L' := ⟨_, rfl⟩
    have HD : Hid (s'.dead = D') := hD'
    have HLn : Hid (s'.ac.length = L') := hL'
    have lB := HP.out.rb.lt
    have hmvc : ∀ W', Below wr.heap.size wr W' → Calls Tryd.prog 12 #[rgV sk s pa ca, .agg #[.int .i64 t, .int .i64 o, .int .i64 x]] W' fun e w' => ∃ p' c', e = .returned (.tuple #[.agg #[.bool sk, .int .i64 (D' : Nat), .slice p' L' c'], .bool dn, .int .i64 (cd : Nat)]) ∧ Hid (RA (fun j => ¬ (O j ∧ j < wr.heap.size) ∧ j ≠ B ∧ (wr.heap.size < W'.heap.size → j ≠ wr.heap.size)) s'.ac p' c' w') ∧ Hid (Below wr.heap.size wr w') ∧ Hid (RG wr.heap.size false 0 0 none 0 W' → RG wr.heap.size false 0 0 none 0 w') ∧ Hid (W'.heap.size ≤ w'.heap.size) ∧ (∀ j, wr.heap.size < W'.heap.size → w'.cell? ⟨wr.heap.size, j, none⟩ = W'.cell? ⟨wr.heap.size, j, none⟩) ∧ (∀ j, wr.heap.size < W'.heap.size → w'.frozen? ⟨wr.heap.size, j, none⟩ = W'.frozen? ⟨wr.heap.size, j, none⟩) := by
      intro W' hBW
      have sW := hBW.size
      have hc := rpass_ok (G := fun j => ¬ (O j ∧ j < wr.heap.size) ∧ j ≠ B ∧ (wr.heap.size < W'.heap.size → j ≠ wr.heap.size)) ⟨t, o, x⟩ sk pa ca W' ((HP.out.ra.mono (fun j hj hg => ⟨fun x => hg.1 x.1, hg.2, fun _ => by omega⟩)).later hBW) (fun j hj => ⟨fun x => by omega, by omega, fun _ => by omega⟩) HP.out.gg
      rw [hs', hdn, hcd] at hc
      simp only [rgV] at hc
      rw [HD.out, HLn.out] at hc
      refine hc.mono ?_
      rintro e w' ⟨p', c', rfl, hR', hB'⟩
      exact ⟨p', c', rfl, hR', bel_on hBW hB', (fun hL => hL.below hB' : RG wr.heap.size false 0 0 none 0 W' → RG wr.heap.size false 0 0 none 0 w'), hB'.size, fun j hj => hB'.cell (p := ⟨wr.heap.size, j, none⟩) hj, fun j hj => hB'.frozen (p := ⟨wr.heap.size, j, none⟩) hj⟩
    have G' : Hid (M.GG s') := by show M.GG s'; rw [← hs']; exact HP.out.gg.z sk ⟨t, o, x⟩
    have l0 := HP.out.rb.c0
    have l1 := HP.out.rb.c1
    have l2 := HP.out.rb.c2
    clear hz hd hD' hL'
    go_wp2_with fail
    go_cut [8, 9, 10] from 27 to 36 (fun u6 u7 u8 w' => ∃ (C : Nat) (p' : Option Addr) (c' : Nat), u6 = .pointer (some ⟨C, 0, none⟩) ∧ u7 = .bool dn ∧ u8 = .int .i64 (cd : Nat) ∧ Hid (CutG wr O B sk s' C p' c' w'))
    case first =>
      go_region_with (first | (go_at_call 12; refine (hmvc _ (by repeat first | exact Below.refl _ _ | apply bel_al | apply Below.drew)).mono ?_; rintro e w6 ⟨p6, c6, rfl, hR6, hB6, hL6, hs6, hc6, hf6⟩))
      all_goals (go_wp2_with fail; go_meet)
      all_goals first
        | (refine ⟨w6.heap.size, p6, c6, by with_reducible rfl, rfl, rfl, ?_⟩; exact CutG.al (W6 := w6) HD.out HLn.out hR6.out hB6.out)
        | (refine ⟨wr.heap.size, p6, c6, by with_reducible rfl, rfl, rfl, ?_⟩; exact CutG.cp (W6 := w6) HD.out HLn.out hR6.out (fun h => h ((zg_alloc wr).below (Below.refl _ _).drew).lt rfl) hB6.out (hL6.out ((zg_alloc wr).below (Below.refl _ _).drew)))
    case rest =>
      obtain ⟨C, p', c', rfl, rfl, rfl, hcp⟩ := hcut
      obtain ⟨hC, hLC0, hRC0, hBC0⟩ := hcp.out
      have hLC : Hid (RG C sk s'.dead s'.ac.length p' c' wc) := hLC0
      have hRC : Hid (RA (fun j => ¬ (O j ∧ j < wr.heap.size) ∧ j ≠ B) s'.ac p' c' wc) := hRC0
      have hBC : Hid (Below wr.heap.size wr wc) := hBC0
      clear hLC0 hRC0 hBC0 hcp
      clear hmvc l0 l1 l2 c0 c1 c2
      have lC := hLC.out.lt
      have hCB : C ≠ B := by omega
      have y0 := hLC.out.c0
      have y1 := hLC.out.c1
      have y2 := hLC.out.c2
      rw [HD.out] at y1
      rw [HLn.out] at y2
      have LBc := HP.out.rb.below hBC.out
      have lBc := LBc.lt
      have x0 := LBc.c0
      have x1 := LBc.c1
      have x2 := LBc.c2
      have g0 := LBc.fz 0
      have g1 := LBc.fz 1
      have g2 := LBc.fz 2
      obtain ⟨w8, hw8⟩ : ∃ w8, cpyG wc B sk D' L' p' c' = w8 := ⟨_, rfl⟩
      have L8 : RG B sk s'.dead s'.ac.length p' c' w8 := by rw [← hw8, HD.out, HLn.out]; exact LBc.cpy _ _ _ _ _
      have R8 : RA (fun j => ¬ (O j ∧ j < wr.heap.size) ∧ j ≠ B) s'.ac p' c' w8 := by rw [← hw8]; exact hRC.out.cpyP (fun e => e.2 rfl) _ _ _ _ _
      have FC : Frm (fun j => j = B) wc w8 := by
        rw [← hw8]
        exact (((Frm.refl (fun j => j = B) wc).set (p := ⟨B, 0, none⟩) rfl _).set (p := ⟨B, 1, none⟩) rfl _).set (p := ⟨B, 2, none⟩) rfl _
      have V8 : GV (fun j => O j ∧ j < wr.heap.size) S sk s w8 := ((HP.out.gv.mono (O' := fun j => O j ∧ j < wr.heap.size) (fun j hj ho => ⟨ho, hj⟩)).below hBC.out).frm FC (fun j ho e => HP.out.nb (e ▸ ho.1))
      have B8 : Below w.heap.size w w8 := by rw [← hw8]; exact bel_cpyG (HP.out.bl.trans (hBC.out.mono HP.out.bl.size)) HP.out.gt _ _ _ _ _
      have s8 : wr.heap.size ≤ w8.heap.size := by have h1 := FC.size; have h2 := hBC.out.size; omega
      obtain ⟨O2, hO2⟩ : ∃ O2 : Nat → Prop, O2 = fun j => (O j ∧ j < wr.heap.size) ∨ w8.heap.size ≤ j := ⟨_, rfl⟩
      have V8' : GV O2 S sk s w8 := V8.mono (fun j _ ho => by rw [hO2]; exact .inl ho)
      have R8' : RA (fun j => ¬ O2 j ∧ j ≠ B) s'.ac p' c' w8 := R8.mono (fun j hj hg => by rw [hO2]; exact ⟨fun x => x.elim hg.1 (fun y => by omega), hg.2⟩)
      have hO2f : ∀ j, w8.heap.size ≤ j → O2 j := fun j hj => by rw [hO2]; exact .inr hj
      have hO2l : ∀ j, j < w.heap.size → ¬ O2 j := fun j hj => by
        have h9 := B8.size
        rw [hO2]
        intro x
        rcases x with y | y
        · exact HP.out.ol j hj y.1
        · omega
      have nB2 : ¬ O2 B := by
        have h9 := L8.lt
        rw [hO2]
        intro x
        rcases x with y | y
        · exact HP.out.nb y.1
        · omega
      have hdo : Calls Tryd.prog 9 #[.pointer (some ⟨S, 0, none⟩), .agg #[.int .i64 t, .int .i64 o, .int .i64 x]] w8 fun e w' => e = .returned (.tuple #[.bool dn, terr cd]) ∧ Hid (PP w S B O2 sk s' p' c' w') := by
        have hd := gdo_ok ⟨t, o, x⟩ w8 V8' hO2f HP.out.gg
        rw [hs', hdn, hcd] at hd
        refine hd.mono ?_
        rintro e w' ⟨rfl, hV', hF'⟩
        exact ⟨rfl, hV', G'.out, R8'.frm hF' (fun j hg => hg.1), World.rowIs.of_block L8 (hF'.block _ L8.lt nB2), nB2, B8.trans (hF'.below B8.size hO2l), hO2l, HP.out.gt⟩
      obtain ⟨c0, c1, c2⟩ : w8.cell? ⟨bq, oq + i * 3, none⟩ = some (.int .i64 t) ∧ w8.cell? ⟨bq, oq + i * 3 + 1, none⟩ = some (.int .i64 o) ∧ w8.cell? ⟨bq, oq + i * 3 + 2, none⟩ = some (.int .i64 x) := by
        obtain ⟨b9, o9, e9, h9⟩ := (HC.out.later B8) i (by omega)
        cases e9
        rw [HZ.out] at h9
        exact ⟨h9.c0, h9.c1, h9.c2⟩
      have hbq8 : bq < w8.heap.size := World.block_lt_of_cell? _ _ c0
      simp only [cpyG] at hw8
      have kk : ∀ w', Hid (PP w S B O2 sk s' p' c' w') → (w'.cell? ⟨B, 0, none⟩ = some (.bool sk) ∧ w'.cell? ⟨B, 1, none⟩ = some (.int .i64 (D' : Nat)) ∧ w'.cell? ⟨B, 2, none⟩ = some (.slice p' L' c')) := fun w' h => ⟨h.out.rb.c0, by rw [← HD.out]; exact h.out.rb.c1, by rw [← HLn.out]; exact h.out.rb.c2⟩
      have hER : ∀ w', Hid (PP w S B O2 sk s' p' c' w') → Calls Tryd.prog 13 #[terr cd, .int .i64 (cd : Nat)] w' fun e w'' => e = .returned (.bool true) ∧ Hid (PP w S B O2 sk s' p' c' w'') ∧ (w''.cell? ⟨B, 0, none⟩ = some (.bool sk) ∧ w''.cell? ⟨B, 1, none⟩ = some (.int .i64 (D' : Nat)) ∧ w''.cell? ⟨B, 2, none⟩ = some (.slice p' L' c')) := fun w' h => by
        refine (errP_ok cd w' (HY.out.later h.out.bl)).mono ?_
        rintro e w'' ⟨rfl, hB⟩
        exact ⟨rfl, h.out.later hB, kk w'' (h.out.later hB)⟩
      have hA : ∀ w', Hid (PP w S B O2 sk s' p' c' w') → Calls Tryd.prog 10 #[.pointer (some ⟨S, 0, none⟩)] w' fun e w'' => ∃ p c, e = .returned (.slice p L' c) ∧ Hid (HasAc (az s'.ac) p w'') ∧ Hid (PP w S B O2 sk s' p' c' w'') ∧ (w''.cell? ⟨B, 0, none⟩ = some (.bool sk) ∧ w''.cell? ⟨B, 1, none⟩ = some (.int .i64 (D' : Nat)) ∧ w''.cell? ⟨B, 2, none⟩ = some (.slice p' L' c')) := fun w' h => by
        refine (gacts_ok w' h.out.gv h.out.gg).mono ?_
        rintro e w'' ⟨p, c, rfl, _, h2, hB⟩
        rw [HLn.out]
        exact ⟨p, c, rfl, h2, h.out.later hB, kk w'' (h.out.later hB)⟩
      have hSA : ∀ w' p c, Hid (HasAc (az s'.ac) p w') → Hid (PP w S B O2 sk s' p' c' w') → Calls Tryd.prog 14 #[.slice p L' c, .slice p' L' c'] w' fun e w'' => e = .returned (.bool true) ∧ Hid (PP w S B O2 sk s' p' c' w'') ∧ (w''.cell? ⟨B, 0, none⟩ = some (.bool sk) ∧ w''.cell? ⟨B, 1, none⟩ = some (.int .i64 (D' : Nat)) ∧ w''.cell? ⟨B, 2, none⟩ = some (.slice p' L' c')) := fun w' p c hh h => by
        refine (same_acts (az s'.ac) p p' L' c c' w' (by rw [az_len, HLn.out]) (by rw [← HLn.out]; have := h.out.gg.len; unfold maxLen; omega) hh.out h.out.ra.has).mono ?_
        rintro e w'' ⟨rfl, hB⟩
        exact ⟨rfl, h.out.later hB, kk w'' (h.out.later hB)⟩
      have hDd : ∀ w', Hid (PP w S B O2 sk s' p' c' w') → Calls Tryd.prog 15 #[.pointer (some ⟨S, 0, none⟩)] w' fun e w'' => e = .returned (.int .i64 (D' : Nat)) ∧ Hid (PP w S B O2 sk s' p' c' w'') ∧ (w''.cell? ⟨B, 0, none⟩ = some (.bool sk) ∧ w''.cell? ⟨B, 1, none⟩ = some (.int .i64 (D' : Nat)) ∧ w''.cell? ⟨B, 2, none⟩ = some (.slice p' L' c')) := fun w' h => by
        refine (gdead_ok w' h.out.gv).mono ?_
        rintro e w'' ⟨rfl, rfl⟩
        rw [HD.out]
        exact ⟨rfl, h, kk w' h⟩
      clear hLC hRC hBC LBc L8 R8 FC V8 V8' R8' hO2f hO2l nB2 HP hO2 hs' hcd hdn s8 lB hbq
      go_wp2_with fail
      refine hdo.mono ?_
      rintro e wd ⟨rfl, hPd⟩
      obtain ⟨n0, n1, n2⟩ := kk wd hPd
      have lBe := hPd.out.rb.lt
      have lSe := hPd.out.gv.lt
      clear hdo c0 c1 c2 hbq8 x0 x1 x2 g0 g1 g2 y0 y1 y2 hw8 B8
      go_wp2_with fail
      have kd : Hid (PP w S B O2 sk s' p' c' wd.drew) := hPd.out.later (Below.refl _ _).drew
      have hdd : (dn != dn) = false := by cases dn <;> rfl
      go_cut [70] from 47 to 70 (fun u w' => u = .bool false ∧ Hid (PP w S B O2 sk s' p' c' w'))
      case first =>
        go_region_held3 (fun W => Hid (PP w S B O2 sk s' p' c' W) ∧ (W.cell? ⟨B, 0, none⟩ = some (.bool sk) ∧ W.cell? ⟨B, 1, none⟩ = some (.int .i64 (D' : Nat)) ∧ W.cell? ⟨B, 2, none⟩ = some (.slice p' L' c'))) (first | exact ⟨kd, kk _ kd⟩ | exact ⟨hP9, e0, e1, e2⟩ | exact ⟨hPA, m0, m1, m2⟩ | exact ⟨hPB, b0, b1, b2⟩ | exact ⟨hPC, d0, d1, d2⟩) (first
          | (go_at_call 13; refine (hER _ kd).mono ?_; rintro e w9 ⟨rfl, hP9, ⟨e0, e1, e2⟩⟩)
          | (go_at_call 10; refine (hA _ hP9).mono ?_; rintro e wA ⟨pA, cA, rfl, hIA, hPA, ⟨m0, m1, m2⟩⟩)
          | (go_at_call 14; refine (hSA _ _ _ hIA hPA).mono ?_; rintro e wB ⟨rfl, hPB, ⟨b0, b1, b2⟩⟩)
          | (go_at_call 15; refine (hDd _ hPB).mono ?_; rintro e wC ⟨rfl, hPC, ⟨d0, d1, d2⟩⟩))
        go_wp2_with fail
        go_meet
        exact ⟨rfl, hPC⟩
      case rest =>
        obtain ⟨rfl, hP2⟩ := hcut
        clear hER hA hSA hDd kk kd hPd n0 n1 n2
        go_wp2_with fail
        go_roundw
        case rel => exact ⟨i + 1, O2, s', _, _, by go_num, by omega, by omega, hP2⟩
        case measure => simp [intOf]; omega
end Go.Proofs.YtlkdclifcmohlaaDoor
