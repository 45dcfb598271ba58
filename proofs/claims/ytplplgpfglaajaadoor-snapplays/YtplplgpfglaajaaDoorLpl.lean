/- Any bank, and any moves (law SnapPlays), the walk. -/
import Derived.Test.YtplplgpfglaajaaDoorRefB11
import Derived.Test.YtplplgpfglaajaaDoorErr
import Derived.Test.YtplplgpfglaajaaDoorHsm4d
namespace Go.Proofs.YtplplgpfglaajaaDoor
open Go.RowKit
theorem err_ok (c : Nat) (w : World) (hg : Ety w) : Calls Tryd.prog 6 #[terr c, .int .i64 (c : Nat)] w fun e w' => e = .returned (.bool true) ∧ Below w.heap.size w w' := by
  by_cases h : c = 0
  · subst h
    refine (error_nil w).mono ?_
    rintro e w' ⟨rfl, rfl⟩
    exact ⟨rfl, Below.refl _ _⟩
  · rw [terr_ne h]
    exact error_same c w hg
/-- How things stand: the program's bank, with blocks of O alone, and the document's, in block B, with none of them. -/
structure PI (w : World) (S n B : Nat) (O : Nat → Prop) (b : M.Bk) (v : RV) (wr : World) : Prop where
  bv : BV O S n b wr
  bg : M.BG n b
  rb : RB (fun k => ¬ O k ∧ k ≠ B) n b v wr
  lb : LB B n b.be v wr
  nb : ¬ O B
  bl : Below w.heap.size w wr
  ol : ∀ k, k < w.heap.size → ¬ O k
  gt : w.heap.size ≤ B
section
variable {w : World} {S n B : Nat} {O : Nat → Prop} {b : M.Bk} {v : RV} {wr w1 : World}
theorem PI.later (h : PI w S n B O b v wr) (hb : Below wr.heap.size wr w1) : PI w S n B O b v w1 :=
  ⟨h.bv.below hb, h.bg, h.rb.later hb, h.lb.below hb h.lb.lt, h.nb, h.bl.trans (hb.mono h.bl.size), h.ol, h.gt⟩
end
/-- How things stand behind the document's move: its bank's copy in block C. -/
structure CutP (wr : World) (O : Nat → Prop) (B n : Nat) (b : M.Bk) (C : Nat) (v : RV) (w' : World) : Prop where
  hC : wr.heap.size ≤ C
  hL : LB C n b.be v w'
  hR : RB (fun j => ¬ (O j ∧ j < wr.heap.size) ∧ j ≠ B) n b v w'
  hB : Below wr.heap.size wr w'
theorem CutP.al {wr W6 : World} {O X : Nat → Prop} {B n N2 : Nat} {b : M.Bk} {v : RV} (hN : n * n = N2) (hR : RB (fun j => ¬ (O j ∧ j < wr.heap.size) ∧ j ≠ B ∧ X j) n b v W6) (hB : Below wr.heap.size wr W6) :
    CutP wr O B n b W6.heap.size v (W6.alloc (.cells #[.slice v.pm n v.cm, .slice v.pn n v.cn, .slice v.pw N2 v.cw, .slice v.ph N2 v.ch, .slice v.pc N2 v.cc, .bool b.be] 27)) := by
  subst hN
  exact ⟨hB.size, rb_alloc W6 n b.be v, (hR.mono (fun _ _ hg => ⟨hg.1, hg.2.1⟩)).later (bel_al (Below.refl _ _) _), bel_al hB _⟩
theorem CutP.cp {wr W6 : World} {O X : Nat → Prop} {B n N2 : Nat} {b : M.Bk} {v : RV} (hN : n * n = N2) (hR : RB (fun j => ¬ (O j ∧ j < wr.heap.size) ∧ j ≠ B ∧ X j) n b v W6) (hX : ¬ X wr.heap.size) (hB : Below wr.heap.size wr W6) (hL : LB wr.heap.size 0 false v0 W6) :
    CutP wr O B n b wr.heap.size v (cpy W6 wr.heap.size n N2 b.be v.pm v.cm v.pn v.cn v.pw v.cw v.ph v.ch v.pc v.cc) :=
  ⟨Nat.le_refl _, hL.cpy hN v, (hR.cpy (fun e => hX e.2.2) _ _ _ _ _ _ _ _ _ _ _ _ _).mono (fun _ _ hg => ⟨hg.1, hg.2.1⟩), bel_cpy hB (Nat.le_refl _) _ _ _ _ _ _ _ _ _ _ _ _ _⟩
set_option maxRecDepth 100000 in
set_option maxHeartbeats 20000000 in
theorem pl_walk (zs : List Int) (p : Option Addr) (n cap : Nat) (ms : List Mv) (q : Option Addr) (m cap2 : Nat) (w : World) (hty : Ety w) (hl : zs.length = n) (hmax : n ≤ maxLen) (hc : HasI zs p w) (_ : ∀ k : Nat, zs[k]?.getD 0 < 9223372036854775808) (hl2 : ms.length = m) (hmax2 : m ≤ maxLen) (hm : HasM ms q w) :
    Calls Tryd.prog 3 #[.slice p n cap, .slice q m cap2] w fun e w' => e = .returned (.bool true) ∧ Below w.heap.size w w' := by
  by_cases h0 : M.newC zs = 0
  case neg =>
    go_enter Tryd.func3, Tryd.ntmps3
    go_wp2_with fail
    refine (rnew_err zs p n cap w hl hmax hc h0).mono ?_
    rintro e w1 ⟨rfl, hB1⟩
    simp only [rbV, v0]
    go_wp2_with fail
    obtain ⟨w2, hw2⟩ : ∃ w2, w1.alloc (.cells #[.slice none 0 0, .slice none 0 0, .slice none 0 0, .slice none 0 0, .slice none 0 0, .bool false] 27) = w2 := ⟨_, rfl⟩
    have hB2 : Below w.heap.size w w2 := by rw [← hw2]; exact bel_al hB1 _
    rw [hw2]
    refine (new_err zs p n cap w2 hl hmax (hc.later hB2) h0).mono ?_
    rintro e w3 ⟨rfl, hB3⟩
    have hB3' := bel_on hB2 hB3
    have hcd : ((M.newC zs : Int) != 0) = true := by simp; omega
    have hcd' : (M.newC zs != 0) = true := by simp; omega
    obtain ⟨c, hcc⟩ : ∃ c, M.newC zs = c := ⟨_, rfl⟩
    rw [hcc] at hcd hcd' ⊢
    have HC : Hid (¬ c = 0) := by rw [← hcc]; exact h0
    clear h0 hcc hw2 hB2 hB3 hB1
    go_wp2_with fail
    refine (err_ok c w3 (hty.later hB3')).mono ?_
    rintro e w4 ⟨rfl, hB4⟩
    have F : Hid (Below w.heap.size w w4) := bel_on hB3' hB4
    clear hB3' hB4
    go_wp2_with fail
    go_ret
    exact ⟨rfl, F.out⟩
  have HZ := M.newC_zero h0
  rw [hl] at HZ
  obtain ⟨z1, z2, z3⟩ := HZ
  have hFI : FI (fun k => k < w.heap.size) n (fun j => .int .i64 (M.mof zs j)) p w := fun j hj => by
    obtain ⟨b, off, e1, e2, e3⟩ := hc j (by omega)
    exact ⟨b, off, e1, e2, e2, e3⟩
  go_enter Tryd.func3, Tryd.ntmps3
  go_wp2_with fail
  refine (rnew_ok (G := fun _ => True) zs p n cap w hl (hFI.mono (fun _ _ _ => trivial)) h0 (fun _ _ => trivial)).mono ?_
  rintro e w1 ⟨v1, rfl, hR1, hB1⟩
  obtain ⟨N2, hN2⟩ : ∃ N2, n * n = N2 := ⟨_, rfl⟩
  have HN2 : Hid (n * n = N2) := hN2
  have H1 : Hid (RB (fun _ => True) n (M.newB (M.mof zs)) v1 w1) := hR1
  have HB1 : Hid (Below w.heap.size w w1) := hB1
  simp only [rbV]
  rw [hN2]
  clear hR1 hFI hB1 hN2
  go_wp2_with fail
  obtain ⟨w2, hw2⟩ : ∃ w2, w1.alloc (.cells #[.slice v1.pm n v1.cm, .slice v1.pn n v1.cn, .slice v1.pw N2 v1.cw, .slice v1.ph N2 v1.ch, .slice v1.pc N2 v1.cc, .bool false] 27) = w2 := ⟨_, rfl⟩
  have L2 : LB w1.heap.size n false v1 w2 := by rw [← hw2, ← HN2.out]; exact rb_alloc w1 n false v1
  have B12 : Below w1.heap.size w1 w2 := by rw [← hw2]; exact bel_al (Below.refl _ _) _
  have B2 : Below w.heap.size w w2 := bel_on HB1.out B12
  have R2 : RB (fun k => k < w1.heap.size) n (M.newB (M.mof zs)) v1 w2 := (H1.out.mono (fun k hk _ => hk)).later B12
  have lt2 := L2.lt
  have H2 : Hid (LB w1.heap.size n false v1 w2 ∧ Below w.heap.size w w2 ∧ RB (fun k => k < w1.heap.size) n (M.newB (M.mof zs)) v1 w2) := ⟨L2, B2, R2⟩
  obtain ⟨B, hBB⟩ : ∃ B, w1.heap.size = B := ⟨_, rfl⟩
  have gB : w.heap.size ≤ B := by rw [← hBB]; exact HB1.out.size
  rw [hBB] at H2 lt2
  rw [hw2, hBB]
  clear hw2 HB1 H1 L2 B12 B2 R2
  refine (new_ok zs p n cap w2 hl hmax (hc.later H2.out.2.1) h0 (O := fun k => w2.heap.size ≤ k) (fun k hk => hk)).mono ?_
  rintro e w3 ⟨S, rfl, hV3, hB3⟩
  have P3 : PI w S n B (fun k => w2.heap.size ≤ k) (M.newB (M.mof zs)) v1 w3 :=
    ⟨hV3, M.BG.new (by omega) (by omega) (fun i hi => z3 i (by omega)), (H2.out.2.2.mono (fun k hk hg => ⟨by omega, by omega⟩)).later hB3, H2.out.1.below hB3 lt2, by omega, bel_on H2.out.2.1 hB3, fun k hk => by have := H2.out.2.1.size; omega, gB⟩
  have HP : Hid (PI w S n B (fun k => w2.heap.size ≤ k) (M.newB (M.mof zs)) v1 w3) := P3
  have HM : Hid (HasM ms q w) := hm
  have HT : Hid (Ety w) := hty
  unfold maxLen at hmax2
  clear hV3 hB3 P3 H2 hm hty hc z3 h0 hBB
  go_wp2_with fail
  go_loopw [10] (fun u wr => ∃ (i : Nat) (O : Nat → Prop) (b : M.Bk) (v : RV), u = .int .i64 i ∧ i ≤ m ∧ i ≤ 100 ∧ Hid (PI w S n B O b v wr)) (fun u _ => 100 - (intOf u).toNat)
  case atStart => exact ⟨0, _, _, _, rfl, Nat.zero_le _, Nat.zero_le _, HP⟩
  case round =>
    clear HP
    obtain ⟨i, O, b, v, rfl, hi, hi2, HP⟩ := hrel
    by_cases hlt : i < m
    case neg =>
      obtain rfl : m = i := by omega
      go_wp2_with fail
      refine (way_out (-1) 0 wr HP.out.bv (Or.inl (thingZ_false (by omega)))).mono ?_
      rintro e w' ⟨rfl, rfl⟩
      go_wp2_with fail
      refine (way_out 0 (n : Int) wr HP.out.bv (Or.inr (thingZ_false (by omega)))).mono ?_
      rintro e w' ⟨rfl, rfl⟩
      go_wp2_with fail
      go_ret
      exact ⟨rfl, HP.out.bl⟩
    by_cases hlt2 : i < 100
    case neg =>
      obtain rfl : i = 100 := by omega
      have hii : (100 : Int) < m := by omega
      go_wp2_with fail
      refine (way_out (-1) 0 wr HP.out.bv (Or.inl (thingZ_false (by omega)))).mono ?_
      rintro e w' ⟨rfl, rfl⟩
      go_wp2_with fail
      refine (way_out 0 (n : Int) wr HP.out.bv (Or.inr (thingZ_false (by omega)))).mono ?_
      rintro e w' ⟨rfl, rfl⟩
      go_wp2_with fail
      go_ret
      exact ⟨rfl, HP.out.bl⟩
    have hii : (i : Int) < m := by omega
    have hi100 : (i : Int) < 100 := by omega
    obtain ⟨bq, oq, eq, hbq, c0, c1, c2, c3⟩ := (HM.out.later HP.out.bl) i (by omega)
    subst eq
    obtain ⟨⟨k, f, t, s⟩, hmv⟩ : ∃ mv, mvAt ms i = mv := ⟨_, rfl⟩
    rw [hmv] at c0 c1 c2 c3
    simp only at c0 c1 c2 c3
    have HMI : Hid (mvAt ms i = ⟨k, f, t, s⟩) := hmv
    obtain ⟨b', hb'⟩ : ∃ b', (M.mvB n b k f t s).1 = b' := ⟨_, rfl⟩
    obtain ⟨cd, hcd⟩ : ∃ cd, (M.mvB n b k f t s).2 = cd := ⟨_, rfl⟩
    obtain ⟨Z, hZ⟩ : ∃ Z : Obj, (.cells #[.slice none 0 0, .slice none 0 0, .slice none 0 0, .slice none 0 0, .slice none 0 0, .bool false] 27) = Z := ⟨_, rfl⟩
    have lB := HP.out.lb.lt
    have hmvc : ∀ W', Below wr.heap.size wr W' → Calls Tryd.prog 7 #[.agg #[.slice v.pm n v.cm, .slice v.pn n v.cn, .slice v.pw N2 v.cw, .slice v.ph N2 v.ch, .slice v.pc N2 v.cc, .bool b.be], .agg #[.int .i64 k, .int .i64 f, .int .i64 t, .int .i64 s]] W' fun e w' => ∃ v', e = .returned (.tuple #[.agg #[.slice v'.pm n v'.cm, .slice v'.pn n v'.cn, .slice v'.pw N2 v'.cw, .slice v'.ph N2 v'.ch, .slice v'.pc N2 v'.cc, .bool b'.be], .int .i64 (cd : Nat)]) ∧ Hid (RB (fun j => ¬ (O j ∧ j < wr.heap.size) ∧ j ≠ B ∧ (wr.heap.size < W'.heap.size → j ≠ wr.heap.size)) n b' v' w') ∧ Hid (Below wr.heap.size wr w') ∧ Hid (LB wr.heap.size 0 false v0 W' → LB wr.heap.size 0 false v0 w') ∧ Hid (W'.heap.size ≤ w'.heap.size) ∧ (∀ j, wr.heap.size < W'.heap.size → w'.cell? ⟨wr.heap.size, j, none⟩ = W'.cell? ⟨wr.heap.size, j, none⟩) ∧ (∀ j, wr.heap.size < W'.heap.size → w'.frozen? ⟨wr.heap.size, j, none⟩ = W'.frozen? ⟨wr.heap.size, j, none⟩) := by
      intro W' hBW
      have sW := hBW.size
      have hc := rmove_ok (G := fun j => ¬ (O j ∧ j < wr.heap.size) ∧ j ≠ B ∧ (wr.heap.size < W'.heap.size → j ≠ wr.heap.size)) v k f t s W' ((HP.out.rb.mono (fun j hj hg => ⟨fun x => hg.1 x.1, hg.2, fun _ => by omega⟩)).later hBW) (fun j hj => ⟨fun x => by omega, by omega, fun _ => by omega⟩) HP.out.bg
      rw [hb', hcd] at hc
      simp only [rbV] at hc
      rw [HN2.out] at hc
      refine hc.mono ?_
      rintro e w' ⟨v', rfl, hR', hB'⟩
      exact ⟨v', rfl, hR', bel_on hBW hB', (fun hL => hL.below hB' hL.lt : LB wr.heap.size 0 false v0 W' → LB wr.heap.size 0 false v0 w'), hB'.size, fun j hj => hB'.cell (p := ⟨wr.heap.size, j, none⟩) hj, fun j hj => hB'.frozen (p := ⟨wr.heap.size, j, none⟩) hj⟩
    have l0 := HP.out.lb.c0
    have l1 := HP.out.lb.c1
    have l2 := HP.out.lb.c2
    have l3 := HP.out.lb.c3
    have l4 := HP.out.lb.c4
    have l5 := HP.out.lb.c5
    rw [HN2.out] at l2 l3 l4
    clear hmv hZ
    go_wp2_with fail
    go_cut [11, 12] from 49 to 57 (fun u11 u12 w' => ∃ (C : Nat) (v' : RV), u11 = .pointer (some ⟨C, 0, none⟩) ∧ u12 = .int .i64 (cd : Nat) ∧ Hid (CutP wr O B n b' C v' w'))
    case first =>
      go_region_with (first | (go_at_call 7; refine (hmvc _ (by repeat first | exact Below.refl _ _ | apply bel_al | apply Below.drew)).mono ?_; rintro e w6 ⟨⟨pm6, cm6, pn6, cn6, pw6, cw6, ph6, ch6, pc6, cc6, vw6⟩, rfl, hR6, hB6, hL6, hs6, hc6, hf6⟩))
      all_goals (go_wp2_with fail; go_meet)
      all_goals first
        | (refine ⟨w6.heap.size, ⟨pm6, cm6, pn6, cn6, pw6, cw6, ph6, ch6, pc6, cc6, vw6⟩, by with_reducible rfl, rfl, ?_⟩; exact CutP.al (W6 := w6) (v := ⟨pm6, cm6, pn6, cn6, pw6, cw6, ph6, ch6, pc6, cc6, vw6⟩) HN2.out hR6.out hB6.out)
        | (refine ⟨wr.heap.size, ⟨pm6, cm6, pn6, cn6, pw6, cw6, ph6, ch6, pc6, cc6, vw6⟩, by with_reducible rfl, rfl, ?_⟩; exact CutP.cp (W6 := w6) (v := ⟨pm6, cm6, pn6, cn6, pw6, cw6, ph6, ch6, pc6, cc6, vw6⟩) HN2.out hR6.out (fun h => h ((z_alloc wr).drew).lt rfl) hB6.out (hL6.out (z_alloc wr).drew))
    case rest =>
      obtain ⟨C, v', rfl, rfl, hcp⟩ := hcut
      obtain ⟨hC, hLC0, hRC0, hBC0⟩ := hcp.out
      have hLC : Hid (LB C n b'.be v' wc) := hLC0
      have hRC : Hid (RB (fun j => ¬ (O j ∧ j < wr.heap.size) ∧ j ≠ B) n b' v' wc) := hRC0
      have hBC : Hid (Below wr.heap.size wr wc) := hBC0
      clear hLC0 hRC0 hBC0 hcp
      clear hmvc l0 l1 l2 l3 l4 l5 c0 c1 c2 c3
      have lC := hLC.out.lt
      have hCB : C ≠ B := by omega
      have y0 := hLC.out.c0
      have y1 := hLC.out.c1
      have y2 := hLC.out.c2
      have y3 := hLC.out.c3
      have y4 := hLC.out.c4
      have y5 := hLC.out.c5
      have LBc := HP.out.lb.below hBC.out lB
      have lBc := LBc.lt
      have x0 := LBc.c0
      have x1 := LBc.c1
      have x2 := LBc.c2
      have x3 := LBc.c3
      have x4 := LBc.c4
      have x5 := LBc.c5
      have g0 := LBc.fz 0
      have g1 := LBc.fz 1
      have g2 := LBc.fz 2
      have g3 := LBc.fz 3
      have g4 := LBc.fz 4
      have g5 := LBc.fz 5
      obtain ⟨w8, hw8⟩ : ∃ w8, cpy wc B n N2 b'.be v'.pm v'.cm v'.pn v'.cn v'.pw v'.cw v'.ph v'.ch v'.pc v'.cc = w8 := ⟨_, rfl⟩
      have L8 : LB B n b'.be v' w8 := by rw [← hw8]; exact LBc.cpy HN2.out v'
      have R8 : RB (fun j => ¬ (O j ∧ j < wr.heap.size) ∧ j ≠ B) n b' v' w8 := by rw [← hw8]; exact hRC.out.cpy (fun e => e.2 rfl) _ _ _ _ _ _ _ _ _ _ _ _ _
      have FC : Frm (fun j => j = B) wc w8 := by
        rw [← hw8]
        exact ((((((Frm.refl (fun j => j = B) wc).set (p := ⟨B, 0, none⟩) rfl _).set (p := ⟨B, 1, none⟩) rfl _).set (p := ⟨B, 2, none⟩) rfl _).set (p := ⟨B, 3, none⟩) rfl _).set (p := ⟨B, 4, none⟩) rfl _).set (p := ⟨B, 5, none⟩) rfl _
      have V8 : BV (fun j => O j ∧ j < wr.heap.size) S n b w8 := ((HP.out.bv.mono (O' := fun j => O j ∧ j < wr.heap.size) (fun j hj ho => ⟨ho, hj⟩)).below hBC.out).frm FC (fun j ho e => HP.out.nb (e ▸ ho.1))
      have B8 : Below w.heap.size w w8 := by rw [← hw8]; exact bel_cpy (HP.out.bl.trans (hBC.out.mono HP.out.bl.size)) HP.out.gt _ _ _ _ _ _ _ _ _ _ _ _ _
      have s8 : wr.heap.size ≤ w8.heap.size := by have h1 := FC.size; have h2 := hBC.out.size; omega
      obtain ⟨O2, hO2⟩ : ∃ O2 : Nat → Prop, O2 = fun j => (O j ∧ j < wr.heap.size) ∨ w8.heap.size ≤ j := ⟨_, rfl⟩
      have V8' : BV O2 S n b w8 := V8.mono (fun j _ ho => by rw [hO2]; exact .inl ho)
      have R8' : RB (fun j => ¬ O2 j ∧ j ≠ B) n b' v' w8 := R8.mono (fun j hj hg => by rw [hO2]; exact ⟨fun x => x.elim hg.1 (fun y => by omega), hg.2⟩)
      have hO2f : ∀ j, w8.heap.size ≤ j → O2 j := fun j hj => by rw [hO2]; exact .inr hj
      have hO2l : ∀ j, j < w.heap.size → ¬ O2 j := fun j hj => by
        have h9 := B8.size
        rw [hO2]
        intro x
        rcases x with y | y
        · exact HP.out.ol j hj y.1
        · omega
      have nB2 : ¬ O2 B := by
        have h9 := L8.lt
        rw [hO2]
        intro x
        rcases x with y | y
        · exact HP.out.nb y.1
        · omega
      have G8 : M.BG n b' := by rw [← hb']; exact HP.out.bg.mv k f t s
      have hdo : Calls Tryd.prog 8 #[.pointer (some ⟨S, 0, none⟩), .agg #[.int .i64 k, .int .i64 f, .int .i64 t, .int .i64 s]] w8.drew fun e w' => e = .returned (terr cd) ∧ Hid (PI w S n B O2 b' v' w') := by
        have hd := do_ok k f t s w8.drew (show BV O2 S n b w8.drew from V8'.below (Below.refl _ w8).drew) hO2f HP.out.bg
        rw [hb', hcd] at hd
        refine hd.mono ?_
        rintro e w' ⟨rfl, hV', hF'⟩
        have hF8 : Frm O2 w8 w' := (Frm.of_below (Below.refl _ w8).drew).trans hF'
        exact ⟨rfl, hV', G8, R8'.frm hF8 (fun j hg => hg.1), World.rowIs.of_block L8 (hF8.block _ L8.lt nB2), nB2, B8.trans (hF8.below B8.size hO2l), hO2l, HP.out.gt⟩
      have hrest : ∀ w', Hid (PI w S n B O2 b' v' w') → Calls Tryd.prog 6 #[terr cd, .int .i64 (cd : Nat)] w' fun e w'' => e = .returned (.bool true) ∧ Hid (PI w S n B O2 b' v' w'') ∧ w''.cell? ⟨B, 0, none⟩ = some (.slice v'.pm n v'.cm) := by
        intro w' hp
        refine (err_ok cd w' (HT.out.later hp.out.bl)).mono ?_
        rintro e w'' ⟨rfl, hB''⟩
        exact ⟨rfl, hp.out.later hB'', (hp.out.later hB'').lb.c0⟩
      have hmon : ∀ w', Hid (PI w S n B O2 b' v' w') → Calls Tryd.prog 10 #[.pointer (some ⟨S, 0, none⟩)] w' fun e w'' => ∃ ad, e = .returned (.slice ad n n) ∧ Hid (HasI (M.mol n b') ad w'') ∧ Hid (PI w S n B O2 b' v' w'') ∧ w''.cell? ⟨B, 0, none⟩ = some (.slice v'.pm n v'.cm) := by
        intro w' hp
        refine (money_ok w' hp.out.bv (by omega)).mono ?_
        rintro e w'' ⟨ad, rfl, hI, hB''⟩
        exact ⟨ad, rfl, hI, hp.out.later hB'', (hp.out.later hB'').lb.c0⟩
      have hint : ∀ w' ad, Hid (HasI (M.mol n b') ad w') → Hid (PI w S n B O2 b' v' w') → Calls Tryd.prog 9 #[.slice ad n n, .slice v'.pm n v'.cm] w' fun e w'' => e = .returned (.bool true) ∧ Hid (PI w S n B O2 b' v' w'') := by
        intro w' ad hI hp
        refine (same_intsI (M.mol n b') ad v'.pm n n v'.cm w' (M.mol_length n b') (by unfold maxLen; omega) hI.out (hp.out.rb.mo.hasI (M.mol_length n b') (fun j hj => by rw [M.mol_at b' hj]))).mono ?_
        rintro e w'' ⟨rfl, hB''⟩
        exact ⟨rfl, hp.out.later hB''⟩
      obtain ⟨c0, c1, c2, c3⟩ : w8.cell? ⟨bq, oq + i * 4, none⟩ = some (.int .i64 k) ∧ w8.cell? ⟨bq, oq + i * 4 + 1, none⟩ = some (.int .i64 f) ∧ w8.cell? ⟨bq, oq + i * 4 + 2, none⟩ = some (.int .i64 t) ∧ w8.cell? ⟨bq, oq + i * 4 + 3, none⟩ = some (.int .i64 s) := by
        obtain ⟨b9, o9, e9, _, d0, d1, d2, d3⟩ := (HM.out.later B8) i (by omega)
        cases e9
        rw [HMI.out] at d0 d1 d2 d3
        exact ⟨d0, d1, d2, d3⟩
      have hbq8 : bq < w8.heap.size := World.block_lt_of_cell? _ _ c0
      obtain ⟨pm, cm, pn, cn, pw, cw, ph, ch, pc, cc, vw⟩ := v'
      simp only [cpy] at hw8
      simp only at y0 y1 y2 y3 y4 hrest hmon hint
      rw [HN2.out] at y2 y3 y4
      clear hLC hRC hBC LBc L8 R8 FC V8 B8 V8' R8' hO2f hO2l nB2 G8 HP hO2 hb' hcd hii hi100 s8
      go_wp2_with fail
      clear x0 x1 x2 x3 x4 x5 g0 g1 g2 g3 g4 g5 y0 y1 y2 y3 y4 y5 hw8
      have hii : (i : Int) < m := by omega
      go_cut [75] from 59 to 74 (fun u w' => u = .bool false ∧ Hid (PI w S n B O2 b' ⟨pm, cm, pn, cn, pw, cw, ph, ch, pc, cc, vw⟩ w'))
      case first =>
        go_region_with (first | (go_at_call 8; refine hdo.mono ?_; rintro e wA ⟨rfl, hPA⟩) | (go_at_call 6; refine (hrest _ hPA).mono ?_; rintro e wB ⟨rfl, hPB, hcB⟩) | (go_at_call 10; refine (hmon _ hPB).mono ?_; rintro e wC ⟨ad, rfl, hIC, hPC, hcC⟩) | (go_at_call 9; refine (hint _ _ hIC hPC).mono ?_; rintro e wD ⟨rfl, hPD⟩))
        all_goals (go_wp2_with fail; go_meet)
        all_goals exact ⟨rfl, hPD⟩
      case rest =>
        obtain ⟨rfl, hP2⟩ := hcut
        clear hdo hrest hmon hint c0 c1 c2 c3 hbq8
        obtain ⟨w3', hw3'⟩ : ∃ w3', w3' = wc := ⟨_, rfl⟩
        subst hw3'
        have G2 : Hid (M.BG n b') := hP2.out.bg
        have k5 : ∀ w', Hid (PI w S n B O2 b' ⟨pm, cm, pn, cn, pw, cw, ph, ch, pc, cc, vw⟩ w') → Hid (LB B n b'.be ⟨pm, cm, pn, cn, pw, cw, ph, ch, pc, cc, vw⟩ w') := fun w' h => h.out.lb
        by_cases hA : M.AllN n b'
        · have HA : Hid (M.AllN n b') := hA
          clear hA
          go_wp2_with fail
          refine (noted_yes w3' hP2.out.bv (by omega) HA.out).mono ?_
          rintro e w4 ⟨q1, d1, q2, d2, rfl, hI4, hR4, hB4⟩
          have P4 : Hid (PI w S n B O2 b' ⟨pm, cm, pn, cn, pw, cw, ph, ch, pc, cc, vw⟩ w4) := hP2.out.later hB4
          have I4 : Hid (HasI (M.nol n b') q1 w4) := hI4
          have R4 : Hid (HasRZ (M.cal n b') n q2 w4) := hR4
          clear hP2 hB4 hI4 hR4
          have l0 := (k5 _ P4).out.c0
          have l1 := (k5 _ P4).out.c1
          have l2 := (k5 _ P4).out.c2
          have l3 := (k5 _ P4).out.c3
          have l4 := (k5 _ P4).out.c4
          have l5 := (k5 _ P4).out.c5
          simp only at l0 l1 l2 l3 l4
          rw [HN2.out] at l2 l3 l4
          have hall := rall_ok b'.be ⟨pm, cm, pn, cn, pw, cw, ph, ch, pc, cc, vw⟩ w4 P4.out.rb G2.out true ⟨fun _ => HA.out, fun _ => rfl⟩
          simp only [rbV] at hall
          rw [HN2.out] at hall
          go_wp2_with fail
          refine hall.mono ?_
          rintro e w5 ⟨rfl, hB5⟩
          have P5 : Hid (PI w S n B O2 b' ⟨pm, cm, pn, cn, pw, cw, ph, ch, pc, cc, vw⟩ w5) := P4.out.later hB5
          have I5 : Hid (HasI (M.nol n b') q1 w5) := I4.out.later hB5
          have R5 : Hid (HasRZ (M.cal n b') n q2 w5) := R4.out.later hB5
          have l1' := (k5 _ P5).out.c1
          simp only at l1'
          clear hall l0 l1 l2 l3 l4 l5 P4 I4 R4 hB5
          go_wp2_with fail
          refine (same_intsI (M.nol n b') q1 pn n d1 cn w5 (M.nol_length n b') (by unfold maxLen; omega) I5.out (P5.out.rb.no.hasI (M.nol_length n b') (fun j hj => by rw [M.nol_at b' hj]))).mono ?_
          rintro e w6 ⟨rfl, hB6⟩
          have P6 : Hid (PI w S n B O2 b' ⟨pm, cm, pn, cn, pw, cw, ph, ch, pc, cc, vw⟩ w6) := P5.out.later hB6
          have R6 : Hid (HasRZ (M.cal n b') n q2 w6) := R5.out.later hB6
          clear P5 I5 R5 l1' hB6
          go_wp2_with fail
          go_loopw [16] (fun u wr => ∃ a : Nat, u = .int .i64 a ∧ a ≤ n ∧ Below w6.heap.size w6 wr) (fun u _ => n - (intOf u).toNat)
          case atStart => exact ⟨0, rfl, Nat.zero_le _, Below.refl _ _⟩
          case round =>
            obtain ⟨a, rfl, ha, hBa⟩ := hrel
            by_cases han : a < n
            · have hai : (a : Int) < n := by omega
              have PA : Hid (PI w S n B O2 b' ⟨pm, cm, pn, cn, pw, cw, ph, ch, pc, cc, vw⟩ wr) := P6.out.later hBa
              have HBa : Hid (Below w6.heap.size w6 wr) := hBa
              have l4 := (k5 _ PA).out.c4
              simp only at l4
              rw [HN2.out] at l4
              have lB := (k5 _ PA).out.lt
              obtain ⟨mm, hmm⟩ : ∃ mm, a * n = mm := ⟨_, rfl⟩
              have hmn : mm + n ≤ N2 := by rw [← HN2.out, ← hmm, ← Nat.succ_mul]; exact Nat.mul_le_mul_right _ han
              have hN25 : N2 ≤ 25 := by
                have h1 := Nat.mul_le_mul z2 z2
                have h2 := HN2.out
                omega
              have hmi : (a : Int) * (n : Int) = (mm : Int) := by rw [← hmm]; exact (Int.natCast_mul a n).symm
              have hwm : IntKind.i64.wrap (mm : Int) = (mm : Int) := by rw [IntKind.wrap_i64]; omega
              have HMM : Hid (a * n = mm) := hmm
              obtain ⟨wo, hwo⟩ : ∃ wo, wo = wr := ⟨_, rfl⟩
              subst hwo
              obtain ⟨bx, ox, qx, dx, ex, hbx, cxx, hIx⟩ := (R6.out.later hBa) a han
              subst ex
              rw [M.cal_length] at cxx
              obtain ⟨bc, oc, ec, hbc, _, hcc⟩ := PA.out.rb.ca.at_ (by rw [HN2.out]; omega)
              have ec' : pc = some ⟨bc, oc, none⟩ := ec
              subst ec'
              have hccp := PA.out.rb.cc
              simp only at hccp
              rw [HN2.out] at hccp
              obtain ⟨hcc1, hcc2⟩ := hccp
              unfold maxLen at hcc2
              obtain ⟨ee, hee⟩ : ∃ ee, mm + n = ee := ⟨_, rfl⟩
              have hei : (mm : Int) + (n : Int) = (ee : Int) := by omega
              have hwe : IntKind.i64.wrap (ee : Int) = (ee : Int) := by rw [IntKind.wrap_i64]; omega
              have q1 : mm ≤ ee := by omega
              have q2 : ee ≤ cc := by omega
              have q3 : ee - mm = n := by omega
              have q4 : (mm : Int) ≤ (ee : Int) := by omega
              have q5 : (ee : Int) ≤ (cc : Int) := by omega
              have hA9 : (if cc = mm then some (⟨bc, oc, none⟩ : Addr) else some ⟨bc, oc + mm, none⟩) = some ⟨bc, oc + mm, none⟩ := if_neg (by omega)
              have hI2 : HasI (M.cal n b' a) (some ⟨bc, oc + mm, none⟩) wo := fun j hj => ⟨bc, oc + mm, rfl, hbc, by
                rw [M.cal_length] at hj
                rw [M.cal_at b' a hj, show oc + mm + j = oc + (mm + j) by omega, ← HMM.out, hcc (a * n + j) (pair_lt han hj), pair_div a hj, pair_mod a hj]⟩
              have HI1 : Hid (HasI (M.cal n b' a) qx wo) := hIx
              have HI2 : Hid (HasI (M.cal n b' a) (some ⟨bc, oc + mm, none⟩) wo) := hI2
              clear hmm ec hcc hIx hI2 hee hBa
              go_wp2_with fail
              go_still_tail 17, (by kernel_rfl)
              go_wp2_with fail
              refine (same_intsI (M.cal n b' a) qx (some ⟨bc, oc + mm, none⟩) n dx (cc - mm) wo.drew (M.cal_length n b' a) (by unfold maxLen; omega) HI1.out HI2.out).mono ?_
              rintro e w9 ⟨rfl, hB9⟩
              have HB9 : Hid (Below wo.heap.size wo w9) := (Below.refl _ wo).drew.trans hB9
              clear hB9 HI1 HI2 cxx l4 hA9
              go_wp2_with fail
              go_loopw [17] (fun u wr => ∃ c : Nat, u = .int .i64 c ∧ c ≤ n ∧ Below wo.heap.size wo wr) (fun u _ => n - (intOf u).toNat)
              case atStart => exact ⟨0, rfl, Nat.zero_le _, HB9.out⟩
              case round =>
                obtain ⟨c, rfl, hcn, hBc⟩ := hrel
                by_cases hcl : c < n
                · have hci : (c : Int) < n := by omega
                  have PC : Hid (PI w S n B O2 b' ⟨pm, cm, pn, cn, pw, cw, ph, ch, some ⟨bc, oc, none⟩, cc, vw⟩ wr) := PA.out.later hBc
                  have l2' := (k5 _ PC).out.c2
                  simp only at l2'
                  rw [HN2.out] at l2'
                  have lB' := (k5 _ PC).out.lt
                  obtain ⟨x, hx⟩ : ∃ x, mm + c = x := ⟨_, rfl⟩
                  have hxi : (mm : Int) + (c : Int) = (x : Int) := by omega
                  have hx2 : x < N2 := by omega
                  have hx2' : (x : Int) < (N2 : Int) := by omega
                  have hwx : IntKind.i64.wrap (x : Int) = (x : Int) := by rw [IntKind.wrap_i64]; omega
                  have HX : Hid (a * n + c = x) := by show a * n + c = x; rw [HMM.out]; exact hx
                  obtain ⟨bw, ow, ew, hbw, _, hcw⟩ := PC.out.rb.wy.at_ (by rw [HN2.out]; omega)
                  have ew' : pw = some ⟨bw, ow, none⟩ := ew
                  subst ew'
                  have cxw : wr.cell? ⟨bw, ow + x, none⟩ = some (vw x) := hcw x (by rw [HN2.out]; exact hx2)
                  obtain ⟨ad, c1, e1, e2, e3, e4, e5⟩ := PC.out.rb.wv a c han hcl
                  have e1' : vw x = .slice ad (b'.wy a c).length c1 := by rw [← HX.out]; exact e1
                  rw [e1'] at cxw
                  have HL9 : Hid ((b'.wy a c).length ≤ 9) := G2.out.cnt a c
                  obtain ⟨l, hll⟩ : ∃ l, b'.wy a c = l := ⟨_, rfl⟩
                  have hway : Calls Tryd.prog 13 #[.pointer (some ⟨S, 0, none⟩), .int .i64 a, .int .i64 c] wr.drew fun e w' => ∃ ad2 c9, e = .returned (.slice ad2 (b'.wy a c).length c9) ∧ Hid (HasI (b'.wy a c) ad2 w') ∧ Hid (Below wr.heap.size wr w') ∧ w'.cell? ⟨B, 2, none⟩ = some (.slice (some ⟨bw, ow, none⟩) N2 cw) ∧ w'.cell? ⟨bw, ow + x, none⟩ = some (.slice ad (b'.wy a c).length c1) := by
                    refine (way_ok a c wr.drew (show BV O2 S n b' wr.drew from PC.out.bv.below (Below.refl _ wr).drew) G2.out han hcl).mono ?_
                    rintro e w' ⟨ad2, c9, rfl, hI, hB'⟩
                    have hB2 : Below wr.heap.size wr w' := (Below.refl _ wr).drew.trans hB'
                    exact ⟨ad2, c9, rfl, hI, hB2, (hB2.cell (p := ⟨B, 2, none⟩) lB').trans l2', (hB2.cell (p := ⟨bw, ow + x, none⟩) hbw).trans cxw⟩
                  have hint2 : ∀ w' ad2 c9, Hid (HasI (b'.wy a c) ad2 w') → Hid (Below wr.heap.size wr w') → Calls Tryd.prog 9 #[.slice ad2 (b'.wy a c).length c9, .slice ad (b'.wy a c).length c1] w' fun e w'' => e = .returned (.bool true) ∧ Hid (Below wr.heap.size wr w'') := by
                    intro w' ad2 c9 hI hB'
                    refine (same_intsI (b'.wy a c) ad2 ad (b'.wy a c).length c9 c1 w' rfl (by have := HL9.out; unfold maxLen; omega) hI.out ((e5.later hB'.out).hasI rfl (fun j _ => rfl))).mono ?_
                    rintro e w'' ⟨rfl, hB''⟩
                    exact ⟨rfl, bel_on hB'.out hB''⟩
                  rw [hll] at hway hint2 cxw
                  have HBc : Hid (Below wo.heap.size wo wr) := hBc
                  clear e1 e2 e3 e4 e5 e1' hcw ew hx hll PC hBc
                  obtain ⟨wi, hwi⟩ : ∃ wi, wi = wr := ⟨_, rfl⟩
                  subst hwi
                  go_wp2_with fail
                  go_cut [160] from 146 to 159 (fun u w' => u = .bool false ∧ Hid (Below wi.heap.size wi w'))
                  case first =>
                    go_region_with (first | (go_at_call 13; refine hway.mono ?_; rintro e wA ⟨ad2, c9, rfl, hIA, hBA, hcA, hdA⟩) | (go_at_call 9; refine (hint2 _ _ _ hIA hBA).mono ?_; rintro e wD ⟨rfl, hBD⟩))
                    all_goals (go_wp2_with fail; go_meet)
                    all_goals exact ⟨rfl, hBD⟩
                  case rest =>
                    obtain ⟨rfl, hBD⟩ := hcut
                    have HBD : Hid (Below wo.heap.size wo wc) := bel_on HBc.out hBD.out
                    clear hway hint2 cxw l2'
                    go_wp2_with fail
                    go_roundw
                    case rel => exact ⟨c + 1, by go_num, by omega, HBD.out⟩
                    case measure => simp [intOf]; omega
                · obtain rfl : n = c := by omega
                  have HBn : Hid (Below w6.heap.size w6 wr) := bel_on HBa.out hBc
                  clear hBc
                  go_wp2_with fail
                  go_roundw
                  case rel => exact ⟨a + 1, by go_num, by omega, HBn.out⟩
                  case measure => simp [intOf]; omega
            · obtain rfl : n = a := by omega
              have PE : Hid (PI w S n B O2 b' ⟨pm, cm, pn, cn, pw, cw, ph, ch, pc, cc, vw⟩ wr) := P6.out.later hBa
              clear hBa P6
              go_wp2_with fail
              go_roundw
              case rel => exact ⟨i + 1, O2, b', _, by go_num, by omega, by omega, PE⟩
              case measure => simp [intOf]; omega
        · have HA : Hid (¬ M.AllN n b') := hA
          clear hA
          go_wp2_with fail
          refine (noted_no w3' hP2.out.bv (by omega) HA.out).mono ?_
          rintro e w4 ⟨rfl, hB4⟩
          have P4 : Hid (PI w S n B O2 b' ⟨pm, cm, pn, cn, pw, cw, ph, ch, pc, cc, vw⟩ w4) := hP2.out.later hB4
          clear hP2 hB4
          have l0 := (k5 _ P4).out.c0
          have l1 := (k5 _ P4).out.c1
          have l2 := (k5 _ P4).out.c2
          have l3 := (k5 _ P4).out.c3
          have l4 := (k5 _ P4).out.c4
          have l5 := (k5 _ P4).out.c5
          simp only at l0 l1 l2 l3 l4
          rw [HN2.out] at l2 l3 l4
          have hall := rall_ok b'.be ⟨pm, cm, pn, cn, pw, cw, ph, ch, pc, cc, vw⟩ w4 P4.out.rb G2.out false ⟨fun e => absurd e Bool.noConfusion, fun e => absurd e HA.out⟩
          simp only [rbV] at hall
          rw [HN2.out] at hall
          go_wp2_with fail
          refine hall.mono ?_
          rintro e w6 ⟨rfl, hB5⟩
          have P6 : Hid (PI w S n B O2 b' ⟨pm, cm, pn, cn, pw, cw, ph, ch, pc, cc, vw⟩ w6) := P4.out.later hB5
          clear hall l0 l1 l2 l3 l4 l5 P4 hB5
          go_wp2_with fail
          go_loopw [16] (fun u wr => ∃ a : Nat, u = .int .i64 a ∧ a ≤ n ∧ Below w6.heap.size w6 wr) (fun u _ => n - (intOf u).toNat)
          case atStart => exact ⟨0, rfl, Nat.zero_le _, Below.refl _ _⟩
          case round =>
            obtain ⟨a, rfl, ha, hBa⟩ := hrel
            by_cases han : a < n
            · have hai : (a : Int) < n := by omega
              have PA : Hid (PI w S n B O2 b' ⟨pm, cm, pn, cn, pw, cw, ph, ch, pc, cc, vw⟩ wr) := P6.out.later hBa
              have HBa : Hid (Below w6.heap.size w6 wr) := hBa
              have lB := (k5 _ PA).out.lt
              obtain ⟨mm, hmm⟩ : ∃ mm, a * n = mm := ⟨_, rfl⟩
              have hmn : mm + n ≤ N2 := by rw [← HN2.out, ← hmm, ← Nat.succ_mul]; exact Nat.mul_le_mul_right _ han
              have hN25 : N2 ≤ 25 := by
                have h1 := Nat.mul_le_mul z2 z2
                have h2 := HN2.out
                omega
              have hmi : (a : Int) * (n : Int) = (mm : Int) := by rw [← hmm]; exact (Int.natCast_mul a n).symm
              have hwm : IntKind.i64.wrap (mm : Int) = (mm : Int) := by rw [IntKind.wrap_i64]; omega
              have HMM : Hid (a * n = mm) := hmm
              obtain ⟨wo, hwo⟩ : ∃ wo, wo = wr := ⟨_, rfl⟩
              subst hwo
              clear hmm hBa
              go_wp2_with fail
              go_big_quiet (fail)
              go_wp2_with fail
              go_loopw [17] (fun u wr => ∃ c : Nat, u = .int .i64 c ∧ c ≤ n ∧ Below wo.heap.size wo wr) (fun u _ => n - (intOf u).toNat)
              case atStart => exact ⟨0, rfl, Nat.zero_le _, below_drewN _ _⟩
              case round =>
                obtain ⟨c, rfl, hcn, hBc⟩ := hrel
                by_cases hcl : c < n
                · have hci : (c : Int) < n := by omega
                  have PC : Hid (PI w S n B O2 b' ⟨pm, cm, pn, cn, pw, cw, ph, ch, pc, cc, vw⟩ wr) := PA.out.later hBc
                  have l2' := (k5 _ PC).out.c2
                  simp only at l2'
                  rw [HN2.out] at l2'
                  have lB' := (k5 _ PC).out.lt
                  obtain ⟨x, hx⟩ : ∃ x, mm + c = x := ⟨_, rfl⟩
                  have hxi : (mm : Int) + (c : Int) = (x : Int) := by omega
                  have hx2 : x < N2 := by omega
                  have hx2' : (x : Int) < (N2 : Int) := by omega
                  have hwx : IntKind.i64.wrap (x : Int) = (x : Int) := by rw [IntKind.wrap_i64]; omega
                  have HX : Hid (a * n + c = x) := by show a * n + c = x; rw [HMM.out]; exact hx
                  obtain ⟨bw, ow, ew, hbw, _, hcw⟩ := PC.out.rb.wy.at_ (by rw [HN2.out]; omega)
                  have ew' : pw = some ⟨bw, ow, none⟩ := ew
                  subst ew'
                  have cxw : wr.cell? ⟨bw, ow + x, none⟩ = some (vw x) := hcw x (by rw [HN2.out]; exact hx2)
                  obtain ⟨ad, c1, e1, e2, e3, e4, e5⟩ := PC.out.rb.wv a c han hcl
                  have e1' : vw x = .slice ad (b'.wy a c).length c1 := by rw [← HX.out]; exact e1
                  rw [e1'] at cxw
                  have HL9 : Hid ((b'.wy a c).length ≤ 9) := G2.out.cnt a c
                  obtain ⟨l, hll⟩ : ∃ l, b'.wy a c = l := ⟨_, rfl⟩
                  have hway : Calls Tryd.prog 13 #[.pointer (some ⟨S, 0, none⟩), .int .i64 a, .int .i64 c] wr.drew fun e w' => ∃ ad2 c9, e = .returned (.slice ad2 (b'.wy a c).length c9) ∧ Hid (HasI (b'.wy a c) ad2 w') ∧ Hid (Below wr.heap.size wr w') ∧ w'.cell? ⟨B, 2, none⟩ = some (.slice (some ⟨bw, ow, none⟩) N2 cw) ∧ w'.cell? ⟨bw, ow + x, none⟩ = some (.slice ad (b'.wy a c).length c1) := by
                    refine (way_ok a c wr.drew (show BV O2 S n b' wr.drew from PC.out.bv.below (Below.refl _ wr).drew) G2.out han hcl).mono ?_
                    rintro e w' ⟨ad2, c9, rfl, hI, hB'⟩
                    have hB2 : Below wr.heap.size wr w' := (Below.refl _ wr).drew.trans hB'
                    exact ⟨ad2, c9, rfl, hI, hB2, (hB2.cell (p := ⟨B, 2, none⟩) lB').trans l2', (hB2.cell (p := ⟨bw, ow + x, none⟩) hbw).trans cxw⟩
                  have hint2 : ∀ w' ad2 c9, Hid (HasI (b'.wy a c) ad2 w') → Hid (Below wr.heap.size wr w') → Calls Tryd.prog 9 #[.slice ad2 (b'.wy a c).length c9, .slice ad (b'.wy a c).length c1] w' fun e w'' => e = .returned (.bool true) ∧ Hid (Below wr.heap.size wr w'') := by
                    intro w' ad2 c9 hI hB'
                    refine (same_intsI (b'.wy a c) ad2 ad (b'.wy a c).length c9 c1 w' rfl (by have := HL9.out; unfold maxLen; omega) hI.out ((e5.later hB'.out).hasI rfl (fun j _ => rfl))).mono ?_
                    rintro e w'' ⟨rfl, hB''⟩
                    exact ⟨rfl, bel_on hB'.out hB''⟩
                  rw [hll] at hway hint2 cxw
                  have HBc : Hid (Below wo.heap.size wo wr) := hBc
                  clear e1 e2 e3 e4 e5 e1' hcw ew hx hll PC hBc
                  obtain ⟨wi, hwi⟩ : ∃ wi, wi = wr := ⟨_, rfl⟩
                  subst hwi
                  go_wp2_with fail
                  go_cut [160] from 146 to 159 (fun u w' => u = .bool false ∧ Hid (Below wi.heap.size wi w'))
                  case first =>
                    go_region_with (first | (go_at_call 13; refine hway.mono ?_; rintro e wA ⟨ad2, c9, rfl, hIA, hBA, hcA, hdA⟩) | (go_at_call 9; refine (hint2 _ _ _ hIA hBA).mono ?_; rintro e wD ⟨rfl, hBD⟩))
                    all_goals (go_wp2_with fail; go_meet)
                    all_goals exact ⟨rfl, hBD⟩
                  case rest =>
                    obtain ⟨rfl, hBD⟩ := hcut
                    have HBD : Hid (Below wo.heap.size wo wc) := bel_on HBc.out hBD.out
                    clear hway hint2 cxw l2'
                    go_wp2_with fail
                    go_roundw
                    case rel => exact ⟨c + 1, by go_num, by omega, HBD.out⟩
                    case measure => simp [intOf]; omega
                · obtain rfl : n = c := by omega
                  have HBn : Hid (Below w6.heap.size w6 wr) := bel_on HBa.out hBc
                  clear hBc
                  go_wp2_with fail
                  go_roundw
                  case rel => exact ⟨a + 1, by go_num, by omega, HBn.out⟩
                  case measure => simp [intOf]; omega
            · obtain rfl : n = a := by omega
              have PE : Hid (PI w S n B O2 b' ⟨pm, cm, pn, cn, pw, cw, ph, ch, pc, cc, vw⟩ wr) := P6.out.later hBa
              clear hBa P6
              go_wp2_with fail
              go_roundw
              case rel => exact ⟨i + 1, O2, b', _, by go_num, by omega, by omega, PE⟩
              case measure => simp [intOf]; omega
end Go.Proofs.YtplplgpfglaajaaDoor
