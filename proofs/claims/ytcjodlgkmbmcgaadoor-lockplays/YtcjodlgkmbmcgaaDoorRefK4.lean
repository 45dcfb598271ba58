/- A deed at the document's own locks (whensteadref3.Lock): to free, to act; written by mk_refk3.py. -/
import Derived.Test.YtcjodlgkmbmcgaaDoorRefK3
import Derived.Test.YtcjodlgkmbmcgaaDoorSca
namespace Go.Proofs.YtcjodlgkmbmcgaaDoor
open Go.RowKit
theorem RA.cells {G : Nat → Prop} {l : List M.SAct} {p : Option Addr} {c : Nat} {w : World} (h : RA G l p c w) : ∀ ad, p = some ad → ∀ j u, (acells l)[j]? = some u → w.cell? (ad.add j) = some u := fun ad e j u hu => by
  by_cases h0 : l.length = 0
  · have : l = [] := List.eq_nil_of_length_eq_zero h0
    subst this
    simp [acells] at hu
  · obtain ⟨b, off, e1, _, _⟩ := h.act 0 (by omega)
    rw [e] at e1
    cases e1
    exact hasAc_cells (e ▸ h.has) j u hu
theorem ra_of_owns {w : World} {base n c : Nat} {p : Option Addr} {l : List M.SAct} (hl : l.length = n) (h : w.ownsRow base 38 3 (.slice p n c) n (acells l)) : RA (fun k => base ≤ k) l p c w := by
  have ha := hasAc_of_owns hl h
  refine ⟨fun e => ?_, ?_, fun j hj => ?_⟩
  · rcases h.2 with ⟨e2, h0⟩ | ⟨g, cap, cur, e2, _⟩
    · cases e2; exact ⟨hl, rfl⟩
    · cases e2; cases e
  · rcases h.2 with ⟨e2, h0⟩ | ⟨g, cap, cur, e2, _, _, h1, h2, _⟩
    · cases e2; exact ⟨by omega, Nat.zero_le _⟩
    · cases e2; exact ⟨by omega, h2⟩
  · obtain ⟨b, off, e1, h1⟩ := ha j (by rw [az_len]; exact hj)
    rw [aAt_az] at h1
    refine ⟨b, off, e1, ?_, h1⟩
    rcases h.2 with ⟨e2, h0⟩ | ⟨g, cap, cur, e2, hb, _⟩
    · cases e2; cases e1
    · cases e2; cases e1; exact hb

set_option maxRecDepth 100000 in
set_option maxHeartbeats 8000000 in
theorem rl_nofree {G : Nat → Prop} {s : M.Lk} (v : LV) (t o : Nat) (x : Int) (w : World) (hR : RL G s v w) (hG : ∀ j, w.heap.size ≤ j → G j) (hS : M.LG s) (ht : t < 5) (ho : o < 4) (h0 : s.hd t o = 0) :
    Calls Tryd.prog 19 #[rlV s v, dV 2 (t : Nat) (o : Nat) x] w fun e w' => ∃ v', e = .returned (.tuple #[rlV s v', .int .i64 ((5 : Nat) : Int)]) ∧ RL G s v' w' ∧ Below w.heap.size w w' := by
  have hKS := ks_begin (d := ⟨2, (t : Nat), (o : Nat), x⟩) hR hG
  obtain ⟨N, hN⟩ : ∃ N, w.heap.size = N := ⟨_, rfl⟩
  obtain ⟨G', hG'⟩ : ∃ G' : Nat → Prop, (fun j => G j ∧ j ≠ w.heap.size ∧ j ≠ w.heap.size + 1 ∧ j ≠ w.heap.size + 2) = G' := ⟨_, rfl⟩
  have HGG : Hid (∀ j, G' j → G j) := by rw [← hG']; exact fun j hj => hj.1
  rw [hG', hN] at hKS
  rw [hN]
  obtain ⟨ph, ch, pw, cw, pa, ca⟩ := v
  simp only at hKS
  obtain ⟨w2, hw2⟩ : ∃ w2, ((w.alloc (.cells #[.slice ph 20 ch, .slice pw 5 cw, .int .i64 (M.frS s : Nat), .slice pa s.ac.length ca] 46)).alloc (.cells #[.int .i64 2, .int .i64 (t : Nat), .int .i64 (o : Nat), .int .i64 x] 30)).alloc (.cells #[.slice none 0 0, .slice none 0 0, .int .i64 0, .slice none 0 0] 46) = w2 := ⟨_, rfl⟩
  rw [hw2] at hKS
  have HS : Hid (KS N G' ⟨2, (t : Nat), (o : Nat), x⟩ s ⟨ph, ch, pw, cw, pa, ca⟩ w w2) := hKS
  have l0 := hKS.lb.c0
  have l1 := hKS.lb.c1
  have l2 := hKS.lb.c2
  have l3 := hKS.lb.c3
  have f0 := hKS.lb.fz 0
  have f1 := hKS.lb.fz 1
  have f2 := hKS.lb.fz 2
  have f3 := hKS.lb.fz 3
  simp only at l0 l1 l3
  have d0 := hKS.db.c0
  have d1 := hKS.db.c1
  have d2 := hKS.db.c2
  have d3 := hKS.db.c3
  simp only [Nat.zero_add] at d0 d1 d2 d3
  have z0 := hKS.zb.c0
  have z1 := hKS.zb.c1
  have z2 := hKS.zb.c2
  have z3 := hKS.zb.c3
  have j0 := hKS.zb.fz 0
  have j1 := hKS.zb.fz 1
  have j2 := hKS.zb.fz 2
  have j3 := hKS.zb.fz 3
  have sz := hKS.sz
  clear hKS hR hG hG'
  have a0 := fun w' => ink_is 2 0 3 true w' (inK_true (by omega) (by omega))
  have a1 := fun w' => ink_is (t : Nat) 0 4 true w' (inK_true (by omega) (by omega))
  have a2 := fun w' => ink_is (o : Nat) 0 3 true w' (inK_true (by omega) (by omega))
  obtain ⟨g4, hg4⟩ : ∃ g, t * 4 = g := ⟨_, rfl⟩
  obtain ⟨g, hg⟩ : ∃ g, g4 + o = g := ⟨_, rfl⟩
  have i1 : (t : Int) * 4 = (g4 : Int) := by omega
  have i2 : (g4 : Int) + (o : Int) = (g : Int) := by omega
  have hg20 : g < 20 := by omega
  have hgi : (g : Int) < 20 := by omega
  have hti : (t : Int) < 5 := by omega
  obtain ⟨bh, oh, e1, hbh, _, hch⟩ := HS.out.rl.ho.at_ (by omega)
  simp only at e1
  subst e1
  have hcg := hch g hg20
  rw [show g / 4 = t by omega, show g % 4 = o by omega] at hcg
  have h3 : s.hd t o ≤ 3 := hS.li.le t o
  have HGT : Hid (g / 4 = t ∧ g % 4 = o ∧ t * 4 + o = g) := ⟨by omega, by omega, by omega⟩
  obtain ⟨h, hh⟩ : ∃ h, s.hd t o = h := ⟨_, rfl⟩
  rw [hh] at hcg h3
  have hz : ((h : Int) == 0) = true := by rw [← hh, h0]; rfl
  clear h0 hS hh
  clear hg hg4 hch
  go_enter Tryd.func19, Tryd.ntmps19
  go_wp2_with fail
  refine (a0 _).mono ?_
  rintro e w' ⟨rfl, rfl⟩
  go_wp2_with fail
  refine (a1 _).mono ?_
  rintro e w' ⟨rfl, rfl⟩
  go_wp2_with fail
  refine (a2 _).mono ?_
  rintro e w' ⟨rfl, rfl⟩
  go_wp2_with fail
  obtain ⟨F1, F2, F3⟩ := HS.out.ret HGG.out
  have HF : Hid _ := F1
  have HF2 : Hid _ := F2
  have HF3 : Hid _ := F3
  clear F1 F2 F3
  go_wp2_with fail
  refine bodyPost_ret (v := .tuple #[rlV s ⟨some ⟨bh, oh, none⟩, ch, pw, cw, pa, ca⟩, .int .i64 ((5 : Nat) : Int)]) (results_lk rfl _ _ (N + 2) s ⟨some ⟨bh, oh, none⟩, ch, pw, cw, pa, ca⟩ ((5 : Nat) : Int) rfl rfl HF.out) rfl ⟨_, rfl, HF2.out, HF3.out⟩

set_option maxRecDepth 100000 in
set_option maxHeartbeats 8000000 in
theorem rl_free {G : Nat → Prop} {s : M.Lk} (v : LV) (t o : Nat) (x : Int) (w : World) (hR : RL G s v w) (hG : ∀ j, w.heap.size ≤ j → G j) (hS : M.LG s) (ht : t < 5) (ho : o < 4) (h0 : s.hd t o ≠ 0) :
    Calls Tryd.prog 19 #[rlV s v, dV 2 (t : Nat) (o : Nat) x] w fun e w' => ∃ v', e = .returned (.tuple #[rlV (M.sFree s t o) v', .int .i64 ((0 : Nat) : Int)]) ∧ RL G (M.sFree s t o) v' w' ∧ Below w.heap.size w w' := by
  have hKS := ks_begin (d := ⟨2, (t : Nat), (o : Nat), x⟩) hR hG
  obtain ⟨N, hN⟩ : ∃ N, w.heap.size = N := ⟨_, rfl⟩
  obtain ⟨G', hG'⟩ : ∃ G' : Nat → Prop, (fun j => G j ∧ j ≠ w.heap.size ∧ j ≠ w.heap.size + 1 ∧ j ≠ w.heap.size + 2) = G' := ⟨_, rfl⟩
  have HGG : Hid (∀ j, G' j → G j) := by rw [← hG']; exact fun j hj => hj.1
  rw [hG', hN] at hKS
  rw [hN]
  obtain ⟨ph, ch, pw, cw, pa, ca⟩ := v
  simp only at hKS
  obtain ⟨w2, hw2⟩ : ∃ w2, ((w.alloc (.cells #[.slice ph 20 ch, .slice pw 5 cw, .int .i64 (M.frS s : Nat), .slice pa s.ac.length ca] 46)).alloc (.cells #[.int .i64 2, .int .i64 (t : Nat), .int .i64 (o : Nat), .int .i64 x] 30)).alloc (.cells #[.slice none 0 0, .slice none 0 0, .int .i64 0, .slice none 0 0] 46) = w2 := ⟨_, rfl⟩
  rw [hw2] at hKS
  have HS : Hid (KS N G' ⟨2, (t : Nat), (o : Nat), x⟩ s ⟨ph, ch, pw, cw, pa, ca⟩ w w2) := hKS
  have l0 := hKS.lb.c0
  have l1 := hKS.lb.c1
  have l2 := hKS.lb.c2
  have l3 := hKS.lb.c3
  have f0 := hKS.lb.fz 0
  have f1 := hKS.lb.fz 1
  have f2 := hKS.lb.fz 2
  have f3 := hKS.lb.fz 3
  simp only at l0 l1 l3
  have d0 := hKS.db.c0
  have d1 := hKS.db.c1
  have d2 := hKS.db.c2
  have d3 := hKS.db.c3
  simp only [Nat.zero_add] at d0 d1 d2 d3
  have z0 := hKS.zb.c0
  have z1 := hKS.zb.c1
  have z2 := hKS.zb.c2
  have z3 := hKS.zb.c3
  have j0 := hKS.zb.fz 0
  have j1 := hKS.zb.fz 1
  have j2 := hKS.zb.fz 2
  have j3 := hKS.zb.fz 3
  have sz := hKS.sz
  clear hKS hR hG hG'
  have a0 := fun w' => ink_is 2 0 3 true w' (inK_true (by omega) (by omega))
  have a1 := fun w' => ink_is (t : Nat) 0 4 true w' (inK_true (by omega) (by omega))
  have a2 := fun w' => ink_is (o : Nat) 0 3 true w' (inK_true (by omega) (by omega))
  obtain ⟨g4, hg4⟩ : ∃ g, t * 4 = g := ⟨_, rfl⟩
  obtain ⟨g, hg⟩ : ∃ g, g4 + o = g := ⟨_, rfl⟩
  have i1 : (t : Int) * 4 = (g4 : Int) := by omega
  have i2 : (g4 : Int) + (o : Int) = (g : Int) := by omega
  have hg20 : g < 20 := by omega
  have hgi : (g : Int) < 20 := by omega
  have hti : (t : Int) < 5 := by omega
  obtain ⟨bh, oh, e1, hbh, _, hch⟩ := HS.out.rl.ho.at_ (by omega)
  simp only at e1
  subst e1
  have hcg := hch g hg20
  rw [show g / 4 = t by omega, show g % 4 = o by omega] at hcg
  have h3 : s.hd t o ≤ 3 := hS.li.le t o
  have HGT : Hid (g / 4 = t ∧ g % 4 = o ∧ t * 4 + o = g) := ⟨by omega, by omega, by omega⟩
  obtain ⟨h, hh⟩ : ∃ h, s.hd t o = h := ⟨_, rfl⟩
  rw [hh] at hcg h3
  have hz : ((h : Int) == 0) = false := by rw [← hh]; simpa using h0
  have hput := fun w' (hb : Below w2.heap.size w2 w') => put_ok (G := G') (fun j => (s.hd (j / 4) (j % 4) : Int)) 20 g 0 (some ⟨bh, oh, none⟩) ch w' (by omega) hg20 (HS.out.later hb).rl.ho
  have hwith := fun w' => with_any (M.frS s) t w' (by have := M.frS_lt s; omega) (by omega)
  rw [← M.free_fr (s := s) (o := o) ht] at hwith
  clear h0 hS hh
  clear hg hg4 hch
  go_enter Tryd.func19, Tryd.ntmps19
  go_wp2_with fail
  refine (a0 _).mono ?_
  rintro e w' ⟨rfl, rfl⟩
  go_wp2_with fail
  refine (a1 _).mono ?_
  rintro e w' ⟨rfl, rfl⟩
  go_wp2_with fail
  refine (a2 _).mono ?_
  rintro e w' ⟨rfl, rfl⟩
  go_wp2_with fail
  refine (hput _ (Below.refl _ _)).mono ?_
  rintro e w4 ⟨p', c', rfl, _, _, hF, hB4⟩
  have HS4 : Hid (KS N G' ⟨2, (t : Nat), (o : Nat), x⟩ { s with hd := M.up2 s.hd t o 0 } ⟨p', c', pw, cw, pa, ca⟩ w (w4.setCell ⟨N, 0, none⟩ (.slice p' 20 c'))) :=
    HS.out.setH (s' := { s with hd := M.up2 s.hd t o 0 }) hB4 c' rfl rfl rfl ((hF.mono (fun j _ hj => HS.out.fr j (by have := HS.out.sz; omega))).congr (fun j _ => by
      show Value.int .i64 (M.upd1 (fun j => (s.hd (j / 4) (j % 4) : Int)) g 0 j) = .int .i64 ((M.up2 s.hd t o 0 (j / 4) (j % 4) : Nat) : Int)
      have h8 := HGT.out
      unfold M.upd1 M.up2
      by_cases e : j = g
      · rw [if_pos e, if_pos ⟨by omega, by omega⟩]; rfl
      · rw [if_neg e, if_neg (fun c => e (by omega))]))
  have q1 := (HS.out.later hB4).lb.c0
  have q2 := (HS.out.later hB4).lb.fz 0
  simp only at q1
  obtain ⟨wz, hwz⟩ : ∃ wz, w4.setCell ⟨N, 0, none⟩ (.slice p' 20 c') = wz := ⟨_, rfl⟩
  rw [hwz] at HS4
  clear l0 l1 l2 l3 f0 f1 f2 f3 d0 d1 d2 d3 z0 z1 z2 z3 j0 j1 j2 j3 hput hF hB4 hbh hcg
  have l0 := HS4.out.lb.c0
  have l1 := HS4.out.lb.c1
  have l2 := HS4.out.lb.c2
  have l3 := HS4.out.lb.c3
  have f0 := HS4.out.lb.fz 0
  have f1 := HS4.out.lb.fz 1
  have f2 := HS4.out.lb.fz 2
  have f3 := HS4.out.lb.fz 3
  simp only at l0 l1 l3
  have d0 := HS4.out.db.c0
  have d1 := HS4.out.db.c1
  have d2 := HS4.out.db.c2
  have d3 := HS4.out.db.c3
  simp only [Nat.zero_add] at d0 d1 d2 d3
  have z0 := HS4.out.zb.c0
  have z1 := HS4.out.zb.c1
  have z2 := HS4.out.zb.c2
  have z3 := HS4.out.zb.c3
  have j0 := HS4.out.zb.fz 0
  have j1 := HS4.out.zb.fz 1
  have j2 := HS4.out.zb.fz 2
  have j3 := HS4.out.zb.fz 3
  have sz := HS4.out.sz
  rw [show M.frS { s with hd := M.up2 s.hd t o 0 } = M.frS s from rfl] at l2
  have HS5 : Hid (KS N G' ⟨2, (t : Nat), (o : Nat), x⟩ (M.sFree s t o) ⟨p', c', pw, cw, pa, ca⟩ w (wz.setCell ⟨N, 2, none⟩ (.int .i64 (M.frS (M.sFree s t o) : Nat)))) := HS4.out.setF (s' := M.sFree s t o) (Below.refl _ _) rfl rfl rfl
  obtain ⟨wy, hwy⟩ : ∃ wy, wz.setCell ⟨N, 2, none⟩ (.int .i64 (M.frS (M.sFree s t o) : Nat)) = wy := ⟨_, rfl⟩
  rw [hwy] at HS5
  go_wp2_with fail
  refine (hwith _).mono ?_
  rintro e w5 ⟨rfl, rfl⟩
  clear hwith
  have l0y := HS5.out.lb.c0
  have l1y := HS5.out.lb.c1
  have l2y := HS5.out.lb.c2
  have l3y := HS5.out.lb.c3
  have f0y := HS5.out.lb.fz 0
  have f1y := HS5.out.lb.fz 1
  have f2y := HS5.out.lb.fz 2
  have f3y := HS5.out.lb.fz 3
  simp only at l0y l1y l3y
  have d0y := HS5.out.db.c0
  have d1y := HS5.out.db.c1
  have d2y := HS5.out.db.c2
  have d3y := HS5.out.db.c3
  simp only [Nat.zero_add] at d0y d1y d2y d3y
  have z0y := HS5.out.zb.c0
  have z1y := HS5.out.zb.c1
  have z2y := HS5.out.zb.c2
  have z3y := HS5.out.zb.c3
  have j0y := HS5.out.zb.fz 0
  have j1y := HS5.out.zb.fz 1
  have j2y := HS5.out.zb.fz 2
  have j3y := HS5.out.zb.fz 3
  have szy := HS5.out.sz
  obtain ⟨F1, F2, F3⟩ := HS5.out.ret HGG.out
  have HF : Hid _ := F1
  have HF2 : Hid _ := F2
  have HF3 : Hid _ := F3
  clear F1 F2 F3
  go_wp2_with fail
  refine bodyPost_ret (v := .tuple #[rlV (M.sFree s t o) ⟨p', c', pw, cw, pa, ca⟩, .int .i64 ((0 : Nat) : Int)]) (results_lk rfl _ _ (N + 2) (M.sFree s t o) ⟨p', c', pw, cw, pa, ca⟩ ((0 : Nat) : Int) rfl rfl HF.out) rfl ⟨_, rfl, HF2.out, HF3.out⟩

set_option maxRecDepth 100000 in
set_option maxHeartbeats 8000000 in
theorem rl_none {G : Nat → Prop} {s : M.Lk} (v : LV) (t o : Nat) (x : Nat) (w : World) (hR : RL G s v w) (hG : ∀ j, w.heap.size ≤ j → G j) (hS : M.LG s) (ht : t < 5) (ho : o < 4) (h0 : s.hd t o = 0) (hx : x < 2) :
    Calls Tryd.prog 19 #[rlV s v, dV 3 (t : Nat) (o : Nat) (x : Nat)] w fun e w' => ∃ v', e = .returned (.tuple #[rlV s v', .int .i64 ((5 : Nat) : Int)]) ∧ RL G s v' w' ∧ Below w.heap.size w w' := by
  have hKS := ks_begin (d := ⟨3, (t : Nat), (o : Nat), (x : Nat)⟩) hR hG
  obtain ⟨N, hN⟩ : ∃ N, w.heap.size = N := ⟨_, rfl⟩
  obtain ⟨G', hG'⟩ : ∃ G' : Nat → Prop, (fun j => G j ∧ j ≠ w.heap.size ∧ j ≠ w.heap.size + 1 ∧ j ≠ w.heap.size + 2) = G' := ⟨_, rfl⟩
  have HGG : Hid (∀ j, G' j → G j) := by rw [← hG']; exact fun j hj => hj.1
  rw [hG', hN] at hKS
  rw [hN]
  obtain ⟨ph, ch, pw, cw, pa, ca⟩ := v
  simp only at hKS
  obtain ⟨w2, hw2⟩ : ∃ w2, ((w.alloc (.cells #[.slice ph 20 ch, .slice pw 5 cw, .int .i64 (M.frS s : Nat), .slice pa s.ac.length ca] 46)).alloc (.cells #[.int .i64 3, .int .i64 (t : Nat), .int .i64 (o : Nat), .int .i64 (x : Nat)] 30)).alloc (.cells #[.slice none 0 0, .slice none 0 0, .int .i64 0, .slice none 0 0] 46) = w2 := ⟨_, rfl⟩
  rw [hw2] at hKS
  have HS : Hid (KS N G' ⟨3, (t : Nat), (o : Nat), (x : Nat)⟩ s ⟨ph, ch, pw, cw, pa, ca⟩ w w2) := hKS
  have l0 := hKS.lb.c0
  have l1 := hKS.lb.c1
  have l2 := hKS.lb.c2
  have l3 := hKS.lb.c3
  have f0 := hKS.lb.fz 0
  have f1 := hKS.lb.fz 1
  have f2 := hKS.lb.fz 2
  have f3 := hKS.lb.fz 3
  simp only at l0 l1 l3
  have d0 := hKS.db.c0
  have d1 := hKS.db.c1
  have d2 := hKS.db.c2
  have d3 := hKS.db.c3
  simp only [Nat.zero_add] at d0 d1 d2 d3
  have z0 := hKS.zb.c0
  have z1 := hKS.zb.c1
  have z2 := hKS.zb.c2
  have z3 := hKS.zb.c3
  have j0 := hKS.zb.fz 0
  have j1 := hKS.zb.fz 1
  have j2 := hKS.zb.fz 2
  have j3 := hKS.zb.fz 3
  have sz := hKS.sz
  clear hKS hR hG hG'
  have a0 := fun w' => ink_is 3 0 3 true w' (inK_true (by omega) (by omega))
  have a1 := fun w' => ink_is (t : Nat) 0 4 true w' (inK_true (by omega) (by omega))
  have a2 := fun w' => ink_is (o : Nat) 0 3 true w' (inK_true (by omega) (by omega))
  have a3 := fun w' => ink_is (x : Nat) 0 1 true w' (inK_true (by omega) (by omega))
  obtain ⟨g4, hg4⟩ : ∃ g, t * 4 = g := ⟨_, rfl⟩
  obtain ⟨g, hg⟩ : ∃ g, g4 + o = g := ⟨_, rfl⟩
  have i1 : (t : Int) * 4 = (g4 : Int) := by omega
  have i2 : (g4 : Int) + (o : Int) = (g : Int) := by omega
  have hg20 : g < 20 := by omega
  have hgi : (g : Int) < 20 := by omega
  have hti : (t : Int) < 5 := by omega
  obtain ⟨bh, oh, e1, hbh, _, hch⟩ := HS.out.rl.ho.at_ (by omega)
  simp only at e1
  subst e1
  have hcg := hch g hg20
  rw [show g / 4 = t by omega, show g % 4 = o by omega] at hcg
  have h3 : s.hd t o ≤ 3 := hS.li.le t o
  have HGT : Hid (g / 4 = t ∧ g % 4 = o ∧ t * 4 + o = g) := ⟨by omega, by omega, by omega⟩
  obtain ⟨h, hh⟩ : ∃ h, s.hd t o = h := ⟨_, rfl⟩
  rw [hh] at hcg h3
  have hz : ((h : Int) == 0) = true := by rw [← hh, h0]; rfl
  clear h0 hS hh
  clear hg hg4 hch
  go_enter Tryd.func19, Tryd.ntmps19
  go_wp2_with fail
  refine (a0 _).mono ?_
  rintro e w' ⟨rfl, rfl⟩
  go_wp2_with fail
  refine (a1 _).mono ?_
  rintro e w' ⟨rfl, rfl⟩
  go_wp2_with fail
  refine (a2 _).mono ?_
  rintro e w' ⟨rfl, rfl⟩
  go_wp2_with fail
  refine (a3 _).mono ?_
  rintro e w' ⟨rfl, rfl⟩
  go_wp2_with fail
  obtain ⟨F1, F2, F3⟩ := HS.out.ret HGG.out
  have HF : Hid _ := F1
  have HF2 : Hid _ := F2
  have HF3 : Hid _ := F3
  clear F1 F2 F3
  go_wp2_with fail
  refine bodyPost_ret (v := .tuple #[rlV s ⟨some ⟨bh, oh, none⟩, ch, pw, cw, pa, ca⟩, .int .i64 ((5 : Nat) : Int)]) (results_lk rfl _ _ (N + 2) s ⟨some ⟨bh, oh, none⟩, ch, pw, cw, pa, ca⟩ ((5 : Nat) : Int) rfl rfl HF.out) rfl ⟨_, rfl, HF2.out, HF3.out⟩

set_option maxRecDepth 100000 in
set_option maxHeartbeats 8000000 in
theorem rl_none1 {G : Nat → Prop} {s : M.Lk} (v : LV) (t o : Nat)  (w : World) (hR : RL G s v w) (hG : ∀ j, w.heap.size ≤ j → G j) (hS : M.LG s) (ht : t < 5) (ho : o < 4) (h0 : s.hd t o = 1) :
    Calls Tryd.prog 19 #[rlV s v, dV 3 (t : Nat) (o : Nat) 1] w fun e w' => ∃ v', e = .returned (.tuple #[rlV s v', .int .i64 ((5 : Nat) : Int)]) ∧ RL G s v' w' ∧ Below w.heap.size w w' := by
  have hKS := ks_begin (d := ⟨3, (t : Nat), (o : Nat), 1⟩) hR hG
  obtain ⟨N, hN⟩ : ∃ N, w.heap.size = N := ⟨_, rfl⟩
  obtain ⟨G', hG'⟩ : ∃ G' : Nat → Prop, (fun j => G j ∧ j ≠ w.heap.size ∧ j ≠ w.heap.size + 1 ∧ j ≠ w.heap.size + 2) = G' := ⟨_, rfl⟩
  have HGG : Hid (∀ j, G' j → G j) := by rw [← hG']; exact fun j hj => hj.1
  rw [hG', hN] at hKS
  rw [hN]
  obtain ⟨ph, ch, pw, cw, pa, ca⟩ := v
  simp only at hKS
  obtain ⟨w2, hw2⟩ : ∃ w2, ((w.alloc (.cells #[.slice ph 20 ch, .slice pw 5 cw, .int .i64 (M.frS s : Nat), .slice pa s.ac.length ca] 46)).alloc (.cells #[.int .i64 3, .int .i64 (t : Nat), .int .i64 (o : Nat), .int .i64 1] 30)).alloc (.cells #[.slice none 0 0, .slice none 0 0, .int .i64 0, .slice none 0 0] 46) = w2 := ⟨_, rfl⟩
  rw [hw2] at hKS
  have HS : Hid (KS N G' ⟨3, (t : Nat), (o : Nat), 1⟩ s ⟨ph, ch, pw, cw, pa, ca⟩ w w2) := hKS
  have l0 := hKS.lb.c0
  have l1 := hKS.lb.c1
  have l2 := hKS.lb.c2
  have l3 := hKS.lb.c3
  have f0 := hKS.lb.fz 0
  have f1 := hKS.lb.fz 1
  have f2 := hKS.lb.fz 2
  have f3 := hKS.lb.fz 3
  simp only at l0 l1 l3
  have d0 := hKS.db.c0
  have d1 := hKS.db.c1
  have d2 := hKS.db.c2
  have d3 := hKS.db.c3
  simp only [Nat.zero_add] at d0 d1 d2 d3
  have z0 := hKS.zb.c0
  have z1 := hKS.zb.c1
  have z2 := hKS.zb.c2
  have z3 := hKS.zb.c3
  have j0 := hKS.zb.fz 0
  have j1 := hKS.zb.fz 1
  have j2 := hKS.zb.fz 2
  have j3 := hKS.zb.fz 3
  have sz := hKS.sz
  clear hKS hR hG hG'
  have a0 := fun w' => ink_is 3 0 3 true w' (inK_true (by omega) (by omega))
  have a1 := fun w' => ink_is (t : Nat) 0 4 true w' (inK_true (by omega) (by omega))
  have a2 := fun w' => ink_is (o : Nat) 0 3 true w' (inK_true (by omega) (by omega))
  have a3 := fun w' => ink_is 1 0 1 true w' (inK_true (by omega) (by omega))
  obtain ⟨g4, hg4⟩ : ∃ g, t * 4 = g := ⟨_, rfl⟩
  obtain ⟨g, hg⟩ : ∃ g, g4 + o = g := ⟨_, rfl⟩
  have i1 : (t : Int) * 4 = (g4 : Int) := by omega
  have i2 : (g4 : Int) + (o : Int) = (g : Int) := by omega
  have hg20 : g < 20 := by omega
  have hgi : (g : Int) < 20 := by omega
  have hti : (t : Int) < 5 := by omega
  obtain ⟨bh, oh, e1, hbh, _, hch⟩ := HS.out.rl.ho.at_ (by omega)
  simp only at e1
  subst e1
  have hcg := hch g hg20
  rw [show g / 4 = t by omega, show g % 4 = o by omega] at hcg
  have h3 : s.hd t o ≤ 3 := hS.li.le t o
  have HGT : Hid (g / 4 = t ∧ g % 4 = o ∧ t * 4 + o = g) := ⟨by omega, by omega, by omega⟩
  obtain ⟨h, hh⟩ : ∃ h, s.hd t o = h := ⟨_, rfl⟩
  rw [hh] at hcg h3
  have hz : ((h : Int) == 0) = false := by rw [← hh]; simp; omega
  have hy : ((h : Int) == 1) = true := by rw [← hh]; simp; omega
  clear h0 hS hh
  clear hg hg4 hch
  go_enter Tryd.func19, Tryd.ntmps19
  go_wp2_with fail
  refine (a0 _).mono ?_
  rintro e w' ⟨rfl, rfl⟩
  go_wp2_with fail
  refine (a1 _).mono ?_
  rintro e w' ⟨rfl, rfl⟩
  go_wp2_with fail
  refine (a2 _).mono ?_
  rintro e w' ⟨rfl, rfl⟩
  go_wp2_with fail
  refine (a3 _).mono ?_
  rintro e w' ⟨rfl, rfl⟩
  go_wp2_with fail
  obtain ⟨F1, F2, F3⟩ := HS.out.ret HGG.out
  have HF : Hid _ := F1
  have HF2 : Hid _ := F2
  have HF3 : Hid _ := F3
  clear F1 F2 F3
  go_wp2_with fail
  refine bodyPost_ret (v := .tuple #[rlV s ⟨some ⟨bh, oh, none⟩, ch, pw, cw, pa, ca⟩, .int .i64 ((5 : Nat) : Int)]) (results_lk rfl _ _ (N + 2) s ⟨some ⟨bh, oh, none⟩, ch, pw, cw, pa, ca⟩ ((5 : Nat) : Int) rfl rfl HF.out) rfl ⟨_, rfl, HF2.out, HF3.out⟩

set_option maxRecDepth 100000 in
set_option maxHeartbeats 8000000 in
theorem rl_full1 {G : Nat → Prop} {s : M.Lk} (v : LV) (t o : Nat)  (w : World) (hR : RL G s v w) (hG : ∀ j, w.heap.size ≤ j → G j) (hS : M.LG s) (ht : t < 5) (ho : o < 4) (h0 : s.hd t o = 1) (hL : 24 ≤ s.ac.length) :
    Calls Tryd.prog 19 #[rlV s v, dV 3 (t : Nat) (o : Nat) 0] w fun e w' => ∃ v', e = .returned (.tuple #[rlV s v', .int .i64 ((4 : Nat) : Int)]) ∧ RL G s v' w' ∧ Below w.heap.size w w' := by
  have hKS := ks_begin (d := ⟨3, (t : Nat), (o : Nat), 0⟩) hR hG
  obtain ⟨N, hN⟩ : ∃ N, w.heap.size = N := ⟨_, rfl⟩
  obtain ⟨G', hG'⟩ : ∃ G' : Nat → Prop, (fun j => G j ∧ j ≠ w.heap.size ∧ j ≠ w.heap.size + 1 ∧ j ≠ w.heap.size + 2) = G' := ⟨_, rfl⟩
  have HGG : Hid (∀ j, G' j → G j) := by rw [← hG']; exact fun j hj => hj.1
  rw [hG', hN] at hKS
  rw [hN]
  obtain ⟨ph, ch, pw, cw, pa, ca⟩ := v
  simp only at hKS
  obtain ⟨w2, hw2⟩ : ∃ w2, ((w.alloc (.cells #[.slice ph 20 ch, .slice pw 5 cw, .int .i64 (M.frS s : Nat), .slice pa s.ac.length ca] 46)).alloc (.cells #[.int .i64 3, .int .i64 (t : Nat), .int .i64 (o : Nat), .int .i64 0] 30)).alloc (.cells #[.slice none 0 0, .slice none 0 0, .int .i64 0, .slice none 0 0] 46) = w2 := ⟨_, rfl⟩
  rw [hw2] at hKS
  have HS : Hid (KS N G' ⟨3, (t : Nat), (o : Nat), 0⟩ s ⟨ph, ch, pw, cw, pa, ca⟩ w w2) := hKS
  have l0 := hKS.lb.c0
  have l1 := hKS.lb.c1
  have l2 := hKS.lb.c2
  have l3 := hKS.lb.c3
  have f0 := hKS.lb.fz 0
  have f1 := hKS.lb.fz 1
  have f2 := hKS.lb.fz 2
  have f3 := hKS.lb.fz 3
  simp only at l0 l1 l3
  have d0 := hKS.db.c0
  have d1 := hKS.db.c1
  have d2 := hKS.db.c2
  have d3 := hKS.db.c3
  simp only [Nat.zero_add] at d0 d1 d2 d3
  have z0 := hKS.zb.c0
  have z1 := hKS.zb.c1
  have z2 := hKS.zb.c2
  have z3 := hKS.zb.c3
  have j0 := hKS.zb.fz 0
  have j1 := hKS.zb.fz 1
  have j2 := hKS.zb.fz 2
  have j3 := hKS.zb.fz 3
  have sz := hKS.sz
  clear hKS hR hG hG'
  have a0 := fun w' => ink_is 3 0 3 true w' (inK_true (by omega) (by omega))
  have a1 := fun w' => ink_is (t : Nat) 0 4 true w' (inK_true (by omega) (by omega))
  have a2 := fun w' => ink_is (o : Nat) 0 3 true w' (inK_true (by omega) (by omega))
  have a3 := fun w' => ink_is 0 0 1 true w' (inK_true (by omega) (by omega))
  obtain ⟨g4, hg4⟩ : ∃ g, t * 4 = g := ⟨_, rfl⟩
  obtain ⟨g, hg⟩ : ∃ g, g4 + o = g := ⟨_, rfl⟩
  have i1 : (t : Int) * 4 = (g4 : Int) := by omega
  have i2 : (g4 : Int) + (o : Int) = (g : Int) := by omega
  have hg20 : g < 20 := by omega
  have hgi : (g : Int) < 20 := by omega
  have hti : (t : Int) < 5 := by omega
  obtain ⟨bh, oh, e1, hbh, _, hch⟩ := HS.out.rl.ho.at_ (by omega)
  simp only at e1
  subst e1
  have hcg := hch g hg20
  rw [show g / 4 = t by omega, show g % 4 = o by omega] at hcg
  have h3 : s.hd t o ≤ 3 := hS.li.le t o
  have HGT : Hid (g / 4 = t ∧ g % 4 = o ∧ t * 4 + o = g) := ⟨by omega, by omega, by omega⟩
  obtain ⟨h, hh⟩ : ∃ h, s.hd t o = h := ⟨_, rfl⟩
  rw [hh] at hcg h3
  have hz : ((h : Int) == 0) = false := by rw [← hh]; simp; omega
  have hy : ((h : Int) == 1) = true := by rw [← hh]; simp; omega
  have hLi : (24 : Int) ≤ (s.ac.length : Int) := by omega
  clear hL
  clear h0 hS hh
  clear hg hg4 hch
  go_enter Tryd.func19, Tryd.ntmps19
  go_wp2_with fail
  refine (a0 _).mono ?_
  rintro e w' ⟨rfl, rfl⟩
  go_wp2_with fail
  refine (a1 _).mono ?_
  rintro e w' ⟨rfl, rfl⟩
  go_wp2_with fail
  refine (a2 _).mono ?_
  rintro e w' ⟨rfl, rfl⟩
  go_wp2_with fail
  refine (a3 _).mono ?_
  rintro e w' ⟨rfl, rfl⟩
  go_wp2_with fail
  obtain ⟨F1, F2, F3⟩ := HS.out.ret HGG.out
  have HF : Hid _ := F1
  have HF2 : Hid _ := F2
  have HF3 : Hid _ := F3
  clear F1 F2 F3
  go_wp2_with fail
  refine bodyPost_ret (v := .tuple #[rlV s ⟨some ⟨bh, oh, none⟩, ch, pw, cw, pa, ca⟩, .int .i64 ((4 : Nat) : Int)]) (results_lk rfl _ _ (N + 2) s ⟨some ⟨bh, oh, none⟩, ch, pw, cw, pa, ca⟩ ((4 : Nat) : Int) rfl rfl HF.out) rfl ⟨_, rfl, HF2.out, HF3.out⟩

set_option maxRecDepth 100000 in
set_option maxHeartbeats 8000000 in
theorem rl_full2 {G : Nat → Prop} {s : M.Lk} (v : LV) (t o : Nat) (x : Nat) (w : World) (hR : RL G s v w) (hG : ∀ j, w.heap.size ≤ j → G j) (hS : M.LG s) (ht : t < 5) (ho : o < 4) (h0 : 2 ≤ s.hd t o) (hx : x < 2) (hL : 24 ≤ s.ac.length) :
    Calls Tryd.prog 19 #[rlV s v, dV 3 (t : Nat) (o : Nat) (x : Nat)] w fun e w' => ∃ v', e = .returned (.tuple #[rlV s v', .int .i64 ((4 : Nat) : Int)]) ∧ RL G s v' w' ∧ Below w.heap.size w w' := by
  have hKS := ks_begin (d := ⟨3, (t : Nat), (o : Nat), (x : Nat)⟩) hR hG
  obtain ⟨N, hN⟩ : ∃ N, w.heap.size = N := ⟨_, rfl⟩
  obtain ⟨G', hG'⟩ : ∃ G' : Nat → Prop, (fun j => G j ∧ j ≠ w.heap.size ∧ j ≠ w.heap.size + 1 ∧ j ≠ w.heap.size + 2) = G' := ⟨_, rfl⟩
  have HGG : Hid (∀ j, G' j → G j) := by rw [← hG']; exact fun j hj => hj.1
  rw [hG', hN] at hKS
  rw [hN]
  obtain ⟨ph, ch, pw, cw, pa, ca⟩ := v
  simp only at hKS
  obtain ⟨w2, hw2⟩ : ∃ w2, ((w.alloc (.cells #[.slice ph 20 ch, .slice pw 5 cw, .int .i64 (M.frS s : Nat), .slice pa s.ac.length ca] 46)).alloc (.cells #[.int .i64 3, .int .i64 (t : Nat), .int .i64 (o : Nat), .int .i64 (x : Nat)] 30)).alloc (.cells #[.slice none 0 0, .slice none 0 0, .int .i64 0, .slice none 0 0] 46) = w2 := ⟨_, rfl⟩
  rw [hw2] at hKS
  have HS : Hid (KS N G' ⟨3, (t : Nat), (o : Nat), (x : Nat)⟩ s ⟨ph, ch, pw, cw, pa, ca⟩ w w2) := hKS
  have l0 := hKS.lb.c0
  have l1 := hKS.lb.c1
  have l2 := hKS.lb.c2
  have l3 := hKS.lb.c3
  have f0 := hKS.lb.fz 0
  have f1 := hKS.lb.fz 1
  have f2 := hKS.lb.fz 2
  have f3 := hKS.lb.fz 3
  simp only at l0 l1 l3
  have d0 := hKS.db.c0
  have d1 := hKS.db.c1
  have d2 := hKS.db.c2
  have d3 := hKS.db.c3
  simp only [Nat.zero_add] at d0 d1 d2 d3
  have z0 := hKS.zb.c0
  have z1 := hKS.zb.c1
  have z2 := hKS.zb.c2
  have z3 := hKS.zb.c3
  have j0 := hKS.zb.fz 0
  have j1 := hKS.zb.fz 1
  have j2 := hKS.zb.fz 2
  have j3 := hKS.zb.fz 3
  have sz := hKS.sz
  clear hKS hR hG hG'
  have a0 := fun w' => ink_is 3 0 3 true w' (inK_true (by omega) (by omega))
  have a1 := fun w' => ink_is (t : Nat) 0 4 true w' (inK_true (by omega) (by omega))
  have a2 := fun w' => ink_is (o : Nat) 0 3 true w' (inK_true (by omega) (by omega))
  have a3 := fun w' => ink_is (x : Nat) 0 1 true w' (inK_true (by omega) (by omega))
  obtain ⟨g4, hg4⟩ : ∃ g, t * 4 = g := ⟨_, rfl⟩
  obtain ⟨g, hg⟩ : ∃ g, g4 + o = g := ⟨_, rfl⟩
  have i1 : (t : Int) * 4 = (g4 : Int) := by omega
  have i2 : (g4 : Int) + (o : Int) = (g : Int) := by omega
  have hg20 : g < 20 := by omega
  have hgi : (g : Int) < 20 := by omega
  have hti : (t : Int) < 5 := by omega
  obtain ⟨bh, oh, e1, hbh, _, hch⟩ := HS.out.rl.ho.at_ (by omega)
  simp only at e1
  subst e1
  have hcg := hch g hg20
  rw [show g / 4 = t by omega, show g % 4 = o by omega] at hcg
  have h3 : s.hd t o ≤ 3 := hS.li.le t o
  have HGT : Hid (g / 4 = t ∧ g % 4 = o ∧ t * 4 + o = g) := ⟨by omega, by omega, by omega⟩
  obtain ⟨h, hh⟩ : ∃ h, s.hd t o = h := ⟨_, rfl⟩
  rw [hh] at hcg h3
  have hz : ((h : Int) == 0) = false := by rw [← hh]; simp; omega
  have hy : ((h : Int) == 1) = false := by rw [← hh]; simp; omega
  have hLi : (24 : Int) ≤ (s.ac.length : Int) := by omega
  clear hL
  clear h0 hS hh
  clear hg hg4 hch
  go_enter Tryd.func19, Tryd.ntmps19
  go_wp2_with fail
  refine (a0 _).mono ?_
  rintro e w' ⟨rfl, rfl⟩
  go_wp2_with fail
  refine (a1 _).mono ?_
  rintro e w' ⟨rfl, rfl⟩
  go_wp2_with fail
  refine (a2 _).mono ?_
  rintro e w' ⟨rfl, rfl⟩
  go_wp2_with fail
  refine (a3 _).mono ?_
  rintro e w' ⟨rfl, rfl⟩
  go_wp2_with fail
  obtain ⟨F1, F2, F3⟩ := HS.out.ret HGG.out
  have HF : Hid _ := F1
  have HF2 : Hid _ := F2
  have HF3 : Hid _ := F3
  clear F1 F2 F3
  go_wp2_with fail
  refine bodyPost_ret (v := .tuple #[rlV s ⟨some ⟨bh, oh, none⟩, ch, pw, cw, pa, ca⟩, .int .i64 ((4 : Nat) : Int)]) (results_lk rfl _ _ (N + 2) s ⟨some ⟨bh, oh, none⟩, ch, pw, cw, pa, ca⟩ ((4 : Nat) : Int) rfl rfl HF.out) rfl ⟨_, rfl, HF2.out, HF3.out⟩

set_option maxRecDepth 100000 in
set_option maxHeartbeats 8000000 in
theorem rl_act1 {G : Nat → Prop} {s : M.Lk} (v : LV) (t o : Nat)  (w : World) (hR : RL G s v w) (hG : ∀ j, w.heap.size ≤ j → G j) (hS : M.LG s) (ht : t < 5) (ho : o < 4) (h0 : s.hd t o = 1) (hL : s.ac.length < 24) :
    Calls Tryd.prog 19 #[rlV s v, dV 3 (t : Nat) (o : Nat) 0] w fun e w' => ∃ v', e = .returned (.tuple #[rlV (M.sAct s t o 0) v', .int .i64 ((0 : Nat) : Int)]) ∧ RL G (M.sAct s t o 0) v' w' ∧ Below w.heap.size w w' := by
  have hKS := ks_begin (d := ⟨3, (t : Nat), (o : Nat), 0⟩) hR hG
  obtain ⟨N, hN⟩ : ∃ N, w.heap.size = N := ⟨_, rfl⟩
  obtain ⟨G', hG'⟩ : ∃ G' : Nat → Prop, (fun j => G j ∧ j ≠ w.heap.size ∧ j ≠ w.heap.size + 1 ∧ j ≠ w.heap.size + 2) = G' := ⟨_, rfl⟩
  have HGG : Hid (∀ j, G' j → G j) := by rw [← hG']; exact fun j hj => hj.1
  rw [hG', hN] at hKS
  rw [hN]
  obtain ⟨ph, ch, pw, cw, pa, ca⟩ := v
  simp only at hKS
  obtain ⟨w2, hw2⟩ : ∃ w2, ((w.alloc (.cells #[.slice ph 20 ch, .slice pw 5 cw, .int .i64 (M.frS s : Nat), .slice pa s.ac.length ca] 46)).alloc (.cells #[.int .i64 3, .int .i64 (t : Nat), .int .i64 (o : Nat), .int .i64 0] 30)).alloc (.cells #[.slice none 0 0, .slice none 0 0, .int .i64 0, .slice none 0 0] 46) = w2 := ⟨_, rfl⟩
  rw [hw2] at hKS
  have HS : Hid (KS N G' ⟨3, (t : Nat), (o : Nat), 0⟩ s ⟨ph, ch, pw, cw, pa, ca⟩ w w2) := hKS
  have l0 := hKS.lb.c0
  have l1 := hKS.lb.c1
  have l2 := hKS.lb.c2
  have l3 := hKS.lb.c3
  have f0 := hKS.lb.fz 0
  have f1 := hKS.lb.fz 1
  have f2 := hKS.lb.fz 2
  have f3 := hKS.lb.fz 3
  simp only at l0 l1 l3
  have d0 := hKS.db.c0
  have d1 := hKS.db.c1
  have d2 := hKS.db.c2
  have d3 := hKS.db.c3
  simp only [Nat.zero_add] at d0 d1 d2 d3
  have z0 := hKS.zb.c0
  have z1 := hKS.zb.c1
  have z2 := hKS.zb.c2
  have z3 := hKS.zb.c3
  have j0 := hKS.zb.fz 0
  have j1 := hKS.zb.fz 1
  have j2 := hKS.zb.fz 2
  have j3 := hKS.zb.fz 3
  have sz := hKS.sz
  clear hKS hR hG hG'
  have a0 := fun w' => ink_is 3 0 3 true w' (inK_true (by omega) (by omega))
  have a1 := fun w' => ink_is (t : Nat) 0 4 true w' (inK_true (by omega) (by omega))
  have a2 := fun w' => ink_is (o : Nat) 0 3 true w' (inK_true (by omega) (by omega))
  have a3 := fun w' => ink_is 0 0 1 true w' (inK_true (by omega) (by omega))
  obtain ⟨g4, hg4⟩ : ∃ g, t * 4 = g := ⟨_, rfl⟩
  obtain ⟨g, hg⟩ : ∃ g, g4 + o = g := ⟨_, rfl⟩
  have i1 : (t : Int) * 4 = (g4 : Int) := by omega
  have i2 : (g4 : Int) + (o : Int) = (g : Int) := by omega
  have hg20 : g < 20 := by omega
  have hgi : (g : Int) < 20 := by omega
  have hti : (t : Int) < 5 := by omega
  obtain ⟨bh, oh, e1, hbh, _, hch⟩ := HS.out.rl.ho.at_ (by omega)
  simp only at e1
  subst e1
  have hcg := hch g hg20
  rw [show g / 4 = t by omega, show g % 4 = o by omega] at hcg
  have h3 : s.hd t o ≤ 3 := hS.li.le t o
  have HGT : Hid (g / 4 = t ∧ g % 4 = o ∧ t * 4 + o = g) := ⟨by omega, by omega, by omega⟩
  obtain ⟨h, hh⟩ : ∃ h, s.hd t o = h := ⟨_, rfl⟩
  rw [hh] at hcg h3
  have hz : ((h : Int) == 0) = false := by rw [← hh]; simp; omega
  have hy : ((h : Int) == 1) = true := by rw [← hh]; simp; omega
  have hLi : (s.ac.length : Int) < 24 := by omega
  obtain ⟨i0, hi0, hz0, hz1, hz2⟩ := infoAct_parts infoAct
  have HAC : Hid (RA G' s.ac pa ca w2) := HS.out.rl.ac
  have h1c := acells_one s.ac
  obtain ⟨L, hLL⟩ : ∃ L, s.ac.length = L := ⟨_, rfl⟩
  have HLL : Hid (s.ac.length = L) := hLL
  rw [hLL] at hLi hL l3
  have hacl : (acells s.ac).length = L * 3 := by rw [acells_len, hLL]
  obtain ⟨xs, hxs⟩ : ∃ xs, acells s.ac = xs := ⟨_, rfl⟩
  have HXS : Hid (acells s.ac = xs) := hxs
  rw [hxs] at h1c hacl
  have hcel : ∀ ad, pa = some ad → ∀ j u, xs[j]? = some u → w2.cell? (ad.add j) = some u := by rw [← hxs]; exact HAC.out.cells
  have hnil : pa = none → L = 0 ∧ ca = 0 := by rw [← hLL]; exact HAC.out.nil
  clear hLL hxs
  clear h0 hS hh
  clear hg hg4 hch
  go_enter Tryd.func19, Tryd.ntmps19
  go_wp2_with fail
  refine (a0 _).mono ?_
  rintro e w' ⟨rfl, rfl⟩
  go_wp2_with fail
  refine (a1 _).mono ?_
  rintro e w' ⟨rfl, rfl⟩
  go_wp2_with fail
  refine (a2 _).mono ?_
  rintro e w' ⟨rfl, rfl⟩
  go_wp2_with fail
  refine (a3 _).mono ?_
  rintro e w' ⟨rfl, rfl⟩
  have HCB : Hid (∀ w', Below w2.heap.size w2 w' → KS N G' ⟨3, (t : Nat), (o : Nat), 0⟩ s ⟨some ⟨bh, oh, none⟩, ch, pw, cw, pa, ca⟩ w w') := fun w' hb => HS.out.later hb
  go_wp2_with (at_builtin; refine wpList_append_ownAny _ rfl _ _ 34 rfl w2.heap.size 38 i0 (.agg #[.int .i64 0, .int .i64 0, .int .i64 0]) 3 24 Tryd.underlying34 hi0 hz0 hz1 hz2 rfl (by decide) (.slice none 0 0) 0 [] rfl (World.ownsRow_nil _ _ _ _) pa L ca xs rfl hacl hnil hcel h1c (by unfold maxLen; omega) (by omega) (Nat.le_refl _) ?_)
  intro v' w4 hown4 hgrow4
  have hB4 : Below w2.heap.size w2 w4 := (Below.refl _ w2).grown hgrow4 (Nat.le_refl _) (fun k e => by cases e)
  try rw [Nat.zero_add] at hown4
  try rw [List.nil_append] at hown4
  have HS4 : Hid _ := HCB.out w4 hB4
  have HB4 : Hid (Below w2.heap.size w2 w4) := hB4
  have sz4 := hB4.size
  clear l0 l1 l2 l3 f0 f1 f2 f3 d0 d1 d2 d3 z0 z1 z2 z3 j0 j1 j2 j3 hgrow4 hcel hnil h1c hacl hcg hbh
  have l0 := HS4.out.lb.c0
  have l1 := HS4.out.lb.c1
  have l2 := HS4.out.lb.c2
  have l3 := HS4.out.lb.c3
  have f0 := HS4.out.lb.fz 0
  have f1 := HS4.out.lb.fz 1
  have f2 := HS4.out.lb.fz 2
  have f3 := HS4.out.lb.fz 3
  simp only at l0 l1 l3
  rw [HLL.out] at l3
  have d0 := HS4.out.db.c0
  have d1 := HS4.out.db.c1
  have d2 := HS4.out.db.c2
  have d3 := HS4.out.db.c3
  simp only [Nat.zero_add] at d0 d1 d2 d3
  have z0 := HS4.out.zb.c0
  have z1 := HS4.out.zb.c1
  have z2 := HS4.out.zb.c2
  have z3 := HS4.out.zb.c3
  have j0 := HS4.out.zb.fz 0
  have j1 := HS4.out.zb.fz 1
  have j2 := HS4.out.zb.fz 2
  have j3 := HS4.out.zb.fz 3
  have sz := HS4.out.sz
  obtain ⟨ad4, c4, rfl⟩ := owns_slice hown4
  have HO4 : Hid (w4.ownsRow w2.heap.size 38 3 (.slice ad4 L c4) L xs) := hown4
  clear hown4 hB4
  go_wp2_with (at_builtin; refine wpList_append_own _ rfl _ _ 34 rfl w2.heap.size 38 i0 (.agg #[.int .i64 0, .int .i64 0, .int .i64 0]) 3 24 Tryd.underlying34 hi0 hz0 hz1 hz2 rfl (by decide) _ _ _ rfl (HO4.out.alloc _) ⟨w4.heap.size, 0, none⟩ 1 1 [.int .i64 (t : Nat), .int .i64 (o : Nat), .int .i64 0] rfl rfl (World.news_of_block (cs := #[.int .i64 (t : Nat), .int .i64 (o : Nat), .int .i64 0]) (t := 38) (fr := (0, 0)) (heap_alloc_new w4 _)) (by simp [Value.oneCell']) (by unfold maxLen; omega) (by omega) (by simp; omega) ?_)
  intro v5 w5 hown5 hgrow5 _
  have hB5 : Below w2.heap.size w2 w5 := (bel_al HB4.out _).grown hgrow5 (by simp; omega) (fun k e => (HO4.out.lt k e).1)
  obtain ⟨p5, c5, rfl⟩ := owns_slice hown5
  have HA5 : Hid (RA (fun k => w2.heap.size ≤ k) (M.sAct s t o 0).ac p5 c5 w5) := ra_of_owns (n := L + 1) (by show (s.ac ++ [⟨t, o, 0⟩] : List M.SAct).length = L + 1; rw [List.length_append, HLL.out]; rfl) (by
    show World.ownsRow _ _ _ _ _ _ (acells (s.ac ++ [⟨t, o, 0⟩]))
    rw [acells_snoc, HXS.out]; exact hown5)
  have HS5 : Hid (KS N G' ⟨3, (t : Nat), (o : Nat), 0⟩ s ⟨some ⟨bh, oh, none⟩, ch, pw, cw, pa, ca⟩ w w5) := HCB.out w5 hB5
  have HS6 : Hid (KS N G' ⟨3, (t : Nat), (o : Nat), 0⟩ (M.sAct s t o 0) ⟨some ⟨bh, oh, none⟩, ch, pw, cw, p5, c5⟩ w (w5.setCell ⟨N, 3, none⟩ (.slice p5 (L + 1) c5))) := by
    have h9 := HS5.out.setA (s' := M.sAct s t o 0) (Below.refl _ _) c5 rfl rfl rfl (HA5.out.mono (fun j _ hj => HS5.out.fr j (by have := sz; omega)))
    have e9 : (M.sAct s t o 0).ac.length = L + 1 := by show (s.ac ++ [⟨t, o, 0⟩] : List M.SAct).length = L + 1; rw [List.length_append, HLL.out]; rfl
    rw [e9] at h9
    exact h9
  have q1 := HS5.out.lb.c3
  have q2 := HS5.out.lb.fz 3
  simp only at q1
  rw [HLL.out] at q1
  obtain ⟨wz, hwz⟩ : ∃ wz, w5.setCell ⟨N, 3, none⟩ (.slice p5 (L + 1) c5) = wz := ⟨_, rfl⟩
  rw [hwz] at HS6
  clear l0 l1 l2 l3 f0 f1 f2 f3 d0 d1 d2 d3 z0 z1 z2 z3 j0 j1 j2 j3 hB5 hown5 hgrow5 sz sz4 HCB
  have l0 := HS6.out.lb.c0
  have l1 := HS6.out.lb.c1
  have l2 := HS6.out.lb.c2
  have l3 := HS6.out.lb.c3
  have f0 := HS6.out.lb.fz 0
  have f1 := HS6.out.lb.fz 1
  have f2 := HS6.out.lb.fz 2
  have f3 := HS6.out.lb.fz 3
  simp only at l0 l1 l3
  have d0 := HS6.out.db.c0
  have d1 := HS6.out.db.c1
  have d2 := HS6.out.db.c2
  have d3 := HS6.out.db.c3
  simp only [Nat.zero_add] at d0 d1 d2 d3
  have z0 := HS6.out.zb.c0
  have z1 := HS6.out.zb.c1
  have z2 := HS6.out.zb.c2
  have z3 := HS6.out.zb.c3
  have j0 := HS6.out.zb.fz 0
  have j1 := HS6.out.zb.fz 1
  have j2 := HS6.out.zb.fz 2
  have j3 := HS6.out.zb.fz 3
  have sz := HS6.out.sz
  obtain ⟨F1, F2, F3⟩ := HS6.out.ret HGG.out
  have HF : Hid _ := F1
  have HF2 : Hid _ := F2
  have HF3 : Hid _ := F3
  clear F1 F2 F3
  go_wp2_with fail
  refine bodyPost_ret (v := .tuple #[rlV (M.sAct s t o 0) ⟨some ⟨bh, oh, none⟩, ch, pw, cw, p5, c5⟩, .int .i64 ((0 : Nat) : Int)]) (results_lk rfl _ _ (N + 2) (M.sAct s t o 0) ⟨some ⟨bh, oh, none⟩, ch, pw, cw, p5, c5⟩ ((0 : Nat) : Int) rfl rfl HF.out) rfl ⟨_, rfl, HF2.out, HF3.out⟩

set_option maxRecDepth 100000 in
set_option maxHeartbeats 8000000 in
theorem rl_act2 {G : Nat → Prop} {s : M.Lk} (v : LV) (t o : Nat) (x : Nat) (w : World) (hR : RL G s v w) (hG : ∀ j, w.heap.size ≤ j → G j) (hS : M.LG s) (ht : t < 5) (ho : o < 4) (h0 : 2 ≤ s.hd t o) (hx : x < 2) (hL : s.ac.length < 24) :
    Calls Tryd.prog 19 #[rlV s v, dV 3 (t : Nat) (o : Nat) (x : Nat)] w fun e w' => ∃ v', e = .returned (.tuple #[rlV (M.sAct s t o x) v', .int .i64 ((0 : Nat) : Int)]) ∧ RL G (M.sAct s t o x) v' w' ∧ Below w.heap.size w w' := by
  have hKS := ks_begin (d := ⟨3, (t : Nat), (o : Nat), (x : Nat)⟩) hR hG
  obtain ⟨N, hN⟩ : ∃ N, w.heap.size = N := ⟨_, rfl⟩
  obtain ⟨G', hG'⟩ : ∃ G' : Nat → Prop, (fun j => G j ∧ j ≠ w.heap.size ∧ j ≠ w.heap.size + 1 ∧ j ≠ w.heap.size + 2) = G' := ⟨_, rfl⟩
  have HGG : Hid (∀ j, G' j → G j) := by rw [← hG']; exact fun j hj => hj.1
  rw [hG', hN] at hKS
  rw [hN]
  obtain ⟨ph, ch, pw, cw, pa, ca⟩ := v
  simp only at hKS
  obtain ⟨w2, hw2⟩ : ∃ w2, ((w.alloc (.cells #[.slice ph 20 ch, .slice pw 5 cw, .int .i64 (M.frS s : Nat), .slice pa s.ac.length ca] 46)).alloc (.cells #[.int .i64 3, .int .i64 (t : Nat), .int .i64 (o : Nat), .int .i64 (x : Nat)] 30)).alloc (.cells #[.slice none 0 0, .slice none 0 0, .int .i64 0, .slice none 0 0] 46) = w2 := ⟨_, rfl⟩
  rw [hw2] at hKS
  have HS : Hid (KS N G' ⟨3, (t : Nat), (o : Nat), (x : Nat)⟩ s ⟨ph, ch, pw, cw, pa, ca⟩ w w2) := hKS
  have l0 := hKS.lb.c0
  have l1 := hKS.lb.c1
  have l2 := hKS.lb.c2
  have l3 := hKS.lb.c3
  have f0 := hKS.lb.fz 0
  have f1 := hKS.lb.fz 1
  have f2 := hKS.lb.fz 2
  have f3 := hKS.lb.fz 3
  simp only at l0 l1 l3
  have d0 := hKS.db.c0
  have d1 := hKS.db.c1
  have d2 := hKS.db.c2
  have d3 := hKS.db.c3
  simp only [Nat.zero_add] at d0 d1 d2 d3
  have z0 := hKS.zb.c0
  have z1 := hKS.zb.c1
  have z2 := hKS.zb.c2
  have z3 := hKS.zb.c3
  have j0 := hKS.zb.fz 0
  have j1 := hKS.zb.fz 1
  have j2 := hKS.zb.fz 2
  have j3 := hKS.zb.fz 3
  have sz := hKS.sz
  clear hKS hR hG hG'
  have a0 := fun w' => ink_is 3 0 3 true w' (inK_true (by omega) (by omega))
  have a1 := fun w' => ink_is (t : Nat) 0 4 true w' (inK_true (by omega) (by omega))
  have a2 := fun w' => ink_is (o : Nat) 0 3 true w' (inK_true (by omega) (by omega))
  have a3 := fun w' => ink_is (x : Nat) 0 1 true w' (inK_true (by omega) (by omega))
  obtain ⟨g4, hg4⟩ : ∃ g, t * 4 = g := ⟨_, rfl⟩
  obtain ⟨g, hg⟩ : ∃ g, g4 + o = g := ⟨_, rfl⟩
  have i1 : (t : Int) * 4 = (g4 : Int) := by omega
  have i2 : (g4 : Int) + (o : Int) = (g : Int) := by omega
  have hg20 : g < 20 := by omega
  have hgi : (g : Int) < 20 := by omega
  have hti : (t : Int) < 5 := by omega
  obtain ⟨bh, oh, e1, hbh, _, hch⟩ := HS.out.rl.ho.at_ (by omega)
  simp only at e1
  subst e1
  have hcg := hch g hg20
  rw [show g / 4 = t by omega, show g % 4 = o by omega] at hcg
  have h3 : s.hd t o ≤ 3 := hS.li.le t o
  have HGT : Hid (g / 4 = t ∧ g % 4 = o ∧ t * 4 + o = g) := ⟨by omega, by omega, by omega⟩
  obtain ⟨h, hh⟩ : ∃ h, s.hd t o = h := ⟨_, rfl⟩
  rw [hh] at hcg h3
  have hz : ((h : Int) == 0) = false := by rw [← hh]; simp; omega
  have hy : ((h : Int) == 1) = false := by rw [← hh]; simp; omega
  have hLi : (s.ac.length : Int) < 24 := by omega
  obtain ⟨i0, hi0, hz0, hz1, hz2⟩ := infoAct_parts infoAct
  have HAC : Hid (RA G' s.ac pa ca w2) := HS.out.rl.ac
  have h1c := acells_one s.ac
  obtain ⟨L, hLL⟩ : ∃ L, s.ac.length = L := ⟨_, rfl⟩
  have HLL : Hid (s.ac.length = L) := hLL
  rw [hLL] at hLi hL l3
  have hacl : (acells s.ac).length = L * 3 := by rw [acells_len, hLL]
  obtain ⟨xs, hxs⟩ : ∃ xs, acells s.ac = xs := ⟨_, rfl⟩
  have HXS : Hid (acells s.ac = xs) := hxs
  rw [hxs] at h1c hacl
  have hcel : ∀ ad, pa = some ad → ∀ j u, xs[j]? = some u → w2.cell? (ad.add j) = some u := by rw [← hxs]; exact HAC.out.cells
  have hnil : pa = none → L = 0 ∧ ca = 0 := by rw [← hLL]; exact HAC.out.nil
  clear hLL hxs
  clear h0 hS hh
  clear hg hg4 hch
  go_enter Tryd.func19, Tryd.ntmps19
  go_wp2_with fail
  refine (a0 _).mono ?_
  rintro e w' ⟨rfl, rfl⟩
  go_wp2_with fail
  refine (a1 _).mono ?_
  rintro e w' ⟨rfl, rfl⟩
  go_wp2_with fail
  refine (a2 _).mono ?_
  rintro e w' ⟨rfl, rfl⟩
  go_wp2_with fail
  refine (a3 _).mono ?_
  rintro e w' ⟨rfl, rfl⟩
  have HCB : Hid (∀ w', Below w2.heap.size w2 w' → KS N G' ⟨3, (t : Nat), (o : Nat), (x : Nat)⟩ s ⟨some ⟨bh, oh, none⟩, ch, pw, cw, pa, ca⟩ w w') := fun w' hb => HS.out.later hb
  go_wp2_with (at_builtin; refine wpList_append_ownAny _ rfl _ _ 34 rfl w2.heap.size 38 i0 (.agg #[.int .i64 0, .int .i64 0, .int .i64 0]) 3 24 Tryd.underlying34 hi0 hz0 hz1 hz2 rfl (by decide) (.slice none 0 0) 0 [] rfl (World.ownsRow_nil _ _ _ _) pa L ca xs rfl hacl hnil hcel h1c (by unfold maxLen; omega) (by omega) (Nat.le_refl _) ?_)
  intro v' w4 hown4 hgrow4
  have hB4 : Below w2.heap.size w2 w4 := (Below.refl _ w2).grown hgrow4 (Nat.le_refl _) (fun k e => by cases e)
  try rw [Nat.zero_add] at hown4
  try rw [List.nil_append] at hown4
  have HS4 : Hid _ := HCB.out w4 hB4
  have HB4 : Hid (Below w2.heap.size w2 w4) := hB4
  have sz4 := hB4.size
  clear l0 l1 l2 l3 f0 f1 f2 f3 d0 d1 d2 d3 z0 z1 z2 z3 j0 j1 j2 j3 hgrow4 hcel hnil h1c hacl hcg hbh
  have l0 := HS4.out.lb.c0
  have l1 := HS4.out.lb.c1
  have l2 := HS4.out.lb.c2
  have l3 := HS4.out.lb.c3
  have f0 := HS4.out.lb.fz 0
  have f1 := HS4.out.lb.fz 1
  have f2 := HS4.out.lb.fz 2
  have f3 := HS4.out.lb.fz 3
  simp only at l0 l1 l3
  rw [HLL.out] at l3
  have d0 := HS4.out.db.c0
  have d1 := HS4.out.db.c1
  have d2 := HS4.out.db.c2
  have d3 := HS4.out.db.c3
  simp only [Nat.zero_add] at d0 d1 d2 d3
  have z0 := HS4.out.zb.c0
  have z1 := HS4.out.zb.c1
  have z2 := HS4.out.zb.c2
  have z3 := HS4.out.zb.c3
  have j0 := HS4.out.zb.fz 0
  have j1 := HS4.out.zb.fz 1
  have j2 := HS4.out.zb.fz 2
  have j3 := HS4.out.zb.fz 3
  have sz := HS4.out.sz
  obtain ⟨ad4, c4, rfl⟩ := owns_slice hown4
  have HO4 : Hid (w4.ownsRow w2.heap.size 38 3 (.slice ad4 L c4) L xs) := hown4
  clear hown4 hB4
  go_wp2_with (at_builtin; refine wpList_append_own _ rfl _ _ 34 rfl w2.heap.size 38 i0 (.agg #[.int .i64 0, .int .i64 0, .int .i64 0]) 3 24 Tryd.underlying34 hi0 hz0 hz1 hz2 rfl (by decide) _ _ _ rfl (HO4.out.alloc _) ⟨w4.heap.size, 0, none⟩ 1 1 [.int .i64 (t : Nat), .int .i64 (o : Nat), .int .i64 (x : Nat)] rfl rfl (World.news_of_block (cs := #[.int .i64 (t : Nat), .int .i64 (o : Nat), .int .i64 (x : Nat)]) (t := 38) (fr := (0, 0)) (heap_alloc_new w4 _)) (by simp [Value.oneCell']) (by unfold maxLen; omega) (by omega) (by simp; omega) ?_)
  intro v5 w5 hown5 hgrow5 _
  have hB5 : Below w2.heap.size w2 w5 := (bel_al HB4.out _).grown hgrow5 (by simp; omega) (fun k e => (HO4.out.lt k e).1)
  obtain ⟨p5, c5, rfl⟩ := owns_slice hown5
  have HA5 : Hid (RA (fun k => w2.heap.size ≤ k) (M.sAct s t o x).ac p5 c5 w5) := ra_of_owns (n := L + 1) (by show (s.ac ++ [⟨t, o, x⟩] : List M.SAct).length = L + 1; rw [List.length_append, HLL.out]; rfl) (by
    show World.ownsRow _ _ _ _ _ _ (acells (s.ac ++ [⟨t, o, x⟩]))
    rw [acells_snoc, HXS.out]; exact hown5)
  have HS5 : Hid (KS N G' ⟨3, (t : Nat), (o : Nat), (x : Nat)⟩ s ⟨some ⟨bh, oh, none⟩, ch, pw, cw, pa, ca⟩ w w5) := HCB.out w5 hB5
  have HS6 : Hid (KS N G' ⟨3, (t : Nat), (o : Nat), (x : Nat)⟩ (M.sAct s t o x) ⟨some ⟨bh, oh, none⟩, ch, pw, cw, p5, c5⟩ w (w5.setCell ⟨N, 3, none⟩ (.slice p5 (L + 1) c5))) := by
    have h9 := HS5.out.setA (s' := M.sAct s t o x) (Below.refl _ _) c5 rfl rfl rfl (HA5.out.mono (fun j _ hj => HS5.out.fr j (by have := sz; omega)))
    have e9 : (M.sAct s t o x).ac.length = L + 1 := by show (s.ac ++ [⟨t, o, x⟩] : List M.SAct).length = L + 1; rw [List.length_append, HLL.out]; rfl
    rw [e9] at h9
    exact h9
  have q1 := HS5.out.lb.c3
  have q2 := HS5.out.lb.fz 3
  simp only at q1
  rw [HLL.out] at q1
  obtain ⟨wz, hwz⟩ : ∃ wz, w5.setCell ⟨N, 3, none⟩ (.slice p5 (L + 1) c5) = wz := ⟨_, rfl⟩
  rw [hwz] at HS6
  clear l0 l1 l2 l3 f0 f1 f2 f3 d0 d1 d2 d3 z0 z1 z2 z3 j0 j1 j2 j3 hB5 hown5 hgrow5 sz sz4 HCB
  have l0 := HS6.out.lb.c0
  have l1 := HS6.out.lb.c1
  have l2 := HS6.out.lb.c2
  have l3 := HS6.out.lb.c3
  have f0 := HS6.out.lb.fz 0
  have f1 := HS6.out.lb.fz 1
  have f2 := HS6.out.lb.fz 2
  have f3 := HS6.out.lb.fz 3
  simp only at l0 l1 l3
  have d0 := HS6.out.db.c0
  have d1 := HS6.out.db.c1
  have d2 := HS6.out.db.c2
  have d3 := HS6.out.db.c3
  simp only [Nat.zero_add] at d0 d1 d2 d3
  have z0 := HS6.out.zb.c0
  have z1 := HS6.out.zb.c1
  have z2 := HS6.out.zb.c2
  have z3 := HS6.out.zb.c3
  have j0 := HS6.out.zb.fz 0
  have j1 := HS6.out.zb.fz 1
  have j2 := HS6.out.zb.fz 2
  have j3 := HS6.out.zb.fz 3
  have sz := HS6.out.sz
  obtain ⟨F1, F2, F3⟩ := HS6.out.ret HGG.out
  have HF : Hid _ := F1
  have HF2 : Hid _ := F2
  have HF3 : Hid _ := F3
  clear F1 F2 F3
  go_wp2_with fail
  refine bodyPost_ret (v := .tuple #[rlV (M.sAct s t o x) ⟨some ⟨bh, oh, none⟩, ch, pw, cw, p5, c5⟩, .int .i64 ((0 : Nat) : Int)]) (results_lk rfl _ _ (N + 2) (M.sAct s t o x) ⟨some ⟨bh, oh, none⟩, ch, pw, cw, p5, c5⟩ ((0 : Nat) : Int) rfl rfl HF.out) rfl ⟨_, rfl, HF2.out, HF3.out⟩

end Go.Proofs.YtcjodlgkmbmcgaaDoor
