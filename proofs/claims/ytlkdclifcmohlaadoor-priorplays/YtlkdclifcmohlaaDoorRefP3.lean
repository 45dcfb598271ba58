/- An act at the document's own gate (whensteadref3.Pass): it is done; written by mk_refp.py. -/
import Derived.Test.YtlkdclifcmohlaaDoorRefP0
import Derived.Test.YtlkdclifcmohlaaDoorBRf
import Derived.Test.YtlkdclifcmohlaaDoorRefS1
import Derived.StillTailTactics
import Derived.BigRegion
import Derived.BigQuiet
import Derived.Deep.CutRange
namespace Go.Proofs.YtlkdclifcmohlaaDoor
open Go.RowKit

set_option maxRecDepth 100000 in
set_option maxHeartbeats 8000000 in
theorem rp_did {G : Nat → Prop} {s : M.Gt} (t i x : Nat) (sk : Bool) (pa : Option Addr) (ca : Nat) (w : World) (hR : RA G s.ac pa ca w) (hG : ∀ j, w.heap.size ≤ j → G j) (hS : M.GG s) (h0 : aIn ⟨(t : Nat), (i : Nat), (x : Nat)⟩ = true) (ht : t < 5) (h1 : s.dead.testBit t = false) (hL : s.ac.length < 24) (hway : (x = 0 ∧ M.grW s t i = false) ∨ (x = 1 ∧ M.grR s t i = false ∧ M.grW s t i = false)) :
    Calls Tryd.prog 12 #[rgV sk s pa ca, acV ⟨(t : Nat), (i : Nat), (x : Nat)⟩] w fun e w' => ∃ p' c', e = .returned (.tuple #[rgV sk (M.pDid s ⟨t, i, x⟩) p' c', .bool true, .int .i64 ((0 : Nat) : Int)]) ∧ RA G (M.pDid s ⟨t, i, x⟩).ac p' c' w' ∧ Below w.heap.size w w' := by
  have hKG := kg_begin (o := ⟨(t : Nat), (i : Nat), (x : Nat)⟩) (sk := sk) hR hG
  obtain ⟨N, hN⟩ : ∃ N, w.heap.size = N := ⟨_, rfl⟩
  obtain ⟨G', hG'⟩ : ∃ G' : Nat → Prop, (fun j => G j ∧ j ≠ w.heap.size ∧ j ≠ w.heap.size + 1 ∧ j ≠ w.heap.size + 2) = G' := ⟨_, rfl⟩
  have HGG : Hid (∀ j, G' j → G j) := by rw [← hG']; exact fun j hj => hj.1
  rw [hG', hN] at hKG
  rw [hN]
  obtain ⟨w2, hw2⟩ : ∃ w2, ((w.alloc (.cells #[.bool sk, .int .i64 (s.dead : Nat), .slice pa s.ac.length ca] 39)).alloc (.cells #[.int .i64 (t : Nat), .int .i64 (i : Nat), .int .i64 (x : Nat)] 31)).alloc (.cells #[.bool false, .int .i64 0, .slice none 0 0] 39) = w2 := ⟨_, rfl⟩
  rw [hw2] at hKG
  have HS2 : Hid (KG N G' ⟨(t : Nat), (i : Nat), (x : Nat)⟩ sk s pa ca w w2) := hKG
  clear hR hG hG' hKG
  have sz := HS2.out.sz
  have l0 := HS2.out.rb.c0
  have l1 := HS2.out.rb.c1
  have l2 := HS2.out.rb.c2
  have f0 := HS2.out.rb.fz 0
  have f1 := HS2.out.rb.fz 1
  have f2 := HS2.out.rb.fz 2
  have d0 := HS2.out.ab.c0
  have d1 := HS2.out.ab.c1
  have d2 := HS2.out.ab.c2
  simp only [Nat.zero_add] at d0 d1 d2
  have z0 := HS2.out.zb.c0
  have z1 := HS2.out.zb.c1
  have z2 := HS2.out.zb.c2
  have j0 := HS2.out.zb.fz 0
  have j1 := HS2.out.zb.fz 1
  have j2 := HS2.out.zb.fz 2
  have a0 := fun w' => refAct_ok ⟨(t : Nat), (i : Nat), (x : Nat)⟩ w'
  rw [aCd_t h0] at a0
  clear h0
  have b0 := fun w' => bit_any s.dead t w' (by have := hS.dd; omega) (by omega)
  rw [h1] at b0
  obtain ⟨L, hLL⟩ : ∃ L, s.ac.length = L := ⟨_, rfl⟩
  have HLL : Hid (s.ac.length = L) := hLL
  have hLi : (L : Int) < 24 := by omega
  have HRW : Hid (rtB s.ac t i 0 L = M.grR s t i ∧ rtB s.ac t i 1 L = M.grW s t i) := by
    rw [← hLL]; exact ⟨rtB_R s t i, rtB_W s t i⟩
  have HWR : Hid (∀ a, a ∈ s.ac → a.wr < 2) := fun a ha => (hS.acs a ha).2.2
  rw [hLL] at l2
  clear h1 hS hLL
  go_enter Tryd.func12, Tryd.ntmps12
  go_wp2_with fail
  refine (a0 _).mono ?_
  rintro e w3 ⟨rfl, hB3⟩
  have HS : Hid (KG N G' ⟨(t : Nat), (i : Nat), (x : Nat)⟩ sk s pa ca w w3) := HS2.out.later hB3
  clear l0 l1 l2 f0 f1 f2 d0 d1 d2 z0 z1 z2 j0 j1 j2 sz hB3 a0
  have sz := HS.out.sz
  have l0 := HS.out.rb.c0
  have l1 := HS.out.rb.c1
  have l2 := HS.out.rb.c2
  rw [HLL.out] at l2
  have f0 := HS.out.rb.fz 0
  have f1 := HS.out.rb.fz 1
  have f2 := HS.out.rb.fz 2
  have d0 := HS.out.ab.c0
  have d1 := HS.out.ab.c1
  have d2 := HS.out.ab.c2
  simp only [Nat.zero_add] at d0 d1 d2
  have z0 := HS.out.zb.c0
  have z1 := HS.out.zb.c1
  have z2 := HS.out.zb.c2
  have j0 := HS.out.zb.fz 0
  have j1 := HS.out.zb.fz 1
  have j2 := HS.out.zb.fz 2
  go_wp2_with fail
  refine (b0 _).mono ?_
  rintro e w4 ⟨rfl, rfl⟩
  clear b0
  have HRA : Hid (RA G' s.ac pa ca w3) := HS.out.ra
  go_wp2_with fail
  go_loopw [7, 8, 9] (fun u v k wr => ∃ j : Nat, k = .int .i64 (j : Nat) ∧ j ≤ L ∧ u = .bool (rtB s.ac t i 0 j) ∧ v = .bool (rtB s.ac t i 1 j) ∧ ∃ m, wr = w3.drewN m) (fun _ _ k _ => L - (intOf k).toNat)
  case atStart => exact ⟨0, rfl, Nat.zero_le _, rfl, rfl, 0, rfl⟩
  case round =>
    obtain ⟨j, rfl, hj, rfl, rfl, m, rfl⟩ := hrel
    by_cases hjL : j < L
    · have hji : (j : Int) < (L : Int) := by omega
      have hjl : j < s.ac.length := by rw [HLL.out]; exact hjL
      obtain ⟨b, off, rfl, _, hact⟩ := HRA.out.act j hjl
      have hm0 := @rtB_miss s.ac t i 0 j hjl
      have hm1 := @rtB_miss s.ac t i 1 j hjl
      have hh0 := @rtB_hit s.ac t i 0 j hjl
      have hh1 := @rtB_hit s.ac t i 1 j hjl
      have hx2 := HWR.out _ (M.sat_mem hjl)
      obtain ⟨⟨t1, i1, x1⟩, e1⟩ : ∃ a, M.sat s.ac j = a := ⟨_, rfl⟩
      rw [e1] at hact hm0 hm1 hh0 hh1 hx2
      simp only at hm0 hm1 hh0 hh1 hx2
      have k0 := hact.c0
      have k1 := hact.c1
      have k2 := hact.c2
      have lb := hact.lt
      simp only [azN] at k0 k1 k2
      obtain ⟨r, hr⟩ : ∃ r, rtB s.ac t i 0 j = r := ⟨_, rfl⟩
      obtain ⟨q, hq⟩ : ∃ q, rtB s.ac t i 1 j = q := ⟨_, rfl⟩
      rw [hr] at hm0 ⊢
      rw [hq] at hm1 ⊢
      clear hr hq hact e1 hjl
      by_cases g1 : i1 = i
      case neg =>
        have v1 : ((i1 : Int) == (i : Int)) = false := by simp; omega
        have HN : Hid (rtB s.ac t i 0 (j + 1) = r ∧ rtB s.ac t i 1 (j + 1) = q) := ⟨hm0 (.inl g1), hm1 (.inl g1)⟩
        clear hm0 hm1 hh0 hh1 g1 hx2
        go_wp2_with fail
        go_big_quiet (fail)
        go_wp2_with fail
        go_roundw
        case rel => exact ⟨j + 1, by go_num, by omega, by rw [HN.out.1], by rw [HN.out.2], m + nq, rfl⟩
        case measure => simp [intOf]; omega
      have v1 : ((i1 : Int) == (i : Int)) = true := by rw [g1]; simp
      by_cases g2 : t < t1
      case neg =>
        have v2 : decide ((t : Int) < (t1 : Int)) = false := decide_eq_false (by omega)
        have v2' : decide (t < t1) = false := decide_eq_false g2
        have HN : Hid (rtB s.ac t i 0 (j + 1) = r ∧ rtB s.ac t i 1 (j + 1) = q) := ⟨hm0 (.inr (.inl g2)), hm1 (.inr (.inl g2))⟩
        clear hm0 hm1 hh0 hh1 g1 g2 hx2
        go_wp2_with fail
        go_big_quiet (fail)
        go_wp2_with fail
        go_roundw
        case rel => exact ⟨j + 1, by go_num, by omega, by rw [HN.out.1], by rw [HN.out.2], m + nq, rfl⟩
        case measure => simp [intOf]; omega
      have v2 : decide ((t : Int) < (t1 : Int)) = true := decide_eq_true (by omega)
      have v2' : decide (t < t1) = true := decide_eq_true g2
      obtain ⟨r', q', HN, hrq⟩ : ∃ r' q', Hid (rtB s.ac t i 0 (j + 1) = r' ∧ rtB s.ac t i 1 (j + 1) = q') ∧ ((x1 = 0 ∧ true = r' ∧ q = q') ∨ (x1 = 1 ∧ r = r' ∧ true = q')) := by
        have : x1 = 0 ∨ x1 = 1 := by omega
        rcases this with e | e
        · exact ⟨true, q, ⟨hh0 g1 g2 e, hm1 (.inr (.inr (by omega)))⟩, .inl ⟨e, rfl, rfl⟩⟩
        · exact ⟨r, true, ⟨hm0 (.inr (.inr (by omega))), hh1 g1 g2 e⟩, .inr ⟨e, rfl, rfl⟩⟩
      clear hm0 hm1 hh0 hh1 g1 g2 hx2
      rcases hrq with ⟨rfl, rfl, rfl⟩ | ⟨rfl, rfl, rfl⟩
      all_goals cases r
      all_goals cases q
      all_goals
        go_wp2_with fail
        go_big_quiet (fail)
        go_wp2_with fail
        go_roundw
        case rel => exact ⟨j + 1, by go_num, by omega, by rw [HN.out.1], by rw [HN.out.2], m + nq, rfl⟩
        case measure => simp [intOf]; omega
    obtain rfl : L = j := by omega
    rw [HRW.out.1, HRW.out.2]
    obtain ⟨w5, hw5⟩ : ∃ w5, w3.drewN m = w5 := ⟨_, rfl⟩
    have HS5 : Hid (KG N G' ⟨(t : Nat), (i : Nat), (x : Nat)⟩ sk s pa ca w w5) := by rw [← hw5]; exact HS.out.later (below_drewN w3 m)
    rw [hw5]
    clear hw5 hjL hj HRA HWR HRW HS
    clear l0 l1 l2 f0 f1 f2 d0 d1 d2 z0 z1 z2 j0 j1 j2 sz
    have sz := HS5.out.sz
    have l0 := HS5.out.rb.c0
    have l1 := HS5.out.rb.c1
    have l2 := HS5.out.rb.c2
    rw [HLL.out] at l2
    have f0 := HS5.out.rb.fz 0
    have f1 := HS5.out.rb.fz 1
    have f2 := HS5.out.rb.fz 2
    have d0 := HS5.out.ab.c0
    have d1 := HS5.out.ab.c1
    have d2 := HS5.out.ab.c2
    simp only [Nat.zero_add] at d0 d1 d2
    have z0 := HS5.out.zb.c0
    have z1 := HS5.out.zb.c1
    have z2 := HS5.out.zb.c2
    have j0 := HS5.out.zb.fz 0
    have j1 := HS5.out.zb.fz 1
    have j2 := HS5.out.zb.fz 2
    obtain ⟨i0, hi0, hz0, hz1, hz2⟩ := infoAct_parts infoAct
    have h1c := acells_one s.ac
    have hacl : (acells s.ac).length = L * 3 := by rw [acells_len, HLL.out]
    obtain ⟨xs, hxs⟩ : ∃ xs, acells s.ac = xs := ⟨_, rfl⟩
    have HXS : Hid (acells s.ac = xs) := hxs
    rw [hxs] at h1c hacl
    have hcel : ∀ ad, pa = some ad → ∀ j u, xs[j]? = some u → w5.cell? (ad.add j) = some u := by rw [← hxs]; exact HS5.out.ra.cellsP
    have hnil : pa = none → L = 0 ∧ ca = 0 := by rw [← HLL.out]; exact HS5.out.ra.nil
    have HCB : Hid (∀ w', Below w5.heap.size w5 w' → KG N G' ⟨(t : Nat), (i : Nat), (x : Nat)⟩ sk s pa ca w w') := fun w' hb => HS5.out.later hb
    clear hxs
    rcases hway with ⟨hx, hq⟩ | ⟨hx, hr, hq⟩
    · rw [hq]
      have x0 : ((x : Int) == 0) = true := by rw [hx]; rfl
      have x1 : ((x : Int) == 1) = false := by rw [hx]; rfl
      clear hx hq
      go_wp2_with (at_builtin; refine wpList_append_ownAny _ rfl _ _ 22 rfl w5.heap.size 31 i0 (.agg #[.int .i64 0, .int .i64 0, .int .i64 0]) 3 24 Tryd.underlying22 hi0 hz0 hz1 hz2 rfl (by decide) (.slice none 0 0) 0 [] rfl (World.ownsRow_nil _ _ _ _) pa L ca xs rfl hacl hnil hcel h1c (by unfold maxLen; omega) (by omega) (Nat.le_refl _) ?_)
      intro v' w4 hown4 hgrow4
      have hB4 : Below w5.heap.size w5 w4 := (Below.refl _ w5).grown hgrow4 (Nat.le_refl _) (fun k e => by cases e)
      try rw [Nat.zero_add] at hown4
      try rw [List.nil_append] at hown4
      have HS4 : Hid _ := HCB.out w4 hB4
      have HB4 : Hid (Below w5.heap.size w5 w4) := hB4
      have sz4 := hB4.size
      clear l0 l1 l2 f0 f1 f2 d0 d1 d2 z0 z1 z2 j0 j1 j2 sz hgrow4 hcel hnil h1c hacl
      have sz := HS4.out.sz
      have l0 := HS4.out.rb.c0
      have l1 := HS4.out.rb.c1
      have l2 := HS4.out.rb.c2
      rw [HLL.out] at l2
      have f0 := HS4.out.rb.fz 0
      have f1 := HS4.out.rb.fz 1
      have f2 := HS4.out.rb.fz 2
      have d0 := HS4.out.ab.c0
      have d1 := HS4.out.ab.c1
      have d2 := HS4.out.ab.c2
      simp only [Nat.zero_add] at d0 d1 d2
      have z0 := HS4.out.zb.c0
      have z1 := HS4.out.zb.c1
      have z2 := HS4.out.zb.c2
      have j0 := HS4.out.zb.fz 0
      have j1 := HS4.out.zb.fz 1
      have j2 := HS4.out.zb.fz 2
      obtain ⟨ad4, c4, rfl⟩ := owns_slice hown4
      have HO4 : Hid (w4.ownsRow w5.heap.size 31 3 (.slice ad4 L c4) L xs) := hown4
      clear hown4 hB4
      go_wp2_with (at_builtin; refine wpList_append_own _ rfl _ _ 22 rfl w5.heap.size 31 i0 (.agg #[.int .i64 0, .int .i64 0, .int .i64 0]) 3 24 Tryd.underlying22 hi0 hz0 hz1 hz2 rfl (by decide) _ _ _ rfl (HO4.out.alloc _) ⟨w4.heap.size, 0, none⟩ 1 1 [.int .i64 (t : Nat), .int .i64 (i : Nat), .int .i64 _] rfl rfl (World.news_of_block (cs := #[.int .i64 (t : Nat), .int .i64 (i : Nat), .int .i64 _]) (t := 31) (fr := (0, 0)) (heap_alloc_new w4 _)) (by simp [Value.oneCell']) (by unfold maxLen; omega) (by omega) (by simp; omega) ?_)
      intro v5 w6 hown5 hgrow5 _
      have hB5 : Below w5.heap.size w5 w6 := (bel_al HB4.out _).grown hgrow5 (by simp; omega) (fun k e => (HO4.out.lt k e).1)
      obtain ⟨p5, c5, rfl⟩ := owns_slice hown5
      have HA5 : Hid (RA (fun k => w5.heap.size ≤ k) (M.pDid s ⟨t, i, x⟩).ac p5 c5 w6) := raP_of_owns (n := L + 1) (by show (s.ac ++ [⟨t, i, x⟩] : List M.SAct).length = L + 1; rw [List.length_append, HLL.out]; rfl) (by
        show World.ownsRow _ _ _ _ _ _ (acells (s.ac ++ [⟨t, i, x⟩]))
        rw [acells_snoc, HXS.out]; exact hown5)
      have e9 : (M.pDid s ⟨t, i, x⟩).ac.length = L + 1 := by show (s.ac ++ [⟨t, i, x⟩] : List M.SAct).length = L + 1; rw [List.length_append, HLL.out]; rfl
      have HS6 : Hid (KG N G' ⟨(t : Nat), (i : Nat), (x : Nat)⟩ sk (M.pDid s ⟨t, i, x⟩) p5 c5 w (w6.setCell ⟨N, 2, none⟩ (.slice p5 (L + 1) c5))) := by
        have h9 := (HCB.out w6 hB5).setA (s' := M.pDid s ⟨t, i, x⟩) (Below.refl _ _) c5 rfl (HA5.out.mono (fun j _ hj => HS5.out.fr j (by have := HS5.out.sz; omega)))
        rw [e9] at h9
        exact h9
      have q1 := (HCB.out w6 hB5).rb.c2
      have q2 := (HCB.out w6 hB5).rb.fz 2
      rw [HLL.out] at q1
      have szN : N < w6.heap.size := (HCB.out w6 hB5).rb.lt
      obtain ⟨w7, hw7⟩ : ∃ w7, w6.setCell ⟨N, 2, none⟩ (.slice p5 (L + 1) c5) = w7 := ⟨_, rfl⟩
      rw [hw7] at HS6
      clear l0 l1 l2 f0 f1 f2 d0 d1 d2 z0 z1 z2 j0 j1 j2 sz hB5 hown5 hgrow5 sz4 HCB
      have sz := HS6.out.sz
      have l0 := HS6.out.rb.c0
      have l1 := HS6.out.rb.c1
      have l2 := HS6.out.rb.c2
      rw [e9] at l2
      have f0 := HS6.out.rb.fz 0
      have f1 := HS6.out.rb.fz 1
      have f2 := HS6.out.rb.fz 2
      have d0 := HS6.out.ab.c0
      have d1 := HS6.out.ab.c1
      have d2 := HS6.out.ab.c2
      simp only [Nat.zero_add] at d0 d1 d2
      have z0 := HS6.out.zb.c0
      have z1 := HS6.out.zb.c1
      have z2 := HS6.out.zb.c2
      have j0 := HS6.out.zb.fz 0
      have j1 := HS6.out.zb.fz 1
      have j2 := HS6.out.zb.fz 2
      obtain ⟨F1, F2, F3⟩ := HS6.out.ret HGG.out
      have E : cpyG w7 (N + 2) sk (M.pDid s ⟨t, i, x⟩).dead (M.pDid s ⟨t, i, x⟩).ac.length p5 c5 = cpyG w7 (N + 2) sk s.dead (L + 1) p5 c5 := by rw [e9]; rfl
      rw [E] at F1 F2 F3
      have HF : Hid _ := F1
      have HF2 : Hid _ := F2
      have HF3 : Hid _ := F3
      clear F1 F2 F3 E e9
      go_wp2_with fail
      refine bodyPost_ret (v := .tuple #[rgV sk (M.pDid s ⟨t, i, x⟩) p5 c5, .bool true, .int .i64 (((0 : Nat) : Int))]) (results_rg rfl _ _ (N + 2) sk (M.pDid s ⟨t, i, x⟩) p5 c5 true ((0 : Nat) : Int) rfl rfl rfl HF.out) rfl ⟨_, _, rfl, HF2.out, HF3.out⟩
    · rw [hr, hq]
      have x0 : ((x : Int) == 0) = false := by rw [hx]; rfl
      have x1 : ((x : Int) == 1) = true := by rw [hx]; rfl
      clear hx hr hq
      go_wp2_with (at_builtin; refine wpList_append_ownAny _ rfl _ _ 22 rfl w5.heap.size 31 i0 (.agg #[.int .i64 0, .int .i64 0, .int .i64 0]) 3 24 Tryd.underlying22 hi0 hz0 hz1 hz2 rfl (by decide) (.slice none 0 0) 0 [] rfl (World.ownsRow_nil _ _ _ _) pa L ca xs rfl hacl hnil hcel h1c (by unfold maxLen; omega) (by omega) (Nat.le_refl _) ?_)
      intro v' w4 hown4 hgrow4
      have hB4 : Below w5.heap.size w5 w4 := (Below.refl _ w5).grown hgrow4 (Nat.le_refl _) (fun k e => by cases e)
      try rw [Nat.zero_add] at hown4
      try rw [List.nil_append] at hown4
      have HS4 : Hid _ := HCB.out w4 hB4
      have HB4 : Hid (Below w5.heap.size w5 w4) := hB4
      have sz4 := hB4.size
      clear l0 l1 l2 f0 f1 f2 d0 d1 d2 z0 z1 z2 j0 j1 j2 sz hgrow4 hcel hnil h1c hacl
      have sz := HS4.out.sz
      have l0 := HS4.out.rb.c0
      have l1 := HS4.out.rb.c1
      have l2 := HS4.out.rb.c2
      rw [HLL.out] at l2
      have f0 := HS4.out.rb.fz 0
      have f1 := HS4.out.rb.fz 1
      have f2 := HS4.out.rb.fz 2
      have d0 := HS4.out.ab.c0
      have d1 := HS4.out.ab.c1
      have d2 := HS4.out.ab.c2
      simp only [Nat.zero_add] at d0 d1 d2
      have z0 := HS4.out.zb.c0
      have z1 := HS4.out.zb.c1
      have z2 := HS4.out.zb.c2
      have j0 := HS4.out.zb.fz 0
      have j1 := HS4.out.zb.fz 1
      have j2 := HS4.out.zb.fz 2
      obtain ⟨ad4, c4, rfl⟩ := owns_slice hown4
      have HO4 : Hid (w4.ownsRow w5.heap.size 31 3 (.slice ad4 L c4) L xs) := hown4
      clear hown4 hB4
      go_wp2_with (at_builtin; refine wpList_append_own _ rfl _ _ 22 rfl w5.heap.size 31 i0 (.agg #[.int .i64 0, .int .i64 0, .int .i64 0]) 3 24 Tryd.underlying22 hi0 hz0 hz1 hz2 rfl (by decide) _ _ _ rfl (HO4.out.alloc _) ⟨w4.heap.size, 0, none⟩ 1 1 [.int .i64 (t : Nat), .int .i64 (i : Nat), .int .i64 _] rfl rfl (World.news_of_block (cs := #[.int .i64 (t : Nat), .int .i64 (i : Nat), .int .i64 _]) (t := 31) (fr := (0, 0)) (heap_alloc_new w4 _)) (by simp [Value.oneCell']) (by unfold maxLen; omega) (by omega) (by simp; omega) ?_)
      intro v5 w6 hown5 hgrow5 _
      have hB5 : Below w5.heap.size w5 w6 := (bel_al HB4.out _).grown hgrow5 (by simp; omega) (fun k e => (HO4.out.lt k e).1)
      obtain ⟨p5, c5, rfl⟩ := owns_slice hown5
      have HA5 : Hid (RA (fun k => w5.heap.size ≤ k) (M.pDid s ⟨t, i, x⟩).ac p5 c5 w6) := raP_of_owns (n := L + 1) (by show (s.ac ++ [⟨t, i, x⟩] : List M.SAct).length = L + 1; rw [List.length_append, HLL.out]; rfl) (by
        show World.ownsRow _ _ _ _ _ _ (acells (s.ac ++ [⟨t, i, x⟩]))
        rw [acells_snoc, HXS.out]; exact hown5)
      have e9 : (M.pDid s ⟨t, i, x⟩).ac.length = L + 1 := by show (s.ac ++ [⟨t, i, x⟩] : List M.SAct).length = L + 1; rw [List.length_append, HLL.out]; rfl
      have HS6 : Hid (KG N G' ⟨(t : Nat), (i : Nat), (x : Nat)⟩ sk (M.pDid s ⟨t, i, x⟩) p5 c5 w (w6.setCell ⟨N, 2, none⟩ (.slice p5 (L + 1) c5))) := by
        have h9 := (HCB.out w6 hB5).setA (s' := M.pDid s ⟨t, i, x⟩) (Below.refl _ _) c5 rfl (HA5.out.mono (fun j _ hj => HS5.out.fr j (by have := HS5.out.sz; omega)))
        rw [e9] at h9
        exact h9
      have q1 := (HCB.out w6 hB5).rb.c2
      have q2 := (HCB.out w6 hB5).rb.fz 2
      rw [HLL.out] at q1
      have szN : N < w6.heap.size := (HCB.out w6 hB5).rb.lt
      obtain ⟨w7, hw7⟩ : ∃ w7, w6.setCell ⟨N, 2, none⟩ (.slice p5 (L + 1) c5) = w7 := ⟨_, rfl⟩
      rw [hw7] at HS6
      clear l0 l1 l2 f0 f1 f2 d0 d1 d2 z0 z1 z2 j0 j1 j2 sz hB5 hown5 hgrow5 sz4 HCB
      have sz := HS6.out.sz
      have l0 := HS6.out.rb.c0
      have l1 := HS6.out.rb.c1
      have l2 := HS6.out.rb.c2
      rw [e9] at l2
      have f0 := HS6.out.rb.fz 0
      have f1 := HS6.out.rb.fz 1
      have f2 := HS6.out.rb.fz 2
      have d0 := HS6.out.ab.c0
      have d1 := HS6.out.ab.c1
      have d2 := HS6.out.ab.c2
      simp only [Nat.zero_add] at d0 d1 d2
      have z0 := HS6.out.zb.c0
      have z1 := HS6.out.zb.c1
      have z2 := HS6.out.zb.c2
      have j0 := HS6.out.zb.fz 0
      have j1 := HS6.out.zb.fz 1
      have j2 := HS6.out.zb.fz 2
      obtain ⟨F1, F2, F3⟩ := HS6.out.ret HGG.out
      have E : cpyG w7 (N + 2) sk (M.pDid s ⟨t, i, x⟩).dead (M.pDid s ⟨t, i, x⟩).ac.length p5 c5 = cpyG w7 (N + 2) sk s.dead (L + 1) p5 c5 := by rw [e9]; rfl
      rw [E] at F1 F2 F3
      have HF : Hid _ := F1
      have HF2 : Hid _ := F2
      have HF3 : Hid _ := F3
      clear F1 F2 F3 E e9
      go_wp2_with fail
      refine bodyPost_ret (v := .tuple #[rgV sk (M.pDid s ⟨t, i, x⟩) p5 c5, .bool true, .int .i64 (((0 : Nat) : Int))]) (results_rg rfl _ _ (N + 2) sk (M.pDid s ⟨t, i, x⟩) p5 c5 true ((0 : Nat) : Int) rfl rfl rfl HF.out) rfl ⟨_, _, rfl, HF2.out, HF3.out⟩

end Go.Proofs.YtlkdclifcmohlaaDoor
