/- An act at the document's own gate (whensteadref3.Pass), branch by branch; written by mk_refp.py. -/
import Derived.Test.YtlkdclifcmohlaaDoorRefP0
import Derived.Test.YtlkdclifcmohlaaDoorBRf
import Derived.Test.YtlkdclifcmohlaaDoorRefS1
import Derived.StillTailTactics
import Derived.BigRegion
import Derived.BigQuiet
import Derived.Deep.CutRange
namespace Go.Proofs.YtlkdclifcmohlaaDoor
open Go.RowKit

set_option maxRecDepth 100000 in
set_option maxHeartbeats 8000000 in
theorem rp_bad {G : Nat → Prop} {s : M.Gt} (o : Az) (sk : Bool) (pa : Option Addr) (ca : Nat) (w : World) (hR : RA G s.ac pa ca w) (hG : ∀ j, w.heap.size ≤ j → G j) (h0 : aIn o = false) :
    Calls Tryd.prog 12 #[rgV sk s pa ca, acV o] w fun e w' => ∃ p' c', e = .returned (.tuple #[rgV sk s p' c', .bool false, .int .i64 ((1 : Nat) : Int)]) ∧ RA G s.ac p' c' w' ∧ Below w.heap.size w w' := by
  have hKG := kg_begin (o := o) (sk := sk) hR hG
  obtain ⟨N, hN⟩ : ∃ N, w.heap.size = N := ⟨_, rfl⟩
  obtain ⟨G', hG'⟩ : ∃ G' : Nat → Prop, (fun j => G j ∧ j ≠ w.heap.size ∧ j ≠ w.heap.size + 1 ∧ j ≠ w.heap.size + 2) = G' := ⟨_, rfl⟩
  have HGG : Hid (∀ j, G' j → G j) := by rw [← hG']; exact fun j hj => hj.1
  rw [hG', hN] at hKG
  rw [hN]
  obtain ⟨w2, hw2⟩ : ∃ w2, ((w.alloc (.cells #[.bool sk, .int .i64 (s.dead : Nat), .slice pa s.ac.length ca] 39)).alloc (.cells #[.int .i64 o.tx, .int .i64 o.it, .int .i64 o.wt] 31)).alloc (.cells #[.bool false, .int .i64 0, .slice none 0 0] 39) = w2 := ⟨_, rfl⟩
  rw [hw2] at hKG
  have HS2 : Hid (KG N G' o sk s pa ca w w2) := hKG
  clear hR hG hG' hKG
  have sz := HS2.out.sz
  have l0 := HS2.out.rb.c0
  have l1 := HS2.out.rb.c1
  have l2 := HS2.out.rb.c2
  have f0 := HS2.out.rb.fz 0
  have f1 := HS2.out.rb.fz 1
  have f2 := HS2.out.rb.fz 2
  have d0 := HS2.out.ab.c0
  have d1 := HS2.out.ab.c1
  have d2 := HS2.out.ab.c2
  simp only [Nat.zero_add] at d0 d1 d2
  have z0 := HS2.out.zb.c0
  have z1 := HS2.out.zb.c1
  have z2 := HS2.out.zb.c2
  have j0 := HS2.out.zb.fz 0
  have j1 := HS2.out.zb.fz 1
  have j2 := HS2.out.zb.fz 2
  have a0 := fun w' => refAct_ok o w'
  rw [aCd_f h0] at a0
  clear h0
  go_enter Tryd.func12, Tryd.ntmps12
  go_wp2_with fail
  refine (a0 _).mono ?_
  rintro e w3 ⟨rfl, hB3⟩
  have HS : Hid (KG N G' o sk s pa ca w w3) := HS2.out.later hB3
  clear l0 l1 l2 f0 f1 f2 d0 d1 d2 z0 z1 z2 j0 j1 j2 sz hB3 a0
  have sz := HS.out.sz
  have l0 := HS.out.rb.c0
  have l1 := HS.out.rb.c1
  have l2 := HS.out.rb.c2
  have f0 := HS.out.rb.fz 0
  have f1 := HS.out.rb.fz 1
  have f2 := HS.out.rb.fz 2
  have d0 := HS.out.ab.c0
  have d1 := HS.out.ab.c1
  have d2 := HS.out.ab.c2
  simp only [Nat.zero_add] at d0 d1 d2
  have z0 := HS.out.zb.c0
  have z1 := HS.out.zb.c1
  have z2 := HS.out.zb.c2
  have j0 := HS.out.zb.fz 0
  have j1 := HS.out.zb.fz 1
  have j2 := HS.out.zb.fz 2
  obtain ⟨F1, F2, F3⟩ := HS.out.ret HGG.out
  have HF : Hid _ := F1
  have HF2 : Hid _ := F2
  have HF3 : Hid _ := F3
  clear F1 F2 F3
  go_wp2_with fail
  refine bodyPost_ret (v := .tuple #[rgV sk s pa ca, .bool false, .int .i64 (((1 : Nat) : Int))]) (results_rg rfl _ _ (N + 2) sk s pa ca false ((1 : Nat) : Int) rfl rfl rfl HF.out) rfl ⟨_, _, rfl, HF2.out, HF3.out⟩

set_option maxRecDepth 100000 in
set_option maxHeartbeats 8000000 in
theorem rp_dead {G : Nat → Prop} {s : M.Gt} (t i x : Nat) (sk : Bool) (pa : Option Addr) (ca : Nat) (w : World) (hR : RA G s.ac pa ca w) (hG : ∀ j, w.heap.size ≤ j → G j) (hS : M.GG s) (h0 : aIn ⟨(t : Nat), (i : Nat), (x : Nat)⟩ = true) (ht : t < 5) (h1 : s.dead.testBit t = true) :
    Calls Tryd.prog 12 #[rgV sk s pa ca, acV ⟨(t : Nat), (i : Nat), (x : Nat)⟩] w fun e w' => ∃ p' c', e = .returned (.tuple #[rgV sk s p' c', .bool false, .int .i64 ((7 : Nat) : Int)]) ∧ RA G s.ac p' c' w' ∧ Below w.heap.size w w' := by
  have hKG := kg_begin (o := ⟨(t : Nat), (i : Nat), (x : Nat)⟩) (sk := sk) hR hG
  obtain ⟨N, hN⟩ : ∃ N, w.heap.size = N := ⟨_, rfl⟩
  obtain ⟨G', hG'⟩ : ∃ G' : Nat → Prop, (fun j => G j ∧ j ≠ w.heap.size ∧ j ≠ w.heap.size + 1 ∧ j ≠ w.heap.size + 2) = G' := ⟨_, rfl⟩
  have HGG : Hid (∀ j, G' j → G j) := by rw [← hG']; exact fun j hj => hj.1
  rw [hG', hN] at hKG
  rw [hN]
  obtain ⟨w2, hw2⟩ : ∃ w2, ((w.alloc (.cells #[.bool sk, .int .i64 (s.dead : Nat), .slice pa s.ac.length ca] 39)).alloc (.cells #[.int .i64 (t : Nat), .int .i64 (i : Nat), .int .i64 (x : Nat)] 31)).alloc (.cells #[.bool false, .int .i64 0, .slice none 0 0] 39) = w2 := ⟨_, rfl⟩
  rw [hw2] at hKG
  have HS2 : Hid (KG N G' ⟨(t : Nat), (i : Nat), (x : Nat)⟩ sk s pa ca w w2) := hKG
  clear hR hG hG' hKG
  have sz := HS2.out.sz
  have l0 := HS2.out.rb.c0
  have l1 := HS2.out.rb.c1
  have l2 := HS2.out.rb.c2
  have f0 := HS2.out.rb.fz 0
  have f1 := HS2.out.rb.fz 1
  have f2 := HS2.out.rb.fz 2
  have d0 := HS2.out.ab.c0
  have d1 := HS2.out.ab.c1
  have d2 := HS2.out.ab.c2
  simp only [Nat.zero_add] at d0 d1 d2
  have z0 := HS2.out.zb.c0
  have z1 := HS2.out.zb.c1
  have z2 := HS2.out.zb.c2
  have j0 := HS2.out.zb.fz 0
  have j1 := HS2.out.zb.fz 1
  have j2 := HS2.out.zb.fz 2
  have a0 := fun w' => refAct_ok ⟨(t : Nat), (i : Nat), (x : Nat)⟩ w'
  rw [aCd_t h0] at a0
  clear h0
  have b0 := fun w' => bit_any s.dead t w' (by have := hS.dd; omega) (by omega)
  rw [h1] at b0
  clear h1 hS
  go_enter Tryd.func12, Tryd.ntmps12
  go_wp2_with fail
  refine (a0 _).mono ?_
  rintro e w3 ⟨rfl, hB3⟩
  have HS : Hid (KG N G' ⟨(t : Nat), (i : Nat), (x : Nat)⟩ sk s pa ca w w3) := HS2.out.later hB3
  clear l0 l1 l2 f0 f1 f2 d0 d1 d2 z0 z1 z2 j0 j1 j2 sz hB3 a0
  have sz := HS.out.sz
  have l0 := HS.out.rb.c0
  have l1 := HS.out.rb.c1
  have l2 := HS.out.rb.c2
  have f0 := HS.out.rb.fz 0
  have f1 := HS.out.rb.fz 1
  have f2 := HS.out.rb.fz 2
  have d0 := HS.out.ab.c0
  have d1 := HS.out.ab.c1
  have d2 := HS.out.ab.c2
  simp only [Nat.zero_add] at d0 d1 d2
  have z0 := HS.out.zb.c0
  have z1 := HS.out.zb.c1
  have z2 := HS.out.zb.c2
  have j0 := HS.out.zb.fz 0
  have j1 := HS.out.zb.fz 1
  have j2 := HS.out.zb.fz 2
  go_wp2_with fail
  refine (b0 _).mono ?_
  rintro e w4 ⟨rfl, rfl⟩
  obtain ⟨F1, F2, F3⟩ := HS.out.ret HGG.out
  have HF : Hid _ := F1
  have HF2 : Hid _ := F2
  have HF3 : Hid _ := F3
  clear F1 F2 F3
  go_wp2_with fail
  refine bodyPost_ret (v := .tuple #[rgV sk s pa ca, .bool false, .int .i64 (((7 : Nat) : Int))]) (results_rg rfl _ _ (N + 2) sk s pa ca false ((7 : Nat) : Int) rfl rfl rfl HF.out) rfl ⟨_, _, rfl, HF2.out, HF3.out⟩

set_option maxRecDepth 100000 in
set_option maxHeartbeats 8000000 in
theorem rp_full {G : Nat → Prop} {s : M.Gt} (t i x : Nat) (sk : Bool) (pa : Option Addr) (ca : Nat) (w : World) (hR : RA G s.ac pa ca w) (hG : ∀ j, w.heap.size ≤ j → G j) (hS : M.GG s) (h0 : aIn ⟨(t : Nat), (i : Nat), (x : Nat)⟩ = true) (ht : t < 5) (h1 : s.dead.testBit t = false) (hL : 24 ≤ s.ac.length) :
    Calls Tryd.prog 12 #[rgV sk s pa ca, acV ⟨(t : Nat), (i : Nat), (x : Nat)⟩] w fun e w' => ∃ p' c', e = .returned (.tuple #[rgV sk s p' c', .bool false, .int .i64 ((4 : Nat) : Int)]) ∧ RA G s.ac p' c' w' ∧ Below w.heap.size w w' := by
  have hKG := kg_begin (o := ⟨(t : Nat), (i : Nat), (x : Nat)⟩) (sk := sk) hR hG
  obtain ⟨N, hN⟩ : ∃ N, w.heap.size = N := ⟨_, rfl⟩
  obtain ⟨G', hG'⟩ : ∃ G' : Nat → Prop, (fun j => G j ∧ j ≠ w.heap.size ∧ j ≠ w.heap.size + 1 ∧ j ≠ w.heap.size + 2) = G' := ⟨_, rfl⟩
  have HGG : Hid (∀ j, G' j → G j) := by rw [← hG']; exact fun j hj => hj.1
  rw [hG', hN] at hKG
  rw [hN]
  obtain ⟨w2, hw2⟩ : ∃ w2, ((w.alloc (.cells #[.bool sk, .int .i64 (s.dead : Nat), .slice pa s.ac.length ca] 39)).alloc (.cells #[.int .i64 (t : Nat), .int .i64 (i : Nat), .int .i64 (x : Nat)] 31)).alloc (.cells #[.bool false, .int .i64 0, .slice none 0 0] 39) = w2 := ⟨_, rfl⟩
  rw [hw2] at hKG
  have HS2 : Hid (KG N G' ⟨(t : Nat), (i : Nat), (x : Nat)⟩ sk s pa ca w w2) := hKG
  clear hR hG hG' hKG
  have sz := HS2.out.sz
  have l0 := HS2.out.rb.c0
  have l1 := HS2.out.rb.c1
  have l2 := HS2.out.rb.c2
  have f0 := HS2.out.rb.fz 0
  have f1 := HS2.out.rb.fz 1
  have f2 := HS2.out.rb.fz 2
  have d0 := HS2.out.ab.c0
  have d1 := HS2.out.ab.c1
  have d2 := HS2.out.ab.c2
  simp only [Nat.zero_add] at d0 d1 d2
  have z0 := HS2.out.zb.c0
  have z1 := HS2.out.zb.c1
  have z2 := HS2.out.zb.c2
  have j0 := HS2.out.zb.fz 0
  have j1 := HS2.out.zb.fz 1
  have j2 := HS2.out.zb.fz 2
  have a0 := fun w' => refAct_ok ⟨(t : Nat), (i : Nat), (x : Nat)⟩ w'
  rw [aCd_t h0] at a0
  clear h0
  have b0 := fun w' => bit_any s.dead t w' (by have := hS.dd; omega) (by omega)
  rw [h1] at b0
  have hLi : (24 : Int) ≤ (s.ac.length : Int) := by omega
  clear h1 hS
  go_enter Tryd.func12, Tryd.ntmps12
  go_wp2_with fail
  refine (a0 _).mono ?_
  rintro e w3 ⟨rfl, hB3⟩
  have HS : Hid (KG N G' ⟨(t : Nat), (i : Nat), (x : Nat)⟩ sk s pa ca w w3) := HS2.out.later hB3
  clear l0 l1 l2 f0 f1 f2 d0 d1 d2 z0 z1 z2 j0 j1 j2 sz hB3 a0
  have sz := HS.out.sz
  have l0 := HS.out.rb.c0
  have l1 := HS.out.rb.c1
  have l2 := HS.out.rb.c2
  have f0 := HS.out.rb.fz 0
  have f1 := HS.out.rb.fz 1
  have f2 := HS.out.rb.fz 2
  have d0 := HS.out.ab.c0
  have d1 := HS.out.ab.c1
  have d2 := HS.out.ab.c2
  simp only [Nat.zero_add] at d0 d1 d2
  have z0 := HS.out.zb.c0
  have z1 := HS.out.zb.c1
  have z2 := HS.out.zb.c2
  have j0 := HS.out.zb.fz 0
  have j1 := HS.out.zb.fz 1
  have j2 := HS.out.zb.fz 2
  go_wp2_with fail
  refine (b0 _).mono ?_
  rintro e w4 ⟨rfl, rfl⟩
  obtain ⟨F1, F2, F3⟩ := HS.out.ret HGG.out
  have HF : Hid _ := F1
  have HF2 : Hid _ := F2
  have HF3 : Hid _ := F3
  clear F1 F2 F3
  go_wp2_with fail
  refine bodyPost_ret (v := .tuple #[rgV sk s pa ca, .bool false, .int .i64 (((4 : Nat) : Int))]) (results_rg rfl _ _ (N + 2) sk s pa ca false ((4 : Nat) : Int) rfl rfl rfl HF.out) rfl ⟨_, _, rfl, HF2.out, HF3.out⟩

set_option maxRecDepth 100000 in
set_option maxHeartbeats 8000000 in
theorem rp_late {G : Nat → Prop} {s : M.Gt} (t i x : Nat) (sk : Bool) (pa : Option Addr) (ca : Nat) (w : World) (hR : RA G s.ac pa ca w) (hG : ∀ j, w.heap.size ≤ j → G j) (hS : M.GG s) (h0 : aIn ⟨(t : Nat), (i : Nat), (x : Nat)⟩ = true) (ht : t < 5) (h1 : s.dead.testBit t = false) (hL : s.ac.length < 24) (hway : (x = 0 ∧ M.grW s t i = true) ∨ (x = 1 ∧ M.grR s t i = true) ∨ (x = 1 ∧ M.grR s t i = false ∧ M.grW s t i = true ∧ sk = false)) :
    Calls Tryd.prog 12 #[rgV sk s pa ca, acV ⟨(t : Nat), (i : Nat), (x : Nat)⟩] w fun e w' => ∃ p' c', e = .returned (.tuple #[rgV sk (M.pStop s t) p' c', .bool false, .int .i64 ((6 : Nat) : Int)]) ∧ RA G (M.pStop s t).ac p' c' w' ∧ Below w.heap.size w w' := by
  have hKG := kg_begin (o := ⟨(t : Nat), (i : Nat), (x : Nat)⟩) (sk := sk) hR hG
  obtain ⟨N, hN⟩ : ∃ N, w.heap.size = N := ⟨_, rfl⟩
  obtain ⟨G', hG'⟩ : ∃ G' : Nat → Prop, (fun j => G j ∧ j ≠ w.heap.size ∧ j ≠ w.heap.size + 1 ∧ j ≠ w.heap.size + 2) = G' := ⟨_, rfl⟩
  have HGG : Hid (∀ j, G' j → G j) := by rw [← hG']; exact fun j hj => hj.1
  rw [hG', hN] at hKG
  rw [hN]
  obtain ⟨w2, hw2⟩ : ∃ w2, ((w.alloc (.cells #[.bool sk, .int .i64 (s.dead : Nat), .slice pa s.ac.length ca] 39)).alloc (.cells #[.int .i64 (t : Nat), .int .i64 (i : Nat), .int .i64 (x : Nat)] 31)).alloc (.cells #[.bool false, .int .i64 0, .slice none 0 0] 39) = w2 := ⟨_, rfl⟩
  rw [hw2] at hKG
  have HS2 : Hid (KG N G' ⟨(t : Nat), (i : Nat), (x : Nat)⟩ sk s pa ca w w2) := hKG
  clear hR hG hG' hKG
  have sz := HS2.out.sz
  have l0 := HS2.out.rb.c0
  have l1 := HS2.out.rb.c1
  have l2 := HS2.out.rb.c2
  have f0 := HS2.out.rb.fz 0
  have f1 := HS2.out.rb.fz 1
  have f2 := HS2.out.rb.fz 2
  have d0 := HS2.out.ab.c0
  have d1 := HS2.out.ab.c1
  have d2 := HS2.out.ab.c2
  simp only [Nat.zero_add] at d0 d1 d2
  have z0 := HS2.out.zb.c0
  have z1 := HS2.out.zb.c1
  have z2 := HS2.out.zb.c2
  have j0 := HS2.out.zb.fz 0
  have j1 := HS2.out.zb.fz 1
  have j2 := HS2.out.zb.fz 2
  have HSS : Hid (M.GG s) := hS
  have a0 := fun w' => refAct_ok ⟨(t : Nat), (i : Nat), (x : Nat)⟩ w'
  rw [aCd_t h0] at a0
  clear h0
  have b0 := fun w' => bit_any s.dead t w' (by have := hS.dd; omega) (by omega)
  rw [h1] at b0
  obtain ⟨L, hLL⟩ : ∃ L, s.ac.length = L := ⟨_, rfl⟩
  have HLL : Hid (s.ac.length = L) := hLL
  have hLi : (L : Int) < 24 := by omega
  have HRW : Hid (rtB s.ac t i 0 L = M.grR s t i ∧ rtB s.ac t i 1 L = M.grW s t i) := by
    rw [← hLL]; exact ⟨rtB_R s t i, rtB_W s t i⟩
  have HWR : Hid (∀ a, a ∈ s.ac → a.wr < 2) := fun a ha => (hS.acs a ha).2.2
  rw [hLL] at l2
  clear h1 hS hLL
  go_enter Tryd.func12, Tryd.ntmps12
  go_wp2_with fail
  refine (a0 _).mono ?_
  rintro e w3 ⟨rfl, hB3⟩
  have HS : Hid (KG N G' ⟨(t : Nat), (i : Nat), (x : Nat)⟩ sk s pa ca w w3) := HS2.out.later hB3
  clear l0 l1 l2 f0 f1 f2 d0 d1 d2 z0 z1 z2 j0 j1 j2 sz hB3 a0
  have sz := HS.out.sz
  have l0 := HS.out.rb.c0
  have l1 := HS.out.rb.c1
  have l2 := HS.out.rb.c2
  rw [HLL.out] at l2
  have f0 := HS.out.rb.fz 0
  have f1 := HS.out.rb.fz 1
  have f2 := HS.out.rb.fz 2
  have d0 := HS.out.ab.c0
  have d1 := HS.out.ab.c1
  have d2 := HS.out.ab.c2
  simp only [Nat.zero_add] at d0 d1 d2
  have z0 := HS.out.zb.c0
  have z1 := HS.out.zb.c1
  have z2 := HS.out.zb.c2
  have j0 := HS.out.zb.fz 0
  have j1 := HS.out.zb.fz 1
  have j2 := HS.out.zb.fz 2
  go_wp2_with fail
  refine (b0 _).mono ?_
  rintro e w4 ⟨rfl, rfl⟩
  clear b0
  have HRA : Hid (RA G' s.ac pa ca w3) := HS.out.ra
  go_wp2_with fail
  go_loopw [7, 8, 9] (fun u v k wr => ∃ j : Nat, k = .int .i64 (j : Nat) ∧ j ≤ L ∧ u = .bool (rtB s.ac t i 0 j) ∧ v = .bool (rtB s.ac t i 1 j) ∧ ∃ m, wr = w3.drewN m) (fun _ _ k _ => L - (intOf k).toNat)
  case atStart => exact ⟨0, rfl, Nat.zero_le _, rfl, rfl, 0, rfl⟩
  case round =>
    obtain ⟨j, rfl, hj, rfl, rfl, m, rfl⟩ := hrel
    by_cases hjL : j < L
    · have hji : (j : Int) < (L : Int) := by omega
      have hjl : j < s.ac.length := by rw [HLL.out]; exact hjL
      obtain ⟨b, off, rfl, _, hact⟩ := HRA.out.act j hjl
      have hm0 := @rtB_miss s.ac t i 0 j hjl
      have hm1 := @rtB_miss s.ac t i 1 j hjl
      have hh0 := @rtB_hit s.ac t i 0 j hjl
      have hh1 := @rtB_hit s.ac t i 1 j hjl
      have hx2 := HWR.out _ (M.sat_mem hjl)
      obtain ⟨⟨t1, i1, x1⟩, e1⟩ : ∃ a, M.sat s.ac j = a := ⟨_, rfl⟩
      rw [e1] at hact hm0 hm1 hh0 hh1 hx2
      simp only at hm0 hm1 hh0 hh1 hx2
      have k0 := hact.c0
      have k1 := hact.c1
      have k2 := hact.c2
      have lb := hact.lt
      simp only [azN] at k0 k1 k2
      obtain ⟨r, hr⟩ : ∃ r, rtB s.ac t i 0 j = r := ⟨_, rfl⟩
      obtain ⟨q, hq⟩ : ∃ q, rtB s.ac t i 1 j = q := ⟨_, rfl⟩
      rw [hr] at hm0 ⊢
      rw [hq] at hm1 ⊢
      clear hr hq hact e1 hjl
      by_cases g1 : i1 = i
      case neg =>
        have v1 : ((i1 : Int) == (i : Int)) = false := by simp; omega
        have HN : Hid (rtB s.ac t i 0 (j + 1) = r ∧ rtB s.ac t i 1 (j + 1) = q) := ⟨hm0 (.inl g1), hm1 (.inl g1)⟩
        clear hm0 hm1 hh0 hh1 g1 hx2
        go_wp2_with fail
        go_big_quiet (fail)
        go_wp2_with fail
        go_roundw
        case rel => exact ⟨j + 1, by go_num, by omega, by rw [HN.out.1], by rw [HN.out.2], m + nq, rfl⟩
        case measure => simp [intOf]; omega
      have v1 : ((i1 : Int) == (i : Int)) = true := by rw [g1]; simp
      by_cases g2 : t < t1
      case neg =>
        have v2 : decide ((t : Int) < (t1 : Int)) = false := decide_eq_false (by omega)
        have v2' : decide (t < t1) = false := decide_eq_false g2
        have HN : Hid (rtB s.ac t i 0 (j + 1) = r ∧ rtB s.ac t i 1 (j + 1) = q) := ⟨hm0 (.inr (.inl g2)), hm1 (.inr (.inl g2))⟩
        clear hm0 hm1 hh0 hh1 g1 g2 hx2
        go_wp2_with fail
        go_big_quiet (fail)
        go_wp2_with fail
        go_roundw
        case rel => exact ⟨j + 1, by go_num, by omega, by rw [HN.out.1], by rw [HN.out.2], m + nq, rfl⟩
        case measure => simp [intOf]; omega
      have v2 : decide ((t : Int) < (t1 : Int)) = true := decide_eq_true (by omega)
      have v2' : decide (t < t1) = true := decide_eq_true g2
      obtain ⟨r', q', HN, hrq⟩ : ∃ r' q', Hid (rtB s.ac t i 0 (j + 1) = r' ∧ rtB s.ac t i 1 (j + 1) = q') ∧ ((x1 = 0 ∧ true = r' ∧ q = q') ∨ (x1 = 1 ∧ r = r' ∧ true = q')) := by
        have : x1 = 0 ∨ x1 = 1 := by omega
        rcases this with e | e
        · exact ⟨true, q, ⟨hh0 g1 g2 e, hm1 (.inr (.inr (by omega)))⟩, .inl ⟨e, rfl, rfl⟩⟩
        · exact ⟨r, true, ⟨hm0 (.inr (.inr (by omega))), hh1 g1 g2 e⟩, .inr ⟨e, rfl, rfl⟩⟩
      clear hm0 hm1 hh0 hh1 g1 g2 hx2
      rcases hrq with ⟨rfl, rfl, rfl⟩ | ⟨rfl, rfl, rfl⟩
      all_goals cases r
      all_goals cases q
      all_goals
        go_wp2_with fail
        go_big_quiet (fail)
        go_wp2_with fail
        go_roundw
        case rel => exact ⟨j + 1, by go_num, by omega, by rw [HN.out.1], by rw [HN.out.2], m + nq, rfl⟩
        case measure => simp [intOf]; omega
    obtain rfl : L = j := by omega
    rw [HRW.out.1, HRW.out.2]
    obtain ⟨w5, hw5⟩ : ∃ w5, w3.drewN m = w5 := ⟨_, rfl⟩
    have HS5 : Hid (KG N G' ⟨(t : Nat), (i : Nat), (x : Nat)⟩ sk s pa ca w w5) := by rw [← hw5]; exact HS.out.later (below_drewN w3 m)
    rw [hw5]
    clear hw5 hjL hj HRA HWR HRW HS
    clear l0 l1 l2 f0 f1 f2 d0 d1 d2 z0 z1 z2 j0 j1 j2 sz
    have sz := HS5.out.sz
    have l0 := HS5.out.rb.c0
    have l1 := HS5.out.rb.c1
    have l2 := HS5.out.rb.c2
    rw [HLL.out] at l2
    have f0 := HS5.out.rb.fz 0
    have f1 := HS5.out.rb.fz 1
    have f2 := HS5.out.rb.fz 2
    have d0 := HS5.out.ab.c0
    have d1 := HS5.out.ab.c1
    have d2 := HS5.out.ab.c2
    simp only [Nat.zero_add] at d0 d1 d2
    have z0 := HS5.out.zb.c0
    have z1 := HS5.out.zb.c1
    have z2 := HS5.out.zb.c2
    have j0 := HS5.out.zb.fz 0
    have j1 := HS5.out.zb.fz 1
    have j2 := HS5.out.zb.fz 2
    have HSD : Hid (KG N G' ⟨(t : Nat), (i : Nat), (x : Nat)⟩ sk (M.pStop s t) pa ca w (w5.setCell ⟨N, 1, none⟩ (.int .i64 ((M.pStop s t).dead : Nat)))) := HS5.out.setD (s' := M.pStop s t) (Below.refl _ _) rfl
    have wa := fun w' => with_any s.dead t w' (by have := HSS.out.dd; omega) (by omega)
    have hsh : Hid ((M.pStop s t).dead = s.dead ||| 1 <<< t) := by show s.dead ||| 2 ^ t = _; rw [Nat.shiftLeft_eq, Nat.one_mul]
    rw [hsh.out] at HSD
    obtain ⟨y, hy⟩ : ∃ y : Nat, s.dead ||| 1 <<< t = y := ⟨_, rfl⟩
    simp only [hy] at wa
    rw [hy] at HSD hsh
    obtain ⟨w6, hw6⟩ : ∃ w6, w5.setCell ⟨N, 1, none⟩ (.int .i64 (y : Nat)) = w6 := ⟨_, rfl⟩
    rw [hw6] at HSD
    clear hy
    obtain ⟨F1, F2, F3⟩ := HSD.out.ret HGG.out
    have E : cpyG w6 (N + 2) sk (M.pStop s t).dead (M.pStop s t).ac.length pa ca = cpyG w6 (N + 2) sk y L pa ca := by rw [hsh.out, show (M.pStop s t).ac.length = L from HLL.out]
    rw [E] at F1 F2 F3
    have HF : Hid _ := F1
    have HF2 : Hid _ := F2
    have HF3 : Hid _ := F3
    clear F1 F2 F3 E
    have sy := HSD.out.sz
    have m0 := HSD.out.rb.c0
    have m1 := HSD.out.rb.c1
    rw [hsh.out] at m1
    have m2 := HSD.out.rb.c2
    rw [show (M.pStop s t).ac.length = L from HLL.out] at m2
    have g0 := HSD.out.rb.fz 0
    have g1 := HSD.out.rb.fz 1
    have g2 := HSD.out.rb.fz 2
    have e0 := HSD.out.ab.c0
    have e1 := HSD.out.ab.c1
    have e2 := HSD.out.ab.c2
    simp only [Nat.zero_add] at e0 e1 e2
    have y0 := HSD.out.zb.c0
    have y1 := HSD.out.zb.c1
    have y2 := HSD.out.zb.c2
    have k0 := HSD.out.zb.fz 0
    have k1 := HSD.out.zb.fz 1
    have k2 := HSD.out.zb.fz 2
    clear HSD hsh HSS
    rcases hway with ⟨hx, hq⟩ | ⟨hx, hr⟩ | ⟨hx, hr, hq, hk⟩
    · rw [hq]
      have x0 : ((x : Int) == 0) = true := by rw [hx]; rfl
      clear hx hq
      go_wp2_with fail
      refine (wa _).mono ?_
      rintro e w4 ⟨rfl, rfl⟩
      go_wp2_with fail
      refine bodyPost_ret (v := .tuple #[rgV _ (M.pStop s t) pa ca, .bool false, .int .i64 (((6 : Nat) : Int))]) (results_rg rfl _ _ (N + 2) _ (M.pStop s t) pa ca false ((6 : Nat) : Int) rfl rfl rfl HF.out) rfl ⟨_, _, rfl, HF2.out, HF3.out⟩
    · rw [hr]
      have x0 : ((x : Int) == 0) = false := by rw [hx]; rfl
      have x1 : ((x : Int) == 1) = true := by rw [hx]; rfl
      clear hx hr
      go_wp2_with fail
      refine (wa _).mono ?_
      rintro e w4 ⟨rfl, rfl⟩
      go_wp2_with fail
      refine bodyPost_ret (v := .tuple #[rgV _ (M.pStop s t) pa ca, .bool false, .int .i64 (((6 : Nat) : Int))]) (results_rg rfl _ _ (N + 2) _ (M.pStop s t) pa ca false ((6 : Nat) : Int) rfl rfl rfl HF.out) rfl ⟨_, _, rfl, HF2.out, HF3.out⟩
    · rw [hr, hq]
      have x0 : ((x : Int) == 0) = false := by rw [hx]; rfl
      have x1 : ((x : Int) == 1) = true := by rw [hx]; rfl
      subst hk
      clear hx hr hq
      go_wp2_with fail
      refine (wa _).mono ?_
      rintro e w4 ⟨rfl, rfl⟩
      go_wp2_with fail
      refine bodyPost_ret (v := .tuple #[rgV _ (M.pStop s t) pa ca, .bool false, .int .i64 (((6 : Nat) : Int))]) (results_rg rfl _ _ (N + 2) _ (M.pStop s t) pa ca false ((6 : Nat) : Int) rfl rfl rfl HF.out) rfl ⟨_, _, rfl, HF2.out, HF3.out⟩

end Go.Proofs.YtlkdclifcmohlaaDoor
