/- One tells another one at the document's own table (package whensteadref2, Tell), whatever the numbers. -/
import Derived.Test.YtelonimdpeenaaaDoorRefT4
namespace Go.Proofs.YtelonimdpeenaaaDoor
open Go.RowKit
set_option maxRecDepth 100000 in
set_option maxHeartbeats 4000000 in
theorem rtell_ok {G : Nat → Prop} {n m : Nat} {k : M.Kt} {W : Nat → Nat} (v : TT) (f t : Int) (w : World) (h5 : n ≤ 5) (hm : n * n * n = m) (hR : RT G n m k W v w) (hG : ∀ j, w.heap.size ≤ j → G j) :
    Calls Tryd.prog 9 #[rtV n m v, .int .i64 f, .int .i64 t] w fun e w' => ∃ v', e = .returned (.tuple #[rtV n m v', .int .i64 ((M.teT n k f t).2 : Nat)]) ∧ RT G n m (M.teT n k f t).1 W v' w' ∧ Below w.heap.size w w' := by
  by_cases hgo : (0 ≤ f ∧ f < n) ∧ (0 ≤ t ∧ t < n) ∧ f ≠ t
  · obtain ⟨hf, ht, hne⟩ := hgo
    have e : M.teT n k f t = (M.tlJ k f.toNat t.toNat n, 0) := by unfold M.teT; rw [if_neg (fun x => x.elim (fun y => y hf) (fun y => y ht)), if_neg hne]
    rw [e]
    obtain ⟨f, rfl⟩ : ∃ p : Nat, f = p := ⟨f.toNat, by omega⟩
    obtain ⟨t, rfl⟩ : ∃ p : Nat, t = p := ⟨t.toNat, by omega⟩
    simp only [Int.toNat_natCast]
    exact rtell_do v f t w h5 hm (by omega) (by omega) (by omega) hR hG
  have hWS := ws_begin hR hG
  obtain ⟨N, hN⟩ : ∃ N, w.heap.size = N := ⟨_, rfl⟩
  obtain ⟨G', hG'⟩ : ∃ G' : Nat → Prop, (fun j => G j ∧ j ≠ w.heap.size ∧ j ≠ w.heap.size + 1) = G' := ⟨_, rfl⟩
  have HGG : Hid (∀ j, G' j → G j) := by rw [← hG']; exact fun j hj => hj.1
  rw [hG', hN] at hWS
  rw [hN]
  obtain ⟨pk, ck, pd, cd⟩ := v
  simp only at hWS
  obtain ⟨w2, hw2⟩ : ∃ w2, (w.alloc (.cells #[.int .i64 (n : Nat), .slice pk m ck, .slice pd n cd] 31)).alloc (.cells #[.int .i64 0, .slice none 0 0, .slice none 0 0] 31) = w2 := ⟨_, rfl⟩
  rw [hw2] at hWS
  obtain ⟨F1, F2, F3⟩ := hWS.ret HGG.out
  have HF : Hid _ := F1
  have HF2 : Hid _ := F2
  have HF3 : Hid _ := F3
  have l0 := hWS.lb.c0
  have l1 := hWS.lb.c1
  have l2 := hWS.lb.c2
  simp only at l1 l2
  have z0 := hWS.zb.c0
  have z1 := hWS.zb.c1
  have z2 := hWS.zb.c2
  have j0 := hWS.zb.fz 0
  have j1 := hWS.zb.fz 1
  have j2 := hWS.zb.fz 2
  clear hWS hR hG hG' F1 F2 F3
  by_cases hf : 0 ≤ f ∧ f < n
  · have hin1 := fun w' => in_is f 0 ((n : Int) - 1) true w' (inB_true hf.1 (by omega))
    by_cases ht : 0 ≤ t ∧ t < n
    · have hin2 := fun w' => in_is t 0 ((n : Int) - 1) true w' (inB_true ht.1 (by omega))
      have hft : f = t := Decidable.not_not.1 (fun x => hgo ⟨hf, ht, x⟩)
      have e : M.teT n k f t = (k, 6) := by unfold M.teT; rw [if_neg (fun x => x.elim (fun y => y hf) (fun y => y ht)), if_pos hft]
      rw [e]
      subst hft
      clear e hgo hf ht
      go_enter Tryd.func9, Tryd.ntmps9
      go_wp2_with fail
      refine (hin1 _).mono ?_
      rintro e w' ⟨rfl, rfl⟩
      go_wp2_with fail
      refine (hin2 _).mono ?_
      rintro e w' ⟨rfl, rfl⟩
      go_wp2_with fail
      refine bodyPost_ret (v := .tuple #[rtV n m ⟨pk, ck, pd, cd⟩, .int .i64 ((6 : Nat) : Int)]) (results_tabc rfl _ _ (N + 1) n m ⟨pk, ck, pd, cd⟩ ((6 : Nat) : Int) rfl rfl HF.out) rfl ⟨_, rfl, HF2.out, HF3.out⟩
    · have hin2 := fun w' => in_is t 0 ((n : Int) - 1) false w' (inB_false (fun x => ht ⟨x.1, by omega⟩))
      have e : M.teT n k f t = (k, 1) := by unfold M.teT; rw [if_pos (Or.inr ht)]
      rw [e]
      clear e hgo hf ht
      go_enter Tryd.func9, Tryd.ntmps9
      go_wp2_with fail
      refine (hin1 _).mono ?_
      rintro e w' ⟨rfl, rfl⟩
      go_wp2_with fail
      refine (hin2 _).mono ?_
      rintro e w' ⟨rfl, rfl⟩
      go_wp2_with fail
      refine bodyPost_ret (v := .tuple #[rtV n m ⟨pk, ck, pd, cd⟩, .int .i64 ((1 : Nat) : Int)]) (results_tabc rfl _ _ (N + 1) n m ⟨pk, ck, pd, cd⟩ ((1 : Nat) : Int) rfl rfl HF.out) rfl ⟨_, rfl, HF2.out, HF3.out⟩
  · have hin1 := fun w' => in_is f 0 ((n : Int) - 1) false w' (inB_false (fun x => hf ⟨x.1, by omega⟩))
    have e : M.teT n k f t = (k, 1) := by unfold M.teT; rw [if_pos (Or.inl hf)]
    rw [e]
    clear e hgo hf
    go_enter Tryd.func9, Tryd.ntmps9
    go_wp2_with fail
    refine (hin1 _).mono ?_
    rintro e w' ⟨rfl, rfl⟩
    go_wp2_with fail
    refine bodyPost_ret (v := .tuple #[rtV n m ⟨pk, ck, pd, cd⟩, .int .i64 ((1 : Nat) : Int)]) (results_tabc rfl _ _ (N + 1) n m ⟨pk, ck, pd, cd⟩ ((1 : Nat) : Int) rfl rfl HF.out) rfl ⟨_, rfl, HF2.out, HF3.out⟩
end Go.Proofs.YtelonimdpeenaaaDoor
