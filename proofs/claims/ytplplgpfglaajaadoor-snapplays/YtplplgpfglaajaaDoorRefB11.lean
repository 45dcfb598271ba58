/- A new bank of the document's own (package whensteadref2, NewBank): there is nothing wrong. -/
import Derived.Test.YtplplgpfglaajaaDoorRefB10
namespace Go.Proofs.YtplplgpfglaajaaDoor
open Go.RowKit
set_option maxRecDepth 100000 in
set_option maxHeartbeats 2000000 in
theorem rnew_ok {G : Nat → Prop} (zs : List Int) (p : Option Addr) (n cap : Nat) (w : World) (hl : zs.length = n) (hF : FI G n (fun j => .int .i64 (M.mof zs j)) p w) (he : M.newC zs = 0) (hG : ∀ k, w.heap.size ≤ k → G k) :
    Calls Tryd.prog 4 #[.slice p n cap] w fun e w' => ∃ v, e = .returned (.tuple #[rbV n false v, .int .i64 0]) ∧ RB G n (M.newB (M.mof zs)) v w' ∧ Below w.heap.size w w' := by
  obtain ⟨h0, h5, hall⟩ := M.newC_zero he
  rw [hl] at h0 h5 hall
  obtain ⟨W, hW⟩ : ∃ W, w.alloc (.cells #[.slice none 0 0, .slice none 0 0, .slice none 0 0, .slice none 0 0, .slice none 0 0, .bool false] 27) = W := ⟨_, rfl⟩
  have ZW : LB w.heap.size 0 false v0 W := by rw [← hW]; exact z_alloc w
  have BW : Below w.heap.size w W := by rw [← hW]; exact bel_al (Below.refl _ _) _
  have lL := ZW.lt
  obtain ⟨N2, hN2⟩ : ∃ N2, n * n = N2 := ⟨_, rfl⟩
  have HN2 : Hid (n * n = N2) := hN2
  have hN25 : N2 ≤ 25 := by
    have := Nat.mul_le_mul h5 h5
    omega
  have hmi : (n : Int) * (n : Int) = (N2 : Int) := by rw [← hN2]; exact (Int.natCast_mul n n).symm
  have hwm : IntKind.i64.wrap (N2 : Int) = (N2 : Int) := by rw [IntKind.wrap_i64]; omega
  have hz : ((n : Int) == 0) = false := by simp; omega
  have hz' : (n == 0) = false := by simp; omega
  have h5' : (n : Int) ≤ 5 := by omega
  have hk1 := run_make_row' (P := Tryd.prog) 24 22 (.slice none 0 0) 24 Tryd.underlying24 infoRw rfl .i64 .i64 N2 (by omega) (by omega)
  have hk2 := run_make_row' (P := Tryd.prog) 25 4 (.bool false) 1 Tryd.underlying25 infoBo rfl .i64 .i64 N2 (by omega) (by omega)
  have hk3 := run_make_row' (P := Tryd.prog) 22 3 (.int .i64 0) 8 Tryd.underlying22 infoIn rfl .i64 .i64 N2 (by omega) (by omega)
  have HF : Hid (FI (fun k => G k ∧ k ≠ w.heap.size) n (fun j => .int .i64 (M.mof zs j)) p W) := (hF.mono (fun k hk hg => ⟨hg, by omega⟩)).later BW
  have HA : Hid (∀ i, i < n → 0 ≤ M.mof zs i ∧ M.mof zs i ≤ 1000) := hall
  have HZ : Hid (LB w.heap.size 0 false v0 W) := ZW
  have HB : Hid (Below w.heap.size w W) := BW
  have HGG : Hid (∀ k, w.heap.size ≤ k → G k) := hG
  clear hF hall ZW BW he hN2 hG
  go_enter Tryd.func4, Tryd.ntmps4
  go_wp2_with fail
  go_loopw [4] (fun u wr => ∃ k : Nat, u = .int .i64 k ∧ k ≤ n ∧ W = wr) (fun u _ => n - (intOf u).toNat)
  case atStart => exact ⟨0, rfl, Nat.zero_le _, rfl⟩
  case round =>
    clear hW
    obtain ⟨k, rfl, hk, rfl⟩ := hrel
    by_cases hlt : k < n
    · obtain ⟨b0, off, rfl, hb, _, hcz⟩ := HF.out k hlt
      obtain ⟨z, hzz⟩ : ∃ z, M.mof zs k = z := ⟨_, rfl⟩
      simp only [hzz] at hcz
      have HI : inB z 0 1000 = true := inB_true (by rw [← hzz]; exact (HA.out k hlt).1) (by rw [← hzz]; exact (HA.out k hlt).2)
      have hki : (k : Int) < n := by omega
      clear hzz
      go_wp2_with fail
      refine (in_is z 0 1000 true _ HI).mono ?_
      rintro e w' ⟨rfl, rfl⟩
      clear HI
      go_wp2_with fail
      go_roundw
      case rel => exact ⟨k + 1, by go_num, by omega, by trivial⟩
      case measure => simp [intOf]; omega
    · obtain rfl : n = k := by omega
      go_wp2_with fail
      go_cut [6] from 31 to 44 (fun u w' => ∃ B bw bh bc, u = .pointer (some ⟨B, 0, none⟩) ∧ NB W n N2 p cap B (.slice none 0 0) bw bh bc w')
      case first =>
        clear hk HF HA HZ HB HGG
        go_region
        all_goals (go_wp2_with fail; go_meet)
        all_goals
          (apply nb_mk
           · refine World.rowIs.drew ?_
             repeat first | exact nb_row _ _ _ _ _ _ _ _ (by simp) | refine World.rowIs.alloc ?_ _
           · refine World.rowIs.drew ?_
             repeat first | exact made_row _ _ _ _ (by simp) | refine World.rowIs.alloc ?_ _
           · refine World.rowIs.drew ?_
             repeat first | exact made_row _ _ _ _ (by simp) | refine World.rowIs.alloc ?_ _
           · refine World.rowIs.drew ?_
             repeat first | exact made_row _ _ _ _ (by simp) | refine World.rowIs.alloc ?_ _
           · exact (bel_al (bel_al (bel_al (bel_al (Below.refl _ W) _) _) _) _).drew
           · omega)
      case rest =>
        obtain ⟨B, bw, bh, bc, rfl, hN⟩ := hcut
        have lB := hN.hb.lt
        have hB9 := hN.bl
        have HN : Hid (NB W n N2 p cap B (.slice none 0 0) bw bh bc wc) := hN
        have HZc : Hid (LB w.heap.size 0 false v0 wc) := HZ.out.below hN.bl lL
        clear hN hk1 hk2 hk3
        obtain ⟨i0, hi0, hz0, hz1, hz2⟩ := info_parts infoIn
        go_wp2_with fail
        go_loopw [7] (fun u wr => ∃ (k : Nat) (nv : Value), u = .int .i64 k ∧ k ≤ n ∧ Hid (NB W n N2 p cap B nv bw bh bc wr) ∧ Hid (wr.ownsRow W.heap.size 3 1 nv k (zc (List.replicate k (-1)))) ∧ Hid (nv.ownBlock ≠ some bc) ∧ Hid (LB w.heap.size 0 false v0 wr)) (fun u _ => n - (intOf u).toNat)
        case atStart => exact ⟨0, _, rfl, Nat.zero_le _, HN, World.ownsRow_nil _ _ _ _, (show (Value.slice none 0 0).ownBlock ≠ some bc from fun e => absurd e (by simp [Value.ownBlock])), HZc⟩
        case round =>
          clear HN HZc hB9 lB
          obtain ⟨k, nv, rfl, hk, hN, hO, hA, hZ⟩ := hrel
          by_cases hlt : k < n
          · have hki : (k : Int) < n := by omega
            obtain ⟨q1, d1, rfl⟩ := owns_slice hO.out
            have b1 : wr.cell? ⟨B, 1, none⟩ = some (.slice q1 k d1) := hN.out.hb.cell (i := 1) (by omega)
            have lB := hN.out.hb.lt
            have hs := hN.out.bl.size
            go_wp2_with (at_builtin; refine wpList_append_lies _ rfl _ _ 22 rfl W.heap.size 3 i0 (.int .i64 0) 1 8 Tryd.underlying22 hi0 hz0 hz1 hz2 rfl (by decide) (.slice q1 k d1) k (zc (List.replicate k (-1))) rfl (World.ownsRow.alloc (w := wr) hO.out _) ⟨wr.heap.size, 0, none⟩ 1 1 [.int .i64 (-1)] rfl rfl (World.news_of_block (cs := #[.int .i64 (-1)]) (t := 3) (fr := (0, 0)) (heap_alloc_new wr _)) (by simp [Value.oneCell']) (by omega) (by unfold maxLen; omega) (by omega) (Nat.le_trans hs (by simp)) (wr.heap.size + 1) (by simp) ?_)
            intro g cap5 w5 own5 gr5 at5 lt5
            have e5 : zc (List.replicate k (-1)) ++ [.int .i64 (-1)] = zc (List.replicate (k + 1) (-1)) := by rw [← zc_snoc, List.replicate_succ']
            rw [e5] at own5
            obtain ⟨s1, s2, s3, s4⟩ := hN.out.step hO.out hA.out own5 gr5 (fun g' e => by
              obtain rfl : g = g' := by simpa [Value.ownBlock] using e
              exact at5)
            have b5 := s4.cell (i := 1) (by omega)
            have f5 := s4.frozen 1
            have lL5 := hZ.out.lt
            have Z5 : Hid (LB w.heap.size 0 false v0 (w5.setCell ⟨B, 1, none⟩ (.slice (some ⟨g, 0, none⟩) (k + 1) cap5))) := by
              refine World.rowIs.setOther (World.rowIs.of_block hZ.out ((gr5.block _ (Nat.lt_of_lt_of_le lL5 (by simp)) (fun e => ?_)).trans (Below.heap_alloc wr _ _ lL5))) (a := ⟨B, 1, none⟩) (by have := hN.out.gb; show w.heap.size ≠ B; omega) _
              have := (hO.out.lt _ e.symm).1
              omega
            have S1 : Hid (NB W n N2 p cap B (.slice (some ⟨g, 0, none⟩) (k + 1) cap5) bw bh bc (w5.setCell ⟨B, 1, none⟩ (.slice (some ⟨g, 0, none⟩) (k + 1) cap5))) := s1
            have S2 : Hid ((w5.setCell ⟨B, 1, none⟩ (.slice (some ⟨g, 0, none⟩) (k + 1) cap5)).ownsRow W.heap.size 3 1 (.slice (some ⟨g, 0, none⟩) (k + 1) cap5) (k + 1) (zc (List.replicate (k + 1) (-1)))) := s2
            have S3 : Hid ((Value.slice (some ⟨g, 0, none⟩) (k + 1) cap5).ownBlock ≠ some bc) := s3
            clear s1 s2 s3 s4 own5 gr5 at5 e5 b1 hN hO hA hZ lL5
            go_wp2_with fail
            go_roundw
            case rel => exact ⟨k + 1, _, by go_num, by omega, S1, S2, S3, Z5⟩
            case measure => simp [intOf]; omega
          · obtain rfl : n = k := by omega
            obtain ⟨pn, cn, rfl⟩ := owns_slice hO.out
            have b0 : wr.cell? ⟨B, 0, none⟩ = some (.slice p n cap) := hN.out.hb.cell (i := 0) (by omega)
            have b1 : wr.cell? ⟨B, 1, none⟩ = some (.slice pn n cn) := hN.out.hb.cell (i := 1) (by omega)
            have b2 : wr.cell? ⟨B, 2, none⟩ = some (.slice (some ⟨bw, 0, none⟩) N2 N2) := hN.out.hb.cell (i := 2) (by omega)
            have b3 : wr.cell? ⟨B, 3, none⟩ = some (.slice (some ⟨bh, 0, none⟩) N2 N2) := hN.out.hb.cell (i := 3) (by omega)
            have b4 : wr.cell? ⟨B, 4, none⟩ = some (.slice (some ⟨bc, 0, none⟩) N2 N2) := hN.out.hb.cell (i := 4) (by omega)
            have b5 : wr.cell? ⟨B, 5, none⟩ = some (.bool false) := hN.out.hb.cell (i := 5) (by omega)
            have lB := hN.out.hb.lt
            have lR := hZ.out.lt
            have hne : B ≠ w.heap.size := by have := hN.out.gb; omega
            have z0 := hZ.out.c0
            have z1 := hZ.out.c1
            have z2 := hZ.out.c2
            have z3 := hZ.out.c3
            have z4 := hZ.out.c4
            have z5 := hZ.out.c5
            have f0 := hZ.out.fz 0
            have f1 := hZ.out.fz 1
            have f2 := hZ.out.fz 2
            have f3 := hZ.out.fz 3
            have f4 := hZ.out.fz 4
            have f5 := hZ.out.fz 5
            simp only [v0] at z0 z1 z2 z3 z4
            have RR := hN.out.end_ (G := fun k => G k ∧ k ≠ w.heap.size) (zs := zs) HN2.out hN25 hO.out (HF.out.later hN.out.bl) (fun k hk => ⟨HGG.out k (by omega), by omega⟩)
            have F : Hid (LB w.heap.size n false ⟨p, cap, pn, cn, some ⟨bw, 0, none⟩, N2, some ⟨bh, 0, none⟩, N2, some ⟨bc, 0, none⟩, N2, fun _ => .slice none 0 0⟩ (cpy wr w.heap.size n N2 false p cap pn cn (some ⟨bw, 0, none⟩) N2 (some ⟨bh, 0, none⟩) N2 (some ⟨bc, 0, none⟩) N2) ∧ RB G n (M.newB (M.mof zs)) ⟨p, cap, pn, cn, some ⟨bw, 0, none⟩, N2, some ⟨bh, 0, none⟩, N2, some ⟨bc, 0, none⟩, N2, fun _ => .slice none 0 0⟩ (cpy wr w.heap.size n N2 false p cap pn cn (some ⟨bw, 0, none⟩) N2 (some ⟨bh, 0, none⟩) N2 (some ⟨bc, 0, none⟩) N2) ∧ Below w.heap.size w (cpy wr w.heap.size n N2 false p cap pn cn (some ⟨bw, 0, none⟩) N2 (some ⟨bh, 0, none⟩) N2 (some ⟨bc, 0, none⟩) N2)) :=
              ⟨hZ.out.cpy HN2.out ⟨p, cap, pn, cn, some ⟨bw, 0, none⟩, N2, some ⟨bh, 0, none⟩, N2, some ⟨bc, 0, none⟩, N2, fun _ => .slice none 0 0⟩, (RR.cpy (fun e => e.2 rfl) _ _ _ _ _ _ _ _ _ _ _ _ _).mono (fun k _ hk => hk.1), bel_cpy (bel_on HB.out hN.out.bl) (Nat.le_refl _) _ _ _ _ _ _ _ _ _ _ _ _ _⟩
            clear RR hN hO hA hZ HF HZ HB
            go_wp2_with fail
            obtain rfl := HN2.out
            exact bodyPost_ret (v := .tuple #[rbV n false ⟨p, cap, pn, cn, some ⟨bw, 0, none⟩, n * n, some ⟨bh, 0, none⟩, n * n, some ⟨bc, 0, none⟩, n * n, fun _ => .slice none 0 0⟩, .int .i64 0]) (results_bank rfl _ _ w.heap.size n false _ 0 rfl rfl F.out.1) rfl ⟨_, rfl, F.out.2.1, F.out.2.2⟩
end Go.Proofs.YtplplgpfglaajaaDoor
