/- The document's own store of views: when one did what (when), whether one writes an item (wrote), who committed it last (lastOf), whether one read it ahead of writing it (readFirst); written by mk_refv1.py. -/
import Derived.Test.YtajiichehffaaaaDoorRefV0
import Derived.BigRegion
import Derived.BigQuiet
import Derived.Deep.CutRange
namespace Go.Proofs.YtajiichehffaaaaDoor
open Go.RowKit

set_option maxRecDepth 100000 in
set_option maxHeartbeats 2000000 in
theorem rwhen_ok {G : Nat → Prop} {D : List Dz} (st : Nat) (t k : Int) (p : Option Addr) (c : Nat) (w : World) (hD : RD G D p c w) :
    Calls Tryd.prog 30 #[rsV st D p c, .int .i64 t, .int .i64 k] w fun e w' => e = .returned (.int .i64 (whZ D t k)) ∧ Below w.heap.size w w' := by
  have h0 := qs_start st hD
  obtain ⟨n, hn⟩ : ∃ n, D.length = n := ⟨_, rfl⟩
  have HN : Hid (D.length = n) := hn
  have hnm : n ≤ maxLen := by rw [← hn]; exact Nat.le_trans hD.cap.1 hD.cap.2
  unfold maxLen at hnm
  simp only [rsV]
  rw [hn] at h0 ⊢
  obtain ⟨B, hB⟩ : ∃ B, w.heap.size = B := ⟨_, rfl⟩
  rw [hB] at h0
  obtain ⟨wa, hwa⟩ : ∃ wa, w.alloc (.cells #[.slice p n c, .int .i64 (st : Nat)] 41) = wa := ⟨_, rfl⟩
  rw [hwa] at h0
  have H0 : Hid _ := h0
  have r0 := H0.out.rs.c0
  rw [hn] at r0
  have rl := H0.out.rs.lt
  clear hD h0 hn
  go_enter Tryd.func30, Tryd.ntmps30
  go_wp2_with fail
  go_loopw [7] (fun u wr => ∃ j : Nat, u = .int .i64 (j : Nat) ∧ j ≤ n ∧ Hid (M.fstI (fun j => whP t k (dAt D j)) j = none) ∧ Hid (QS G D p c B st w wr)) (fun u _ => n - (intOf u).toNat)
  case atStart => exact ⟨0, rfl, Nat.zero_le _, (rfl : M.fstI _ 0 = none), H0⟩
  case round =>
    clear r0 rl H0 hwa
    obtain ⟨j, rfl, hj, HF, HP⟩ := hrel
    have r0 := HP.out.rs.c0
    rw [HN.out] at r0
    have rl := HP.out.rs.lt
    by_cases hjn : j < n
    · have hji : (j : Int) < n := by omega
      obtain ⟨b, off, rfl, _, hd⟩ := HP.out.rd.act j (by rw [HN.out]; exact hjn)
      obtain ⟨⟨k1, t1, i1, x1⟩, hz⟩ : ∃ d, dAt D j = d := ⟨_, rfl⟩
      rw [hz] at hd
      have k0 := hd.c0
      have k1c := hd.c1
      have lb := hd.lt
      simp only at k0 k1c
      have HW : Hid (whP t k (dAt D j) = (t1 == t && k1 == k)) := by show _ = _; rw [hz]; rfl
      clear hz hd
      cases e1 : (t1 == t) with
      | false =>
        have HF2 : Hid (M.fstI (fun j => whP t k (dAt D j)) (j + 1) = none) := M.fstI_miss HF.out (by show whP t k (dAt D j) = false; rw [HW.out, e1]; rfl)
        clear HF HW
        go_wp2_with fail
        go_roundw
        case rel => exact ⟨j + 1, by go_num, by omega, HF2, HP⟩
        case measure => simp [intOf]; omega
      | true =>
      cases e2 : (k1 == k) with
      | false =>
        have HF2 : Hid (M.fstI (fun j => whP t k (dAt D j)) (j + 1) = none) := M.fstI_miss HF.out (by show whP t k (dAt D j) = false; rw [HW.out, e1, e2]; rfl)
        clear HF HW
        go_wp2_with fail
        go_roundw
        case rel => exact ⟨j + 1, by go_num, by omega, HF2, HP⟩
        case measure => simp [intOf]; omega
      | true =>
        have HR : Hid (whZ D t k = ((j : Nat) : Int)) := whZ_hit HF.out (by rw [HN.out]; exact hjn) (by rw [HW.out, e1, e2]; rfl)
        clear HF HW
        go_wp2_with fail
        go_ret
        exact ⟨by rw [HR.out]; rfl, HP.out.bl⟩
    · obtain rfl : n = j := by omega
      have HR : Hid (whZ D t k = -1) := whZ_none (by rw [HN.out]; exact HF.out)
      go_wp2_with fail
      go_ret
      exact ⟨by rw [HR.out]; rfl, HP.out.bl⟩

set_option maxRecDepth 100000 in
set_option maxHeartbeats 2000000 in
theorem rwrote_ok {G : Nat → Prop} {D : List Dz} (st : Nat) (t o : Int) (p : Option Addr) (c : Nat) (w : World) (hD : RD G D p c w) :
    Calls Tryd.prog 31 #[rsV st D p c, .int .i64 t, .int .i64 o] w fun e w' => e = .returned (.bool (wrZ D t o)) ∧ Below w.heap.size w w' := by
  have h0 := qs_start st hD
  obtain ⟨n, hn⟩ : ∃ n, D.length = n := ⟨_, rfl⟩
  have HN : Hid (D.length = n) := hn
  have hnm : n ≤ maxLen := by rw [← hn]; exact Nat.le_trans hD.cap.1 hD.cap.2
  unfold maxLen at hnm
  simp only [rsV]
  rw [hn] at h0 ⊢
  obtain ⟨B, hB⟩ : ∃ B, w.heap.size = B := ⟨_, rfl⟩
  rw [hB] at h0
  obtain ⟨wa, hwa⟩ : ∃ wa, w.alloc (.cells #[.slice p n c, .int .i64 (st : Nat)] 41) = wa := ⟨_, rfl⟩
  rw [hwa] at h0
  have H0 : Hid _ := h0
  have r0 := H0.out.rs.c0
  rw [hn] at r0
  have rl := H0.out.rs.lt
  clear hD h0 hn
  go_enter Tryd.func31, Tryd.ntmps31
  go_wp2_with fail
  go_loopw [7] (fun u wr => ∃ j : Nat, u = .int .i64 (j : Nat) ∧ j ≤ n ∧ Hid (M.fstI (fun j => wrP t o (dAt D j)) j = none) ∧ Hid (QS G D p c B st w wr)) (fun u _ => n - (intOf u).toNat)
  case atStart => exact ⟨0, rfl, Nat.zero_le _, (rfl : M.fstI _ 0 = none), H0⟩
  case round =>
    clear r0 rl H0 hwa
    obtain ⟨j, rfl, hj, HF, HP⟩ := hrel
    have r0 := HP.out.rs.c0
    rw [HN.out] at r0
    have rl := HP.out.rs.lt
    by_cases hjn : j < n
    · have hji : (j : Int) < n := by omega
      obtain ⟨b, off, rfl, _, hd⟩ := HP.out.rd.act j (by rw [HN.out]; exact hjn)
      obtain ⟨⟨k1, t1, i1, x1⟩, hz⟩ : ∃ d, dAt D j = d := ⟨_, rfl⟩
      rw [hz] at hd
      have k0 := hd.c0
      have k1c := hd.c1
      have k2 := hd.c2
      have k3 := hd.c3
      have lb := hd.lt
      simp only at k0 k1c k2 k3
      have HW : Hid (wrP t o (dAt D j) = (t1 == t && k1 == 3 && i1 == o && x1 == 1)) := by show _ = _; rw [hz]; rfl
      have HX : Hid ((dAt D j).x = x1) := by show _ = _; rw [hz]
      have Da := deAt_new wr ⟨k1, t1, i1, x1⟩
      have HB : Hid (QS G D (some ⟨b, off, none⟩) c B st w (wr.alloc (.cells #[.int .i64 k1, .int .i64 t1, .int .i64 i1, .int .i64 x1] 31))) := HP.out.later (bel_al (Below.refl _ _) _)
      simp only at Da
      obtain ⟨wb, hwb⟩ : ∃ wb, wr.alloc (.cells #[.int .i64 k1, .int .i64 t1, .int .i64 i1, .int .i64 x1] 31) = wb := ⟨_, rfl⟩
      rw [hwb] at Da HB
      obtain ⟨B4, hB4⟩ : ∃ B4, wr.heap.size = B4 := ⟨_, rfl⟩
      rw [hB4] at Da
      have q0 : wb.cell? ⟨B4, 0, none⟩ = some (.int .i64 k1) := Da.c0
      have q1 : wb.cell? ⟨B4, 1, none⟩ = some (.int .i64 t1) := Da.c1
      have q2 : wb.cell? ⟨B4, 2, none⟩ = some (.int .i64 i1) := Da.c2
      have q3 : wb.cell? ⟨B4, 3, none⟩ = some (.int .i64 x1) := Da.c3
      have lq := Da.lt
      clear hz hd Da
      cases e1 : (t1 == t) with
      | false =>
        have HF2 : Hid (M.fstI (fun j => wrP t o (dAt D j)) (j + 1) = none) := M.fstI_miss HF.out (by show wrP t o (dAt D j) = false; rw [HW.out, e1]; simp)
        clear HF HW HX
        go_wp2_with fail
        go_roundw
        case rel => exact ⟨j + 1, by go_num, by omega, HF2, HB⟩
        case measure => simp [intOf]; omega
      | true =>
      cases e2 : (k1 == 3) with
      | false =>
        have HF2 : Hid (M.fstI (fun j => wrP t o (dAt D j)) (j + 1) = none) := M.fstI_miss HF.out (by show wrP t o (dAt D j) = false; rw [HW.out, e1, e2]; simp)
        clear HF HW HX
        go_wp2_with fail
        go_roundw
        case rel => exact ⟨j + 1, by go_num, by omega, HF2, HB⟩
        case measure => simp [intOf]; omega
      | true =>
      cases e3 : (i1 == o) with
      | false =>
        have HF2 : Hid (M.fstI (fun j => wrP t o (dAt D j)) (j + 1) = none) := M.fstI_miss HF.out (by show wrP t o (dAt D j) = false; rw [HW.out, e1, e2, e3]; simp)
        clear HF HW HX
        go_wp2_with fail
        go_roundw
        case rel => exact ⟨j + 1, by go_num, by omega, HF2, HB⟩
        case measure => simp [intOf]; omega
      | true =>
      cases e4 : (x1 == 1) with
      | false =>
        have HF2 : Hid (M.fstI (fun j => wrP t o (dAt D j)) (j + 1) = none) := M.fstI_miss HF.out (by show wrP t o (dAt D j) = false; rw [HW.out, e1, e2, e3, e4]; simp)
        clear HF HW HX
        go_wp2_with fail
        go_roundw
        case rel => exact ⟨j + 1, by go_num, by omega, HF2, HB⟩
        case measure => simp [intOf]; omega
      | true =>
      have HR : Hid (wrZ D t o = true) := wrZ_hit HF.out (by rw [HN.out]; exact hjn) (by rw [HW.out, e1, e2, e3, e4]; rfl)
      clear HF HW HX
      go_wp2_with fail
      go_ret
      exact ⟨by rw [HR.out]; rfl, HB.out.bl⟩
    · obtain rfl : n = j := by omega
      have HR : Hid (wrZ D t o = false) := wrZ_none (by rw [HN.out]; exact HF.out)
      go_wp2_with fail
      go_ret
      exact ⟨by rw [HR.out]; rfl, HP.out.bl⟩

set_option maxRecDepth 100000 in
set_option maxHeartbeats 2000000 in
theorem rreadfirst_ok {G : Nat → Prop} {D : List Dz} (st : Nat) (t o : Int) (p : Option Addr) (c : Nat) (w : World) (hD : RD G D p c w) :
    Calls Tryd.prog 34 #[rsV st D p c, .int .i64 t, .int .i64 o] w fun e w' => e = .returned (.bool (rfZ D t o)) ∧ Below w.heap.size w w' := by
  have h0 := qs_start st hD
  obtain ⟨n, hn⟩ : ∃ n, D.length = n := ⟨_, rfl⟩
  have HN : Hid (D.length = n) := hn
  have hnm : n ≤ maxLen := by rw [← hn]; exact Nat.le_trans hD.cap.1 hD.cap.2
  unfold maxLen at hnm
  simp only [rsV]
  rw [hn] at h0 ⊢
  obtain ⟨B, hB⟩ : ∃ B, w.heap.size = B := ⟨_, rfl⟩
  rw [hB] at h0
  obtain ⟨wa, hwa⟩ : ∃ wa, w.alloc (.cells #[.slice p n c, .int .i64 (st : Nat)] 41) = wa := ⟨_, rfl⟩
  rw [hwa] at h0
  have H0 : Hid _ := h0
  have r0 := H0.out.rs.c0
  rw [hn] at r0
  have rl := H0.out.rs.lt
  clear hD h0 hn
  go_enter Tryd.func34, Tryd.ntmps34
  go_wp2_with fail
  go_loopw [7] (fun u wr => ∃ j : Nat, u = .int .i64 (j : Nat) ∧ j ≤ n ∧ Hid (M.fstI (fun j => rfP t o (dAt D j)) j = none) ∧ Hid (QS G D p c B st w wr)) (fun u _ => n - (intOf u).toNat)
  case atStart => exact ⟨0, rfl, Nat.zero_le _, (rfl : M.fstI _ 0 = none), H0⟩
  case round =>
    clear r0 rl H0 hwa
    obtain ⟨j, rfl, hj, HF, HP⟩ := hrel
    have r0 := HP.out.rs.c0
    rw [HN.out] at r0
    have rl := HP.out.rs.lt
    by_cases hjn : j < n
    · have hji : (j : Int) < n := by omega
      obtain ⟨b, off, rfl, _, hd⟩ := HP.out.rd.act j (by rw [HN.out]; exact hjn)
      obtain ⟨⟨k1, t1, i1, x1⟩, hz⟩ : ∃ d, dAt D j = d := ⟨_, rfl⟩
      rw [hz] at hd
      have k0 := hd.c0
      have k1c := hd.c1
      have k2 := hd.c2
      have k3 := hd.c3
      have lb := hd.lt
      simp only at k0 k1c k2 k3
      have HW : Hid (rfP t o (dAt D j) = (t1 == t && k1 == 3 && i1 == o)) := by show _ = _; rw [hz]; rfl
      have HX : Hid ((dAt D j).x = x1) := by show _ = _; rw [hz]
      have Da := deAt_new wr ⟨k1, t1, i1, x1⟩
      have HB : Hid (QS G D (some ⟨b, off, none⟩) c B st w (wr.alloc (.cells #[.int .i64 k1, .int .i64 t1, .int .i64 i1, .int .i64 x1] 31))) := HP.out.later (bel_al (Below.refl _ _) _)
      simp only at Da
      obtain ⟨wb, hwb⟩ : ∃ wb, wr.alloc (.cells #[.int .i64 k1, .int .i64 t1, .int .i64 i1, .int .i64 x1] 31) = wb := ⟨_, rfl⟩
      rw [hwb] at Da HB
      obtain ⟨B4, hB4⟩ : ∃ B4, wr.heap.size = B4 := ⟨_, rfl⟩
      rw [hB4] at Da
      have q0 : wb.cell? ⟨B4, 0, none⟩ = some (.int .i64 k1) := Da.c0
      have q1 : wb.cell? ⟨B4, 1, none⟩ = some (.int .i64 t1) := Da.c1
      have q2 : wb.cell? ⟨B4, 2, none⟩ = some (.int .i64 i1) := Da.c2
      have q3 : wb.cell? ⟨B4, 3, none⟩ = some (.int .i64 x1) := Da.c3
      have lq := Da.lt
      clear hz hd Da
      cases e1 : (t1 == t) with
      | false =>
        have HF2 : Hid (M.fstI (fun j => rfP t o (dAt D j)) (j + 1) = none) := M.fstI_miss HF.out (by show rfP t o (dAt D j) = false; rw [HW.out, e1]; simp)
        clear HF HW HX
        go_wp2_with fail
        go_roundw
        case rel => exact ⟨j + 1, by go_num, by omega, HF2, HB⟩
        case measure => simp [intOf]; omega
      | true =>
      cases e2 : (k1 == 3) with
      | false =>
        have HF2 : Hid (M.fstI (fun j => rfP t o (dAt D j)) (j + 1) = none) := M.fstI_miss HF.out (by show rfP t o (dAt D j) = false; rw [HW.out, e1, e2]; simp)
        clear HF HW HX
        go_wp2_with fail
        go_roundw
        case rel => exact ⟨j + 1, by go_num, by omega, HF2, HB⟩
        case measure => simp [intOf]; omega
      | true =>
      cases e3 : (i1 == o) with
      | false =>
        have HF2 : Hid (M.fstI (fun j => rfP t o (dAt D j)) (j + 1) = none) := M.fstI_miss HF.out (by show rfP t o (dAt D j) = false; rw [HW.out, e1, e2, e3]; simp)
        clear HF HW HX
        go_wp2_with fail
        go_roundw
        case rel => exact ⟨j + 1, by go_num, by omega, HF2, HB⟩
        case measure => simp [intOf]; omega
      | true =>
      have HR : Hid (rfZ D t o = (x1 == 0)) := by show _ = _; rw [rfZ_hit HF.out (by rw [HN.out]; exact hjn) (by rw [HW.out, e1, e2, e3]; rfl), HX.out]
      clear HF HW HX
      go_wp2_with fail
      go_ret
      exact ⟨by rw [HR.out]; rfl, HB.out.bl⟩
    · obtain rfl : n = j := by omega
      have HR : Hid (rfZ D t o = false) := rfZ_none (by rw [HN.out]; exact HF.out)
      go_wp2_with fail
      go_ret
      exact ⟨by rw [HR.out]; rfl, HP.out.bl⟩

set_option maxRecDepth 100000 in
set_option maxHeartbeats 4000000 in
theorem rlastof_ok {G : Nat → Prop} {D : List Dz} (st : Nat) (o : Int) (m : Nat) (p : Option Addr) (c : Nat) (w : World) (hD : RD G D p c w) (hm : m ≤ D.length) :
    Calls Tryd.prog 32 #[rsV st D p c, .int .i64 o, .int .i64 (m : Nat)] w fun e w' => e = .returned (.int .i64 (laZ D o m)) ∧ Below w.heap.size w w' := by
  have h0 := qs_start st hD
  obtain ⟨n, hn⟩ : ∃ n, D.length = n := ⟨_, rfl⟩
  have HN : Hid (D.length = n) := hn
  have hnm : n ≤ maxLen := by rw [← hn]; exact Nat.le_trans hD.cap.1 hD.cap.2
  unfold maxLen at hnm
  rw [hn] at hm
  simp only [rsV]
  rw [hn] at h0 ⊢
  obtain ⟨B, hB⟩ : ∃ B, w.heap.size = B := ⟨_, rfl⟩
  rw [hB] at h0
  obtain ⟨wa, hwa⟩ : ∃ wa, w.alloc (.cells #[.slice p n c, .int .i64 (st : Nat)] 41) = wa := ⟨_, rfl⟩
  rw [hwa] at h0
  have H0 : Hid _ := h0
  have r0 := H0.out.rs.c0
  rw [hn] at r0
  have rl := H0.out.rs.lt
  clear hD h0 hn
  go_enter Tryd.func32, Tryd.ntmps32
  go_wp2_with fail
  go_loopw [7, 8] (fun v u wr => ∃ j : Nat, u = .int .i64 (j : Nat) ∧ j ≤ m ∧ v = .int .i64 (laZ D o j) ∧ Hid (QS G D p c B st w wr)) (fun _ u _ => m - (intOf u).toNat)
  case atStart => exact ⟨0, rfl, Nat.zero_le _, rfl, H0⟩
  case round =>
    clear r0 rl H0 hwa
    obtain ⟨j, rfl, hj, rfl, HP⟩ := hrel
    have r0 := HP.out.rs.c0
    have r1 := HP.out.rs.c1
    rw [HN.out] at r0
    have rl := HP.out.rs.lt
    have hl : laZ D o (j + 1) = (if (dAt D j).k = 5 ∧ wrZ D (dAt D j).t o = true then (dAt D j).t else laZ D o j) := rfl
    obtain ⟨z, hzz⟩ : ∃ z, laZ D o j = z := ⟨_, rfl⟩
    have HZ0 : Hid (laZ D o j = z) := hzz
    rw [hzz] at hl ⊢
    have HL : Hid (laZ D o (j + 1) = (if (dAt D j).k = 5 ∧ wrZ D (dAt D j).t o = true then (dAt D j).t else z)) := hl
    clear hl hzz
    by_cases hjm : j < m
    · have hji : (j : Int) < m := by omega
      have hjn : (j : Int) < n := by omega
      obtain ⟨b, off, rfl, _, hd⟩ := HP.out.rd.act j (by rw [HN.out]; omega)
      obtain ⟨⟨k1, t1, i1, x1⟩, hz⟩ : ∃ d, dAt D j = d := ⟨_, rfl⟩
      rw [hz] at hd HL
      have k0 := hd.c0
      have k1c := hd.c1
      have lb := hd.lt
      simp only at k0 k1c HL
      have HZ : Hid (dAt D j = ⟨k1, t1, i1, x1⟩) := hz
      clear hz hd
      cases e1 : (k1 == 5) with
      | false =>
        have HL2 : Hid (laZ D o (j + 1) = z) := by show _ = _; rw [HL.out, if_neg (fun h => by rw [h.1] at e1; simp at e1)]
        clear HL
        go_wp2_with fail
        go_big_quiet (fail)
        go_wp2_with fail
        go_roundw
        case rel => exact ⟨j + 1, by go_num, by omega, by rw [HL2.out], HP.out.later (below_drewN _ _)⟩
        case measure => simp [intOf]; omega
      | true =>
        have e5 : k1 = 5 := by simpa using e1
        obtain ⟨q, hq⟩ : ∃ q, wrZ D t1 o = q := ⟨_, rfl⟩
        have hwr : ∀ W', Below wr.heap.size wr W' → Calls Tryd.prog 31 #[.agg #[.slice (some ⟨b, off, none⟩) n c, .int .i64 (st : Nat)], .int .i64 t1, .int .i64 o] W' fun e w' => e = .returned (.bool q) ∧ Hid (QS G D (some ⟨b, off, none⟩) c B st w w') ∧ (w'.cell? ⟨B, 0, none⟩ = some (.slice (some ⟨b, off, none⟩) n c) ∧ w'.cell? ⟨B, 1, none⟩ = some (.int .i64 (st : Nat)) ∧ B < w'.heap.size ∧ w'.cell? ⟨b, off + j * 4, none⟩ = some (.int .i64 k1) ∧ w'.cell? ⟨b, off + j * 4 + 1, none⟩ = some (.int .i64 t1) ∧ b < w'.heap.size) := fun W' hW => by
          have h1 := HP.out.later hW
          have h2 := rwrote_ok st t1 o (some ⟨b, off, none⟩) c W' h1.rd
          simp only [rsV] at h2
          rw [HN.out, hq] at h2
          refine h2.mono ?_
          rintro e w' ⟨rfl, hB'⟩
          have h3 := h1.later hB'
          obtain ⟨b', off', e', _, hd'⟩ := h3.rd.act j (by rw [HN.out]; omega)
          cases e'
          rw [HZ.out] at hd'
          exact ⟨rfl, h3, by rw [← HN.out]; exact h3.rs.c0, h3.rs.c1, h3.rs.lt, hd'.c0, hd'.c1, hd'.lt⟩
        have HQ : Hid (wrZ D t1 o = q) := hq
        clear hq
        cases q with
        | false =>
          have HL2 : Hid (laZ D o (j + 1) = z) := by show _ = _; rw [HL.out, if_neg (fun h => by rw [HQ.out] at h; cases h.2)]
          clear HL
          go_upto_region 14 with fail
          go_cut [31] from 14 to 31 (fun u w' => u = .bool false ∧ Hid (QS G D (some ⟨b, off, none⟩) c B st w w'))
          case first =>
            go_region_with (go_at_call 31; refine (hwr _ (by repeat first | exact Below.refl _ _ | apply Below.drew)).mono ?_; rintro e w6 ⟨rfl, hQ6, y0, y1, y2, y3, y4, y5⟩)
            all_goals (go_wp2_with fail; go_meet)
            all_goals first | exact ⟨rfl, hQ6⟩ | exact ⟨rfl, hQ6.out.later (Below.refl _ _).drew⟩
          case rest =>
            obtain ⟨rfl, HP2⟩ := hcut
            clear hwr
            go_wp2_with fail
            go_roundw
            case rel => exact ⟨j + 1, by go_num, by omega, by rw [HL2.out], HP2⟩
            case measure => simp [intOf]; omega
        | true =>
          have HL2 : Hid (laZ D o (j + 1) = t1) := by show _ = _; rw [HL.out, if_pos ⟨e5, HQ.out⟩]
          clear HL
          go_upto_region 14 with fail
          go_cut [31] from 14 to 31 (fun u w' => u = .bool true ∧ Hid (QS G D (some ⟨b, off, none⟩) c B st w w'))
          case first =>
            go_region_with (go_at_call 31; refine (hwr _ (by repeat first | exact Below.refl _ _ | apply Below.drew)).mono ?_; rintro e w6 ⟨rfl, hQ6, y0, y1, y2, y3, y4, y5⟩)
            all_goals (go_wp2_with fail; go_meet)
            all_goals first | exact ⟨rfl, hQ6⟩ | exact ⟨rfl, hQ6.out.later (Below.refl _ _).drew⟩
          case rest =>
            obtain ⟨rfl, HP2⟩ := hcut
            clear hwr r0 r1 rl k0 k1c lb
            have r0 := HP2.out.rs.c0
            rw [HN.out] at r0
            have rl := HP2.out.rs.lt
            obtain ⟨b', off', e', _, hd'⟩ := HP2.out.rd.act j (by rw [HN.out]; omega)
            cases e'
            rw [HZ.out] at hd'
            have k1c := hd'.c1
            have lb := hd'.lt
            simp only at k1c
            clear hd'
            go_wp2_with fail
            go_roundw
            case rel => exact ⟨j + 1, by go_num, by omega, by rw [HL2.out], HP2⟩
            case measure => simp [intOf]; omega
    · obtain rfl : m = j := by omega
      go_wp2_with fail
      go_ret
      exact ⟨by rw [HZ0.out]; rfl, HP.out.bl⟩

end Go.Proofs.YtajiichehffaaaaDoor
