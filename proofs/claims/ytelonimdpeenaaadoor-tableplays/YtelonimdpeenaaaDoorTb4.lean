/- Package table: one tells another one all that it knows (Tell). -/
import Derived.Test.YtelonimdpeenaaaDoorTb2
import Derived.BigQuiet
import Derived.Deep.CutRange
namespace Go.Proofs.YtelonimdpeenaaaDoor
open Go.RowKit

theorem tjoin (f g : Nat → Nat) (w : World) :
    Calls Tryd.prog 18 #[vecK f, vecK g] w fun e w' => e = .returned (vecK (fun i => Nat.max (f i) (g i))) ∧ Below w.heap.size w w' := joined_ok _ _ _ _ _ _ _ _ _ _ w
/-- what is held of a row's cells behind a call -/
theorem tjoin_at {S n : Nat} {k : M.Kt} {w W : World} (f g : Nat → Nat) (a b : Nat) (h : TV S n k w) (hW : Below w.heap.size w W) (ha : a < 5) (hb : b < 5) :
    Calls Tryd.prog 18 #[vecK f, vecK g] W fun e w' => e = .returned (vecK (fun i => Nat.max (f i) (g i))) ∧ Hid (Below w.heap.size w w') ∧
      (w'.cell? ⟨S, 1 + a * 25 + b * 5, none⟩ = some (.int .i64 (k a b 0 : Nat)) ∧ w'.cell? ⟨S, 1 + a * 25 + b * 5 + 1, none⟩ = some (.int .i64 (k a b 1 : Nat)) ∧ w'.cell? ⟨S, 1 + a * 25 + b * 5 + 2, none⟩ = some (.int .i64 (k a b 2 : Nat)) ∧ w'.cell? ⟨S, 1 + a * 25 + b * 5 + 3, none⟩ = some (.int .i64 (k a b 3 : Nat)) ∧ w'.cell? ⟨S, 1 + a * 25 + b * 5 + 4, none⟩ = some (.int .i64 (k a b 4 : Nat))) ∧
      (w'.frozen? ⟨S, 1 + a * 25 + b * 5, none⟩ = false ∧ w'.frozen? ⟨S, 1 + a * 25 + b * 5 + 1, none⟩ = false ∧ w'.frozen? ⟨S, 1 + a * 25 + b * 5 + 2, none⟩ = false ∧ w'.frozen? ⟨S, 1 + a * 25 + b * 5 + 3, none⟩ = false ∧ w'.frozen? ⟨S, 1 + a * 25 + b * 5 + 4, none⟩ = false) := by
  refine (tjoin f g W).mono ?_
  rintro e w' ⟨rfl, hB⟩
  have hB' : Below w.heap.size w w' := hW.trans (hB.mono hW.size)
  have h' := h.below hB'
  exact ⟨rfl, hB', ⟨h'.know (c := 0) ha hb (by omega), h'.know (c := 1) ha hb (by omega), h'.know (c := 2) ha hb (by omega), h'.know (c := 3) ha hb (by omega), h'.know (c := 4) ha hb (by omega)⟩, World.rowIs.frozen h' _, World.rowIs.frozen h' _, World.rowIs.frozen h' _, World.rowIs.frozen h' _, World.rowIs.frozen h' _⟩
/-- a telling behind the row of its own, and the first j others -/
structure TS (S n f t : Nat) (k : M.Kt) (j : Nat) (w w' : World) : Prop where
  v : TV S n (M.tlJ k f t j) w'
  f : Frm (fun b => b = S) w w'
set_option maxRecDepth 100000 in
set_option maxHeartbeats 4000000 in
theorem ttell_do {S n : Nat} {k : M.Kt} (f t : Nat) (w : World) (h : TV S n k w) (h5 : n ≤ 5) (hf : f < n) (ht : t < n) (hne : f ≠ t) :
    Calls Tryd.prog 10 #[.pointer (some ⟨S, 0, none⟩), .int .i64 (f : Nat), .int .i64 (t : Nat)] w fun e w' => e = .returned .nilIface ∧ TV S n (M.tlJ k f t n) w' ∧ Frm (fun j => j = S) w w' := by
  have HV : Hid (TV S n k w) := h
  have t1 : thingZ f n = true := thingZ_true (by omega) (by omega)
  have t3 : thingZ t n = true := thingZ_true (by omega) (by omega)
  have hf5 : (f : Int) < 5 := by omega
  have ht5 : (t : Int) < 5 := by omega
  have hfz : ((f : Int) == (t : Int)) = false := by simp; omega
  have hfz' : (f == t) = false := by simp; omega
  have q0 := h.know (a := t) (b := t) (c := 0) (by omega) (by omega) (by omega)
  have q1 := h.know (a := t) (b := t) (c := 1) (by omega) (by omega) (by omega)
  have q2 := h.know (a := t) (b := t) (c := 2) (by omega) (by omega) (by omega)
  have q3 := h.know (a := t) (b := t) (c := 3) (by omega) (by omega) (by omega)
  have q4 := h.know (a := t) (b := t) (c := 4) (by omega) (by omega) (by omega)
  have r0 := h.know (a := f) (b := f) (c := 0) (by omega) (by omega) (by omega)
  have r1 := h.know (a := f) (b := f) (c := 1) (by omega) (by omega) (by omega)
  have r2 := h.know (a := f) (b := f) (c := 2) (by omega) (by omega) (by omega)
  have r3 := h.know (a := f) (b := f) (c := 3) (by omega) (by omega) (by omega)
  have r4 := h.know (a := f) (b := f) (c := 4) (by omega) (by omega) (by omega)
  simp only [Nat.add_zero] at q0 r0
  have hS := World.rowIs.lt h
  have HN : Hid (f ≠ t) := hne
  have FIN : ∀ w6, Hid (Below w.heap.size w w6) → Hid (TS S n f t k 0 w (rowSet w6 S (1 + t * 25 + t * 5) (fun i => Nat.max (k t t i) (k f f i)))) := fun w6 hB => by
    refine ⟨?_, frm_row (O := fun b => b = S) (S := S) (Frm.of_below hB.out) rfl _ _⟩
    rw [← M.put2_tl1]
    exact (HV.out.below hB.out).row (by omega) (by omega) _
  clear h hne
  go_enter Tryd.func10, Tryd.ntmps10
  go_wp2_with fail
  refine (thas_ok f w HV.out).mono ?_
  rintro e w' ⟨rfl, rfl⟩
  rw [t1]
  go_wp2_with fail
  refine (thas_ok t w HV.out).mono ?_
  rintro e w' ⟨rfl, rfl⟩
  rw [t3]
  go_wp2_with fail
  go_quiet (fail)
  go_wp2_with fail
  go_cut [] from 35 to 49 (fun w' => Hid (TS S n f t k 0 w w'))
  case first =>
    go_region_with (go_at_call 18; refine (tjoin_at (k t t) (k f f) t t HV.out (below_drewN _ _) (by omega) (by omega)).mono ?_; rintro e w6 ⟨rfl, hB6, ⟨c0, c1, c2, c3, c4⟩, f0, f1, f2, f3, f4⟩)
    all_goals (go_wp2_with fail; go_meet)
    all_goals exact FIN _ hB6
  case rest =>
    have HT : Hid (TS S n f t k 0 w wc) := hcut
    have hpr := hcut.out.v.procs
    have hSc := World.rowIs.lt hcut.out.v
    clear q0 q1 q2 q3 q4 r0 r1 r2 r3 r4 FIN hcut
    go_wp2_with fail
    go_loopw [9, 54] (fun _ v wr => ∃ (j : Nat), v = .int .i64 (j : Nat) ∧ j ≤ n ∧ Hid (TS S n f t k j w wr)) (fun _ v _ => n - (intOf v).toNat)
    case atStart => exact ⟨0, rfl, Nat.zero_le _, HT⟩
    case round =>
      clear HT hpr hSc
      obtain ⟨j, rfl, hj, HT⟩ := hrel
      by_cases hlt : j < n
      · have hjn : (j : Int) < n := by omega
        have hj5 : (j : Int) < 5 := by omega
        have h := HT.out.v
        have HR : ∀ i, M.tlJ k f t j f j i = k f j i := fun i => M.tlJ_other k j j i HN.out
        have q0 := h.know (a := t) (b := j) (c := 0) (by omega) (by omega) (by omega)
        have q1 := h.know (a := t) (b := j) (c := 1) (by omega) (by omega) (by omega)
        have q2 := h.know (a := t) (b := j) (c := 2) (by omega) (by omega) (by omega)
        have q3 := h.know (a := t) (b := j) (c := 3) (by omega) (by omega) (by omega)
        have q4 := h.know (a := t) (b := j) (c := 4) (by omega) (by omega) (by omega)
        have r0 := h.know (a := f) (b := j) (c := 0) (by omega) (by omega) (by omega)
        have r1 := h.know (a := f) (b := j) (c := 1) (by omega) (by omega) (by omega)
        have r2 := h.know (a := f) (b := j) (c := 2) (by omega) (by omega) (by omega)
        have r3 := h.know (a := f) (b := j) (c := 3) (by omega) (by omega) (by omega)
        have r4 := h.know (a := f) (b := j) (c := 4) (by omega) (by omega) (by omega)
        rw [HR] at r0 r1 r2 r3 r4
        simp only [Nat.add_zero] at q0 r0
        have hSr := World.rowIs.lt h
        obtain ⟨K, hK⟩ : ∃ K, M.tlJ k f t j = K := ⟨_, rfl⟩
        have FIN : ∀ w6, Hid (Below wr.heap.size wr w6) → Hid (TS S n f t k (j + 1) w (rowSet w6 S (1 + t * 25 + j * 5) (fun i => Nat.max (K t j i) (k f j i)))) := fun w6 hB => by
          refine ⟨?_, frm_row (O := fun b => b = S) (S := S) (HT.out.f.trans (Frm.of_below hB.out)) rfl _ _⟩
          rw [← M.put2_step, hK]
          rw [hK] at h
          exact (h.below hB.out).row (by omega) (by omega) _
        rw [hK] at q0 q1 q2 q3 q4
        have HK : Hid (TV S n K wr) := by rw [← hK]; exact h
        clear h HR hK
        go_wp2_with fail
        go_region_with (go_at_call 18; refine (tjoin_at (K t j) (k f j) t j HK.out (below_drewN _ _) (by omega) (by omega)).mono ?_; rintro e w6 ⟨rfl, hB6, ⟨c0, c1, c2, c3, c4⟩, f0, f1, f2, f3, f4⟩)
        all_goals
          go_wp2_with fail
          go_roundw
          case rel => exact ⟨j + 1, by go_num, by omega, FIN _ hB6⟩
          case measure => simp [intOf]; omega
      · obtain rfl : n = j := by omega
        go_wp2_with fail
        go_ret
        exact ⟨rfl, HT.out.v, HT.out.f⟩
end Go.Proofs.YtelonimdpeenaaaDoor
