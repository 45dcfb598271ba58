/- Whether a deed may be (package view, isDeed), a new store, and what is read (read). -/
import Derived.Test.YtajiichehffaaaaDoorVm0
import Derived.Test.YtajiichehffaaaaDoorDee
import Derived.Test.YtajiichehffaaaaDoorFaces
import Derived.BigRegion
import Derived.BigQuiet
namespace Go.Proofs.YtajiichehffaaaaDoor
open Go.RowKit

/-- may the numbers of a deed be? -/
def vdIn (k t i x : Int) : Bool := decide (3 ≤ k ∧ k ≤ 5) && thingZ t 5 && (decide (k ≠ 3) || (thingZ i 4 && thingZ x 2))
abbrev dvV (k t i x : Int) : Value := .agg #[.int .i64 k, .int .i64 t, .int .i64 i, .int .i64 x]
set_option maxHeartbeats 2000000 in
theorem visDeed_ok (k t i x : Int) (w : World) : Calls Tryd.prog 23 #[dvV k t i x] w fun e w' => e = .returned (.bool (vdIn k t i x)) ∧ Below w.heap.size w w' := by
  have F : ∀ o, Hid (Below w.heap.size w (w.alloc o)) := fun o => bel_al (Below.refl _ _) o
  by_cases h1 : k < 3
  · have e : vdIn k t i x = false := by unfold vdIn; rw [decide_eq_false (by omega)]; rfl
    rw [e]
    clear e
    go_enter Tryd.func23, Tryd.ntmps23
    go_wp2_with fail
    go_ret
    exact ⟨rfl, (F _).out⟩
  by_cases h2 : 5 < k
  · have e : vdIn k t i x = false := by unfold vdIn; rw [decide_eq_false (by omega)]; rfl
    rw [e]
    have h1' : 3 ≤ k := by omega
    clear e h1
    go_enter Tryd.func23, Tryd.ntmps23
    go_wp2_with fail
    go_ret
    exact ⟨rfl, (F _).out⟩
  have hk0 : 3 ≤ k := by omega
  have hk3 : k ≤ 5 := by omega
  have e0 : Hid (vdIn k t i x = (thingZ t 5 && (decide (k ≠ 3) || (thingZ i 4 && thingZ x 2)))) := by
    show _ = _
    unfold vdIn; rw [decide_eq_true ⟨hk0, hk3⟩]; simp
  have c1 := fun w' => isThing_z t 5 w'
  have c2 := fun w' => isThing_z i 4 w'
  have c3 := fun w' => isThing_z x 2 w'
  obtain ⟨b1, hb1⟩ : ∃ b, thingZ t 5 = b := ⟨_, rfl⟩
  obtain ⟨b2, hb2⟩ : ∃ b, thingZ i 4 = b := ⟨_, rfl⟩
  obtain ⟨b3, hb3⟩ : ∃ b, thingZ x 2 = b := ⟨_, rfl⟩
  rw [hb1] at c1
  rw [hb2] at c2
  rw [hb3] at c3
  rw [hb1, hb2, hb3] at e0
  clear h1 h2 hb1 hb2 hb3
  cases b1 with
  | false =>
    go_enter Tryd.func23, Tryd.ntmps23
    go_wp2_with fail
    refine (c1 _).mono ?_
    rintro e w' ⟨rfl, rfl⟩
    go_wp2_with fail
    go_ret
    exact ⟨by rw [e0.out]; rfl, (F _).out⟩
  | true =>
  by_cases h3 : k = 3
  · subst h3
    cases b2 with
    | false =>
      go_enter Tryd.func23, Tryd.ntmps23
      go_wp2_with fail
      refine (c1 _).mono ?_
      rintro e w' ⟨rfl, rfl⟩
      go_wp2_with fail
      refine (c2 _).mono ?_
      rintro e w' ⟨rfl, rfl⟩
      go_wp2_with fail
      go_ret
      exact ⟨by rw [e0.out]; rfl, (F _).out⟩
    | true =>
      have e1 : Hid (vdIn 3 t i x = b3) := by show _ = _; rw [e0.out]; simp
      clear e0
      go_enter Tryd.func23, Tryd.ntmps23
      go_wp2_with fail
      refine (c1 _).mono ?_
      rintro e w' ⟨rfl, rfl⟩
      go_wp2_with fail
      refine (c2 _).mono ?_
      rintro e w' ⟨rfl, rfl⟩
      go_wp2_with fail
      refine (c3 _).mono ?_
      rintro e w' ⟨rfl, rfl⟩
      go_wp2_with fail
      go_ret
      exact ⟨by rw [e1.out]; rfl, (F _).out⟩
  · have e1 : Hid (vdIn k t i x = true) := by show _ = _; rw [e0.out]; simp [h3]
    have h3' : (k == 3) = false := by simp [h3]
    have h3n : (k != 3) = true := by simp [h3]
    clear e0 h3
    go_enter Tryd.func23, Tryd.ntmps23
    go_wp2_with fail
    refine (c1 _).mono ?_
    rintro e w' ⟨rfl, rfl⟩
    go_wp2_with fail
    go_ret
    exact ⟨by rw [e1.out]; rfl, (F _).out⟩
theorem vnew_ok {O : Nat → Prop} (w : World) (hO : O w.heap.size) :
    Calls Tryd.prog 8 #[] w fun e w' => ∃ S, S = w.heap.size ∧ e = .returned (.pointer (some ⟨S, 0, none⟩)) ∧ VV O S M.vw0 w' ∧ Below w.heap.size w w' := by
  go_enter Tryd.func8, Tryd.ntmps8
  go_wp2_with fail
  go_ret
  exact ⟨_, rfl, rfl, ⟨_, vw_new w, hO, fun g h => by simp [Value.ownBlock] at h⟩, bel_al (Below.refl _ _) _⟩
theorem belowEq {N : Nat} {a b : World} (e : b.heap = a.heap) (e1 : b.os = a.os) (e2 : b.tape = a.tape) (e3 : b.output = a.output) : Below N a b :=
  { os := e1, tape := e2, output := e3, size := by rw [e]; exact Nat.le_refl _, block := fun _ _ => by rw [e] }
theorem belowOn {N : Nat} {a b c : World} (h : Below N a b) (e : c.heap = b.heap) (e1 : c.os = b.os) (e2 : c.tape = b.tape) (e3 : c.output = b.output) : Below N a c :=
  { os := e1.trans h.os, tape := e2.trans h.tape, output := e3.trans h.output, size := by rw [e]; exact h.size, block := fun i hi => by rw [e]; exact h.block i hi }
/-! ### what is read -/
theorem one16 (o : Nat) : (2 : Int) ^ o = ((1 <<< o : Nat) : Int) := by rw [Nat.shiftLeft_eq, Nat.one_mul]; simp
set_option maxHeartbeats 2000000 in
theorem vread_own {O : Nat → Prop} {S : Nat} {s : M.Vw} (t o : Nat) (w : World) (h : VV O S s w) (hI : M.VI s) (ht : t < 5) (ho : o < 4) (hw : (s.wr t).testBit o = true) :
    Calls Tryd.prog 25 #[.pointer (some ⟨S, 0, none⟩), .int .i64 (t : Nat), .int .i64 (o : Nat)] w fun e w' => e = .returned (.int .i64 (t : Nat)) ∧ w = w' := by
  obtain ⟨p, c, h1, _⟩ := h.parts
  have l1 := h1.lt
  have c3 := h1.wr ht
  have hh := fun W => has_any (s.wr t) o W (by have := hI.wb t; omega) (by omega)
  obtain ⟨x, hx⟩ : ∃ x, s.wr t = x := ⟨_, rfl⟩
  rw [hw] at hh
  rw [hx] at hh c3
  have hti : (t : Int) < 5 := by omega
  clear hx hw h1 h hI
  go_enter Tryd.func25, Tryd.ntmps25
  go_wp2_with fail
  refine (hh _).mono ?_
  rintro e w' ⟨rfl, rfl⟩
  go_wp2_with fail
  go_ret
  exact ⟨rfl, rfl⟩
set_option maxRecDepth 100000 in
set_option maxHeartbeats 4000000 in
theorem vread_ok {O : Nat → Prop} {S : Nat} {s : M.Vw} (t o : Nat) (w : World) (h : VV O S s w) (hI : M.VI s) (ht : t < 5) (ho : o < 4) (hw : (s.wr t).testBit o = false) :
    Calls Tryd.prog 25 #[.pointer (some ⟨S, 0, none⟩), .int .i64 (t : Nat), .int .i64 (o : Nat)] w fun e w' => e = .returned (.int .i64 (M.lastW s o (s.se t))) ∧ VV O S (M.vRd s t o) w' ∧ Frm O w w' := by
  obtain ⟨p, c, h1, hrow, hOS, hOv⟩ := h.parts
  have l1 := h1.lt
  have c3 := h1.wr ht
  have c2 := h1.rd ht
  have c1 := h1.se ht
  have cr := h1.ro
  have fz := h1.fz (t * 4 + 2)
  have hh := fun W => has_any (s.wr t) o W (by have := hI.wb t; omega) (by omega)
  have hti : (t : Int) < 5 := by omega
  have hor := i64_or_nat (s.rd t) (1 <<< o) (by have := hI.rb t; omega) (by have := M.one_lt16 ho; omega)
  have hsh : IntKind.i64.wrap (2 ^ o) = ((1 <<< o : Nat) : Int) := i64_shl o (by omega)
  obtain ⟨w1, hw1⟩ : ∃ w1, w.setCell ⟨S, t * 4 + 2, none⟩ (.int .i64 (s.rd t ||| 1 <<< o : Nat)) = w1 := ⟨_, rfl⟩
  have V1 : VVr w1 S (M.vRd s t o) (.slice p s.ro.length c) := by rw [← hw1]; exact h1.setRd ht _
  have FV : Hid (VV O S (M.vRd s t o) w1 ∧ Frm O w w1) := ⟨⟨_, V1, hOS, hOv⟩, by rw [← hw1]; exact (Frm.refl O w).set (p := ⟨S, t * 4 + 2, none⟩) hOS _⟩
  have m1 := V1.se ht
  have mr : w1.cell? ⟨S, 20, none⟩ = some (.slice p s.ro.length c) := V1.ro
  have ml := V1.lt
  have mh : HasI (ints s.ro) p w1 := hasI_of_owns rfl V1.row
  have mw : Hid (∀ u, u < 5 → w1.cell? ⟨S, u * 4 + 3, none⟩ = some (.int .i64 (s.wr u : Nat))) := fun u hu => V1.wr hu
  have H2 : Hid (∀ u, u < 5 → s.wr u < 16) := fun u _ => hI.wb u
  have H5 : Hid (∀ i, i < s.ro.length → M.row s.ro i < 5) := fun i hi => hI.row5 hi
  have hse := hI.se t
  have hsl := hI.len
  have m1' : w1.cell? ⟨S, t * 4 + 1, none⟩ = some (.int .i64 (s.se t : Nat)) := m1
  obtain ⟨x, hx⟩ : ∃ x, s.wr t = x := ⟨_, rfl⟩
  obtain ⟨y, hy⟩ : ∃ y, s.rd t = y := ⟨_, rfl⟩
  obtain ⟨z, hz⟩ : ∃ z, s.se t = z := ⟨_, rfl⟩
  obtain ⟨L, hL⟩ : ∃ L, s.ro.length = L := ⟨_, rfl⟩
  obtain ⟨q, hq⟩ : ∃ q, 1 <<< o = q := ⟨_, rfl⟩
  rw [hw] at hh
  rw [hx] at hh c3
  rw [hy, hq] at hor hw1
  rw [hy] at c2
  rw [hz] at m1' hse c1 ⊢
  rw [hL] at mr hse hsl cr H5
  rw [hq] at hsh
  obtain ⟨r, hr⟩ : ∃ r, y ||| q = r := ⟨_, rfl⟩
  rw [hr] at hor hw1
  clear hx hy hz hq hr hw h1 h hI V1 hrow m1
  go_enter Tryd.func25, Tryd.ntmps25
  go_wp2_with fail
  refine (hh _).mono ?_
  rintro e w' ⟨rfl, rfl⟩
  go_wp2_with fail
  go_region
  clear c1 c2 c3 cr fz hh hor hsh
  go_wp2_with fail
  go_loopw [8] (fun u wr => ∃ m : Nat, u = .int .i64 ((m : Int) - 1) ∧ m ≤ z ∧ Hid (M.lastW s o z = M.lastW s o m) ∧ Hid (Below w1.heap.size w1 wr)) (fun u _ => (intOf u + 1).toNat)
  case atStart => exact ⟨z, by go_num, Nat.le_refl _, (rfl : M.lastW s o z = _), belowEq rfl rfl rfl rfl⟩
  case round =>
    obtain ⟨m, rfl, hm, hL, hB⟩ := hrel
    have hcr := (hB.out.cell (p := ⟨S, 20, none⟩) ml).trans mr
    have hls : S < wr.heap.size := by have := hB.out.size; omega
    rcases m with _ | m
    · have hm0 : ((0 : Nat) : Int) - 1 = -1 := by omega
      rw [hm0]
      have HL : Hid (M.lastW s o z = -1) := (hL.out.trans rfl : M.lastW s o z = -1)
      clear hm0 hcr
      go_wp2_with fail
      go_ret
      exact ⟨by rw [HL.out]; rfl, FV.out.1.below hB.out, FV.out.2.trans (Frm.of_below hB.out)⟩
    · have hm0 : ((m + 1 : Nat) : Int) - 1 = (m : Int) := by omega
      rw [hm0]
      have hms : m < L := by omega
      obtain ⟨b, off, rfl, hb, hcell⟩ := mh.later hB.out m (by rw [ints_length]; omega)
      rw [ints_get] at hcell
      have hu5 := H5.out m hms
      have hcu := (hB.out.cell (p := ⟨S, M.row s.ro m * 4 + 3, none⟩) ml).trans (mw.out _ hu5)
      have hq := fun W => has_any (s.wr (M.row s.ro m)) o W (by have := H2.out _ hu5; omega) (by omega)
      have hst : M.lastW s o (m + 1) = if (s.wr (M.row s.ro m)).testBit o = true then ((M.row s.ro m : Nat) : Int) else M.lastW s o m := rfl
      obtain ⟨u, hu⟩ : ∃ u, M.row s.ro m = u := ⟨_, rfl⟩
      rw [hu] at hcell hu5 hcu hq hst
      obtain ⟨x, hx⟩ : ∃ x, s.wr u = x := ⟨_, rfl⟩
      rw [hx] at hcu hq hst
      have hui : (u : Int) < 5 := by omega
      have hmi : (m : Int) < L := by omega
      clear hu hx
      cases e : x.testBit o with
      | true =>
        rw [e] at hq hst
        have HL : Hid (M.lastW s o z = (u : Nat)) := hL.out.trans (hst.trans (if_pos rfl))
        clear e hst hm0
        go_wp2_with fail
        go_big_quiet ((go_at_call 41; exact Calls.quiet_of_same ((hq _).mono (fun e w' h => ⟨h.1, h.2.symm⟩))))
        go_wp2_with fail
        go_ret
        exact ⟨by rw [HL.out]; rfl, (FV.out.1.below hB.out).heap rfl, (FV.out.2.trans (Frm.of_below hB.out)).heap rfl rfl rfl rfl⟩
      | false =>
        rw [e] at hq hst
        have HL : Hid (M.lastW s o z = M.lastW s o m) := hL.out.trans (hst.trans (if_neg (by simp)))
        clear e hst hm0
        go_wp2_with fail
        go_big_quiet ((go_at_call 41; exact Calls.quiet_of_same ((hq _).mono (fun e w' h => ⟨h.1, h.2.symm⟩))))
        go_wp2_with fail
        go_roundw
        case rel => exact ⟨m, by go_num, by omega, HL, belowOn hB.out rfl rfl rfl rfl⟩
        case measure => simp [intOf]
end Go.Proofs.YtajiichehffaaaaDoor
