/- The closed fact of the laws of views (whensteadlaw3, viewFact): it returns true. -/
import Derived.Test.YtajiichehffaaaaDoorVwz
import Derived.Test.YtajiichehffaaaaDoorVm8
import Derived.Test.YtajiichehffaaaaDoorBVc
namespace Go.Proofs.YtajiichehffaaaaDoor
open Go.RowKit
/-- both read what the other one writes -/
def skD : List Dz := [⟨4, 0, 0, 0⟩, ⟨4, 1, 0, 0⟩, ⟨3, 0, 0, 0⟩, ⟨3, 1, 1, 0⟩, ⟨3, 0, 1, 1⟩, ⟨3, 1, 0, 1⟩, ⟨5, 0, 0, 0⟩, ⟨5, 1, 0, 0⟩]
def vwD (s : M.Vw) (d : Dz) : M.Vw × Int × Nat := vwZ s d.k d.t d.i d.x
/-- the store behind the first k deeds -/
def vwN (zs : List Dz) : Nat → M.Vw
  | 0 => M.vw0
  | k + 1 => (vwD (vwN zs k) (dAt zs k)).1
theorem vwN_vi (zs : List Dz) : ∀ k, M.VI (vwN zs k)
  | 0 => M.VI.zero
  | k + 1 => (vwN_vi zs k).z _ _ _ _
theorem sk_fine : ∀ k, k < 8 → (vwD (vwN skD k) (dAt skD k)).2.2 = 0 := by decide +kernel
theorem sk_com : M.comS (vwN skD 8) = 3 := by decide +kernel
theorem sk_dgr : M.dgr (vwN skD 8) = true := by decide +kernel
theorem sk_ring : ringB (M.behR (vwN skD 8)) = true := by decide +kernel
theorem HasD.frm {O : Nat → Prop} {zs : List Dz} {A : Nat} {w w' : World} (h : HasD zs (some ⟨A, 0, none⟩) w) (hf : Frm O w w') (hA : ¬ O A) : HasD zs (some ⟨A, 0, none⟩) w' := fun j hj => by
  obtain ⟨b, off, h1, h2⟩ := h j hj
  cases h1
  have hb := hf.block A h2.lt hA
  exact ⟨A, 0, rfl, ⟨by have := hf.size; have := h2.lt; omega, (World.cell?_of_block (a := ⟨A, 0 + j * 4, none⟩) hb).trans h2.c0, (World.cell?_of_block (a := ⟨A, 0 + j * 4 + 1, none⟩) hb).trans h2.c1, (World.cell?_of_block (a := ⟨A, 0 + j * 4 + 2, none⟩) hb).trans h2.c2, (World.cell?_of_block (a := ⟨A, 0 + j * 4 + 3, none⟩) hb).trans h2.c3⟩⟩
def skC : List Value := skD.flatMap fun d => [.int .i64 d.k, .int .i64 d.t, .int .i64 d.i, .int .i64 d.x]
set_option maxHeartbeats 2000000 in
theorem skew_ok (w : World) : Calls Tryd.prog 22 #[] w fun e w' => ∃ A, e = .returned (.slice (some ⟨A, 0, none⟩) 8 8) ∧ HasD skD (some ⟨A, 0, none⟩) w' ∧ w.heap.size ≤ A ∧ Below w.heap.size w w' := by
  have H : ∀ cs k, (w.alloc (.cells cs 31)).cell? ⟨w.heap.size, k, none⟩ = cs[k]? := fun cs k => cell_of_row _ _ _ _ _ _ (World.alloc_heap_new w _)
  go_enter Tryd.func22, Tryd.ntmps22
  go_wp2_with fail
  go_ret
  refine ⟨w.heap.size, rfl, fun j hj => ?_, Nat.le_refl _, bel_al (Below.refl _ _) _⟩
  have hj8 : j < 8 := hj
  have : j = 0 ∨ j = 1 ∨ j = 2 ∨ j = 3 ∨ j = 4 ∨ j = 5 ∨ j = 6 ∨ j = 7 := by omega
  rcases this with rfl | rfl | rfl | rfl | rfl | rfl | rfl | rfl
  all_goals exact ⟨w.heap.size, 0, rfl, ⟨by simp, (H _ _).trans rfl, (H _ _).trans rfl, (H _ _).trans rfl, (H _ _).trans rfl⟩⟩
/-- how things stand behind the first i deeds -/
structure FV (w : World) (A S i : Nat) (wr : World) : Prop where
  vv : VV (fun k => w.heap.size ≤ k ∧ k ≠ A) S (vwN skD i) wr
  sk : HasD skD (some ⟨A, 0, none⟩) wr
  bl : Below w.heap.size w wr
  al : w.heap.size ≤ A ∧ A < wr.heap.size
theorem FV.step {w : World} {A S i : Nat} {wr w' : World} (h : FV w A S i wr) (hv : VV (fun k => w.heap.size ≤ k ∧ k ≠ A) S (vwN skD (i + 1)) w') (hf : Frm (fun k => w.heap.size ≤ k ∧ k ≠ A) wr w') : FV w A S (i + 1) w' :=
  ⟨hv, h.sk.frm hf (fun e => e.2 rfl), h.bl.trans (hf.below h.bl.size (fun k hk e => by omega)), h.al.1, by have := hf.size; have := h.al.2; omega⟩
set_option maxRecDepth 100000 in
set_option maxHeartbeats 4000000 in
theorem viewFact_ok (w : World) (he : Env w) : Calls Tryd.prog 7 #[] w fun e w' => e = .returned (.bool true) ∧ Below w.heap.size w w' := by
  have HE : Hid (Env w) := he
  clear he
  go_enter Tryd.func7, Tryd.ntmps7
  go_wp2_with fail
  refine (vnew_ok (O := fun k => k = w.heap.size) w rfl).mono ?_
  rintro e w1 ⟨S, hS, rfl, hV1, hB1⟩
  have H1 : Hid (VV (fun k => k = w.heap.size) S M.vw0 w1 ∧ Below w.heap.size w w1 ∧ S = w.heap.size) := ⟨hV1, hB1, hS⟩
  clear hV1 hB1 hS
  go_wp2_with fail
  refine (skew_ok w1).mono ?_
  rintro e w2 ⟨A, rfl, hD2, hA2, hB2⟩
  have H2 : Hid (FV w A S 0 w2) := by
    have h1 := H1.out.1.lt
    have h3 := H1.out.2.2
    refine ⟨(H1.out.1.below hB2).mono (fun k _ e => ⟨by omega, by omega⟩), hD2, H1.out.2.1.trans (hB2.mono H1.out.2.1.size), by omega, ?_⟩
    obtain ⟨b, off, e, h⟩ := hD2 0 (by decide)
    cases e
    exact h.lt
  clear hD2 hA2 hB2 H1
  go_wp2_with fail
  go_loopw [3] (fun u wr => ∃ i : Nat, u = .int .i64 (i : Nat) ∧ i ≤ 8 ∧ Hid (FV w A S i wr)) (fun u _ => 8 - (intOf u).toNat)
  case atStart => exact ⟨0, rfl, Nat.zero_le _, H2⟩
  case round =>
    clear H2
    obtain ⟨i, rfl, hi, HP⟩ := hrel
    by_cases hlt : i < 8
    · have hii : (i : Int) < 8 := by omega
      obtain ⟨b, off, e, hd⟩ := HP.out.sk i hlt
      cases e
      have hz := sk_fine i hlt
      have dd := vdo_ok (dAt skD i).k (dAt skD i).t (dAt skD i).i (dAt skD i).x wr HP.out.vv (fun k hk => ⟨by have := HP.out.bl.size; omega, by have := HP.out.al.2; omega⟩) (vwN_vi skD i)
      have hz' : (vwZ (vwN skD i) (dAt skD i).k (dAt skD i).t (dAt skD i).i (dAt skD i).x).2.2 = 0 := hz
      rw [hz', terr_zero] at dd
      have HN : Hid (∀ w', VV (fun k => w.heap.size ≤ k ∧ k ≠ A) S (vwN skD (i + 1)) w' → Frm (fun k => w.heap.size ≤ k ∧ k ≠ A) wr w' → FV w A S (i + 1) w') := fun w' h1 h2 => HP.out.step h1 h2
      have c0 := hd.c0
      have c1 := hd.c1
      have c2 := hd.c2
      have c3 := hd.c3
      have hb := hd.lt
      obtain ⟨n0, hn0⟩ : ∃ n, (vwZ (vwN skD i) (dAt skD i).k (dAt skD i).t (dAt skD i).i (dAt skD i).x).2.1 = n := ⟨_, rfl⟩
      obtain ⟨s', hs'⟩ : ∃ n, (vwZ (vwN skD i) (dAt skD i).k (dAt skD i).t (dAt skD i).i (dAt skD i).x).1 = n := ⟨_, rfl⟩
      have hs2 : vwN skD (i + 1) = s' := hs'
      rw [hn0, hs'] at dd
      rw [hs2] at HN
      have HS' : Hid (vwN skD (i + 1) = s') := hs2
      obtain ⟨⟨k, t, o, x⟩, hzz⟩ : ∃ d, dAt skD i = d := ⟨_, rfl⟩
      rw [hzz] at dd c0 c1 c2 c3
      simp only [Nat.zero_add] at dd c0 c1 c2 c3
      clear hz hz' hd HP hn0 hs' hs2 hzz
      go_wp2_with fail
      refine dd.mono ?_
      rintro e w3 ⟨rfl, h3, h4⟩
      have H3 : Hid _ := HN.out w3 h3 h4
      clear dd h3 h4 HN c0 c1 c2 c3
      go_wp2_with fail
      go_roundw
      case rel => exact ⟨i + 1, by go_num, by omega, H3⟩
      case measure => simp [intOf]; omega
    · obtain rfl : i = 8 := by omega
      have hsr := vserial_ring wr (HE.out.later HP.out.bl) HP.out.vv (vwN_vi skD 8) (ringB_iff.1 sk_ring)
      go_wp2_with fail
      refine hsr.mono ?_
      rintro e w3 ⟨rfl, hB3⟩
      have H3 : Hid (VV (fun k => w.heap.size ≤ k ∧ k ≠ A) S (vwN skD 8) w3 ∧ Below w.heap.size w w3) := ⟨HP.out.vv.below hB3, HP.out.bl.trans (hB3.mono HP.out.bl.size)⟩
      clear hsr hB3 HP
      have hcm := vcommitted_ok w3 H3.out.1
      rw [sk_com] at hcm
      go_wp2_with fail
      refine hcm.mono ?_
      rintro e w4 ⟨rfl, hB4⟩
      have H4 : Hid (VV (fun k => w.heap.size ≤ k ∧ k ≠ A) S (vwN skD 8) w4 ∧ Below w.heap.size w w4) := ⟨H3.out.1.below hB4, H3.out.2.trans (hB4.mono H3.out.2.size)⟩
      clear hcm hB4 H3
      have hdn := vdanger_ok w4 (HE.out.later H4.out.2) H4.out.1 (vwN_vi skD 8)
      rw [sk_dgr] at hdn
      go_wp2_with fail
      refine hdn.mono ?_
      rintro e w5 ⟨rfl, hB5⟩
      have H5 : Hid (Below w.heap.size w w5) := H4.out.2.trans (hB5.mono H4.out.2.size)
      clear hdn hB5 H4
      go_wp2_with fail
      go_ret
      exact ⟨rfl, H5.out⟩
end Go.Proofs.YtajiichehffaaaaDoor
