/- Whether all is serial (package view, Serial). Whether there is danger (package view, Danger). -/
import Derived.Test.YtajiichehffaaaaDoorVm9
import Derived.Test.YtajiichehffaaaaDoorBWl
import Derived.Test.YtajiichehffaaaaDoorBIs
import Derived.Test.YtajiichehffaaaaDoorIterP
namespace Go.Proofs.YtajiichehffaaaaDoor
open Go.RowKit
theorem behR_code {s : M.Vw} (h : M.VI s) : code (ints (M.behR s)) = if ringB (M.behR s) then 6 else 0 := code_ints (M.behR_ok h) (by rw [M.behR_len]; omega)
set_option maxHeartbeats 1000000 in
theorem vserial_ring {O : Nat → Prop} {S : Nat} {s : M.Vw} (w : World) (he : Env w) (h : VV O S s w) (hI : M.VI s) (hr : M.Ring (M.behR s)) :
    Calls Tryd.prog 10 #[.pointer (some ⟨S, 0, none⟩)] w fun e w' => e = .returned (.tuple #[.bool false, .slice none 0 0]) ∧ Below w.heap.size w w' := by
  have hcd := behR_code hI
  have hed := vedges_ok w h hI
  clear h
  go_enter Tryd.func10, Tryd.ntmps10
  go_wp2_with fail
  refine hed.mono ?_
  rintro e w1 ⟨A, B, rfl, hrow, _, _, _, _, hB⟩
  have hf := first_err (ints (M.behR s)) (some ⟨A, 0, none⟩) 5 5 6 w1 (by rw [ints_length, M.behR_len]) (he.later hB) (by unfold maxLen; omega) hrow.has (by rw [hcd, if_pos (ringB_iff.2 hr)]) (by omega)
  clear hrow hr hcd hed
  go_wp2_with fail
  refine hf.mono ?_
  rintro e w2 ⟨rfl, hB2⟩
  have HB : Hid (Below w.heap.size w w2) := bel_on hB hB2
  clear hB hB2
  go_wp2_with fail
  go_ret2
  exact ⟨rfl, HB.out⟩
set_option maxHeartbeats 1000000 in
theorem vserial_ok {O : Nat → Prop} {S : Nat} {s : M.Vw} (w : World) (he : Env w) (h : VV O S s w) (hI : M.VI s) (hr : ¬ M.Ring (M.behR s)) :
    Calls Tryd.prog 10 #[.pointer (some ⟨S, 0, none⟩)] w fun e w' => ∃ A, e = .returned (.tuple #[.bool true, .slice (some ⟨A, 0, none⟩) 5 5]) ∧ RowAt 3 w' A (M.firstR (M.turned (M.behR s))) ∧ w.heap.size ≤ A ∧ Below w.heap.size w w' := by
  have hrb : ringB (M.behR s) = false := by
    cases h : ringB (M.behR s) with
    | false => rfl
    | true => exact absurd (ringB_iff.1 h) hr
  have hcd := behR_code hI
  have hed := vedges_ok w h hI
  clear hr h
  go_enter Tryd.func10, Tryd.ntmps10
  go_wp2_with fail
  refine hed.mono ?_
  rintro e w1 ⟨A, B, rfl, hrow, _, _, _, _, hB⟩
  have hf := first_ok (ints (M.behR s)) (some ⟨A, 0, none⟩) 5 5 w1 (by rw [ints_length, M.behR_len]) (he.later hB) (by unfold maxLen; omega) hrow.has (by rw [hcd, if_neg (by rw [hrb]; simp)])
  rw [nats_ints] at hf
  clear hrow hrb hcd hed
  go_wp2_with fail
  refine hf.mono ?_
  rintro e w2 ⟨A2, rfl, hrow2, hA2, hB2⟩
  have HB : Hid (Below w.heap.size w w2) := bel_on hB hB2
  have HA : Hid (w.heap.size ≤ A2) := Nat.le_trans hB.size hA2
  have HR : Hid (RowAt 3 w2 A2 (M.firstR (M.turned (M.behR s)))) := hrow2
  clear hB hB2 hrow2 hA2
  go_wp2_with fail
  go_ret2
  exact ⟨A2, rfl, HR.out, HA.out, HB.out⟩
end Go.Proofs.YtajiichehffaaaaDoor
namespace Go.Proofs.YtajiichehffaaaaDoor
open Go.RowKit Go.Shelf
attribute [local go_sem] Oper.semAt_some
theorem results_cellB {fn : Func} {t : Tmp} (h : fn.results = #[.cell t 4]) (tmps : Array Value) (w : World) (a : Addr) (v : Value) (hp : tmps.getD t undef = .pointer (some a)) (hc : w.cell? a = some v) :
    (results fn tmps).run Tryd.prog w = .ok v w := by
  have hp' : tmps[t]?.getD undef = .pointer (some a) := by simpa using hp
  simp [results, h, go_sem, hp']
  rw [hc]
namespace M
theorem dgr_yes {s : Vw} {a b : Nat} (ha : a < 5) (hb : b < 5) (h : (row (ovR s) a).testBit b = true) (hne : row (ovR s) b ≠ 0) : dgr s = true := by
  unfold dgr
  simp only [List.any_eq_true, List.mem_range, Bool.and_eq_true, bne_iff_ne, ne_eq]
  rw [ovR_row s ha] at h
  rw [ovR_row s hb] at hne
  exact ⟨a, ha, b, hb, h, hne⟩
theorem dgr_no {s : Vw} (h : ∀ a, a < 5 → ∀ b, b < 5 → (row (ovR s) a).testBit b = true → row (ovR s) b = 0) : dgr s = false := by
  cases e : dgr s with
  | false => rfl
  | true =>
    unfold dgr at e
    simp only [List.any_eq_true, List.mem_range, Bool.and_eq_true, bne_iff_ne, ne_eq] at e
    obtain ⟨a, ha, b, hb, h1, h2⟩ := e
    have := h a ha b hb (by rw [ovR_row s ha]; exact h1)
    rw [ovR_row s hb] at this
    exact absurd this h2
theorem ovR_lt {s : Vw} (h : VI s) (a : Nat) : row (ovR s) a < 32 := by
  by_cases c : a < 5
  · rw [ovR_row s c]; exact ov_lt h a
  · rw [row_out _ _ (by rw [ovR_len]; omega)]; decide
end M
set_option maxRecDepth 100000 in
set_option maxHeartbeats 4000000 in
theorem vdanger_ok {O : Nat → Prop} {S : Nat} {s : M.Vw} (w : World) (he : Env w) (h : VV O S s w) (hI : M.VI s) :
    Calls Tryd.prog 11 #[.pointer (some ⟨S, 0, none⟩)] w fun e w' => e = .returned (.bool (M.dgr s)) ∧ Below w.heap.size w w' := by
  refine callsIn_wide.1 (callsIn_of_wp_marks (n := 3) Tryd.func11 rfl trivial ?_ rfl)
  simp only [Tryd.ntmps11, List.size_toArray, List.length_cons, List.length_nil, Nat.reduceAdd, Nat.reduceSub, Array.replicate_succ, Array.replicate_zero, List.push_toArray, List.append_toArray, List.nil_append, List.cons_append]
  refine wpIn_wide.2 ?_
  obtain ⟨Wa, hWa⟩ : ∃ Wa, w.alloc (.cells #[.bool false] 4) = Wa := ⟨_, rfl⟩
  have hsz : Wa.heap.size = w.heap.size + 1 := by rw [← hWa]; simp
  have hb2 : Boxed Wa w.heap.size 4 (.bool false) := by rw [← hWa]; exact Boxed.new w _ _
  have hB0 : Below w.heap.size w Wa := by rw [← hWa]; exact bel_al (Below.refl _ w) _
  have hed := vedges_ok Wa (h.below hB0) hI
  have HI : Hid (M.VI s) := hI
  have HE : Hid (Env w) := he
  clear h hI he
  go_wp2_with fail
  refine hed.mono ?_
  rintro e w1 ⟨A, B, rfl, _, hrow, _, _, hgt, hB1⟩
  have x2 : Boxed w1 w.heap.size 4 (.bool false) := (hB1.block _ (by omega)).trans hb2
  have hB01 : Below w.heap.size w w1 := hB0.trans (hB1.mono (by omega))
  have hs1 := hB1.size
  obtain ⟨Wb, hWb⟩ : ∃ Wb, w1.alloc (.cells #[.slice (some ⟨B, 0, none⟩) 5 5] 32) = Wb := ⟨_, rfl⟩
  obtain ⟨C, hC⟩ : ∃ C, w1.heap.size = C := ⟨_, rfl⟩
  have HX : Hid (Boxed Wb w.heap.size 4 (.bool false) ∧ Boxed Wb C 32 (.slice (some ⟨B, 0, none⟩) 5 5) ∧ RowAt 3 Wb B (M.ovR s) ∧ Below w.heap.size w Wb ∧ w.heap.size < C ∧ w.heap.size < B ∧ B < C) := by
    rw [← hWb, ← hC]
    exact ⟨x2.alloc _, Boxed.new w1 _ _, hrow.alloc _, bel_al hB01 _, by omega, by omega, hrow.lt⟩
  have y4 := HX.out.2.1.cell
  clear hed hb2 hB0 hB1 hB01 hrow hgt hWa hsz x2
  go_wp2_with fail
  clear y4 hs1 hWb hC
  refine wp_loop (fun a W => ∃ (k : Nat) (ds : List Deferred) (u6 u7 u16 u17 u18 u19 u20 u21 u22 u23 u24 u25 u26 u27 : Value), k ≤ 5 ∧ Hid (∀ a, a < k → ∀ b, b < 5 → (M.row (M.ovR s) a).testBit b = true → M.row (M.ovR s) b = 0) ∧ Hid (Boxed W w.heap.size 4 (.bool false) ∧ Boxed W C 32 (.slice (some ⟨B, 0, none⟩) 5 5) ∧ RowAt 3 W B (M.ovR s) ∧ Below w.heap.size w W ∧ Marks w.heap.size W W.heap.size ds) ∧
    a = { tmps := #[.pointer (some ⟨S, 0, none⟩), undef, .pointer (some ⟨w.heap.size, 0, none⟩), .slice (some ⟨A, 0, none⟩) 5 5, .pointer (some ⟨C, 0, none⟩), undef, u6, u7, .tuple #[.slice (some ⟨A, 0, none⟩) 5 5, .slice (some ⟨B, 0, none⟩) 5 5], .pointer (some ⟨S, 0, none⟩), .tuple #[.slice (some ⟨A, 0, none⟩) 5 5, .slice (some ⟨B, 0, none⟩) 5 5], .slice (some ⟨A, 0, none⟩) 5 5, .slice (some ⟨B, 0, none⟩) 5 5, .slice (some ⟨B, 0, none⟩) 5 5, .int .i64 5, .int .i64 (k : Nat), u16, u17, u18, u19, u20, u21, u22, u23, u24, u25, u26, u27], defers := ds }) (fun a _ => 5 - (intOf (a.tmps.getD 15 undef)).toNat) ?start ?round2
  case start => exact ⟨0, [], _, _, _, _, _, _, _, _, _, _, _, _, _, _, Nat.zero_le _, (fun a ha => absurd ha (Nat.not_lt_zero _) : ∀ a, a < 0 → ∀ b, b < 5 → (M.row (M.ovR s) a).testBit b = true → M.row (M.ovR s) b = 0), ⟨HX.out.1, HX.out.2.1, HX.out.2.2.1, HX.out.2.2.2.1, trivial⟩, rfl⟩
  case round2 =>
    rintro a W ⟨k, ds, u6, u7, u16, u17, u18, u19, u20, u21, u22, u23, u24, u25, u26, u27, hk, hG, HW, rfl⟩
    dsimp only
    have HN : Hid (w.heap.size < C ∧ w.heap.size < B ∧ B < C) := HX.out.2.2.2.2
    clear HX
    obtain ⟨x2, x4, xr, hB, hmk⟩ := HW.out
    have q2 := x2.cell
    have q4 := x4.cell
    have f2 := x2.frozen
    have l2 := x2.lt
    have l4 := x4.lt
    by_cases hlt : k < 5
    · have hcz := xr.cell (k := k) (by rw [M.ovR_len]; exact hlt)
      have lr := xr.lt
      have hki : (k : Int) < 5 := by omega
      have ha32 := M.ovR_lt HI.out k
      obtain ⟨a, haa⟩ : ∃ a, M.row (M.ovR s) k = a := ⟨_, rfl⟩
      rw [haa] at hcz ha32
      have HA : Hid (M.row (M.ovR s) k = a) := haa
      clear haa
      go_wp2_with (go_at_call 27; refine (things_any _ _).mono ?_; rintro e w' ⟨rfl, rfl⟩)
      obtain ⟨Wx, hWx⟩ : ∃ Wx, W.alloc (.cells #[.int .i64 (a : Nat)] 3) = Wx := ⟨_, rfl⟩
      have hxs : Wx.heap.size = W.heap.size + 1 := by rw [← hWx]; simp
      have y2 : Boxed Wx w.heap.size 4 (.bool false) := by rw [← hWx]; exact x2.alloc _
      have y4 : Boxed Wx C 32 (.slice (some ⟨B, 0, none⟩) 5 5) := by rw [← hWx]; exact x4.alloc _
      have yr : RowAt 3 Wx B (M.ovR s) := by rw [← hWx]; exact xr.alloc _
      have ya : Boxed Wx W.heap.size 3 (.int .i64 (a : Nat)) := by rw [← hWx]; exact Boxed.new W _ _
      have hBx : Below w.heap.size w Wx := by rw [← hWx]; exact bel_al hB _
      have hmx : Marks w.heap.size Wx (W.heap.size + 1) ds := by rw [← hWx]; exact (hmk.others (KeepsOthers.alloc _ _)).hi (by omega)
      rw [hWx]
      have hT2 := HE.out.tab.below hBx HE.out.two
      have htw := HE.out.two
      have hwW := hB.size
      clear hmk q2 q4 f2 x2 x4 xr hWx HW
      refine (wpIn_wide (n := 3)).1 ?_
      refine wpIn_rangeFunc_ownG rfl (by omega) (gf := 45) (lb := #[.pointer (some ⟨W.heap.size, 0, none⟩)]) rfl trivial (enters_of Tryd.func45 (by kernel_rfl) rfl)
        (things_stopsP (3 - 1) W.heap.size w.heap.size 5 a (by omega) ha32 HE.out.two _ (by omega) (by omega) hT2 ya.cell) belowK_t (belowK_b (by omega)) (Below.refl _ _) (fun _ => rfl)
        (fun (pre : List (Fin 5)) W' => (∀ x, x ∈ pre.map (fun x : Fin 5 => x.1) → M.row (M.ovR s) x = 0) ∧ Boxed W' w.heap.size 4 (.bool false) ∧ Boxed W' C 32 (.slice (some ⟨B, 0, none⟩) 5 5) ∧ RowAt 3 W' B (M.ovR s) ∧ Below w.heap.size w W' ∧ Marks w.heap.size W' (W.heap.size + 1) ds)
        (fun cc (pre : List (Fin 5)) W' => cc = .ret ∧ (∃ x, x ∈ pre.map (fun x : Fin 5 => x.1) ∧ M.row (M.ovR s) x ≠ 0) ∧ Boxed W' w.heap.size 4 (.bool true) ∧ Below w.heap.size w W' ∧ Marks w.heap.size W' (W.heap.size + 1) ds)
        (OwnFrom.and (fun _ _ _ _ h _ _ => h) (OwnFrom.and (Own.from (boxed_own _ _ fun _ => .bool false) _) (OwnFrom.and (Own.from (boxed_own _ _ fun _ => (.slice (some ⟨B, 0, none⟩) 5 5)) _) (OwnFrom.and (Own.from (rowAt_own _ _ fun _ => M.ovR s) _) (OwnFrom.and (ownFrom_below (Nat.le_refl _) (by omega)) (by rw [hxs]; exact marks_own w.heap.size (W.heap.size + 1) ds))))))
        (fun _ => OwnFrom.and (fun _ _ _ _ h _ _ => h) (OwnFrom.and (fun _ _ _ _ h _ _ => h) (OwnFrom.and (Own.from (boxed_own _ _ fun _ => .bool true) _) (OwnFrom.and (ownFrom_below (Nat.le_refl _) (by omega)) (by rw [hxs]; exact marks_own w.heap.size (W.heap.size + 1) ds)))))
        ⟨fun x hx => (by simp at hx), y2, y4, yr, hBx, hmx⟩
        (fun x => { tmps := #[.pointer (some ⟨S, 0, none⟩), undef, .pointer (some ⟨w.heap.size, 0, none⟩), .slice (some ⟨A, 0, none⟩) 5 5, .pointer (some ⟨C, 0, none⟩), undef, .int .i64 (a : Nat), .int .i64 (x.1 : Nat), .tuple #[.slice (some ⟨A, 0, none⟩) 5 5, .slice (some ⟨B, 0, none⟩) 5 5], .pointer (some ⟨S, 0, none⟩), .tuple #[.slice (some ⟨A, 0, none⟩) 5 5, .slice (some ⟨B, 0, none⟩) 5 5], .slice (some ⟨A, 0, none⟩) 5 5, .slice (some ⟨B, 0, none⟩) 5 5, .slice (some ⟨B, 0, none⟩) 5 5, .int .i64 5, .int .i64 (k : Nat), .bool true, .pointer (some ⟨B, k, none⟩), .int .i64 (a : Nat), .int .i64 (a : Nat), .func (.func 45) #[] #[.pointer (some ⟨W.heap.size, 0, none⟩)], .int .i64 (x.1 : Nat), u22, u23, u24, u25, u26, u27], defers := [] }) ?assign ?body ?done ?stop
      case assign =>
        intro l x W K hK
        gi_wp2
        exact hK
      case body =>
        rintro l pre x Wb ⟨hpre, z2, z4, zr, hBb, hmb⟩ _
        have hx := x.2
        have c4 := z4.cell
        have f2 := z2.frozen
        have c2 := z2.cell
        have m2 := z2.lt
        have m4 := z4.lt
        have mr := zr.lt
        have hcell := zr.cell (k := x.1) (by rw [M.ovR_len]; exact hx)
        have hxi : ((x.1 : Nat) : Int) < 5 := by omega
        obtain ⟨y, hy⟩ : ∃ y, M.row (M.ovR s) x.1 = y := ⟨_, rfl⟩
        rw [hy] at hcell
        have HY : Hid (M.row (M.ovR s) x.1 = y) := hy
        clear hy
        by_cases hy0 : y = 0
        · have hg : ((y : Int) != 0) = false := by simp [hy0]
          have HB : Hid (M.row (M.ovR s) x.1 = 0) := HY.out.trans hy0
          clear hy0
          gi_wp2
          refine ⟨(KeepsOthers.refl _).from _, Below.refl _ Wb, fun y hy => ?_, z2, z4, zr, hBb, hmb⟩
          rw [List.map_append, List.map_cons, List.map_nil] at hy
          rcases List.mem_append.1 hy with hy | hy
          · exact hpre y hy
          · obtain rfl := List.mem_singleton.1 hy
            exact HB.out
        · have hg : ((y : Int) != 0) = true := by simp [hy0]
          have HB : Hid (M.row (M.ovR s) x.1 ≠ 0) := (by rw [HY.out]; exact hy0 : M.row (M.ovR s) x.1 ≠ 0)
          clear hy0
          gi_wp2
          refine ⟨(KeepsOthers.setCell _ _ _).from _, rfl, ⟨x.1, by simp, HB.out⟩, z2.set _, hBb.setCell (p := ⟨w.heap.size, 0, none⟩) (by simp) _, hmb.others (KeepsOthers.setCell _ _ _)⟩
      case done =>
        rintro D ys Wd hD hys ⟨hpre, z2, z4, zr, hBb, hmb⟩ hK
        have hD' : W.heap.size + 1 ≤ D := by rw [← hxs]; exact hD
        have hDl := (Array.getElem?_eq_some_iff.1 hK).1
        rw [hys] at hpre
        have HG : Hid (∀ a, a < k + 1 → ∀ b, b < 5 → (M.row (M.ovR s) a).testBit b = true → M.row (M.ovR s) b = 0) := fun a' ha b hb5 hb => by
          by_cases e : a' = k
          · subst e
            rw [HA.out] at hb
            exact hpre b (M.mem_bits.2 ⟨by omega, hb⟩)
          · exact hG.out a' (by omega) b hb5 hb
        clear hpre
        go_wp2_with fail
        refine ⟨⟨k + 1, { target := .collected D, args := #[] } :: ds, _, _, _, _, _, _, _, _, _, _, _, _, _, _, by omega, HG, ⟨z2, z4, zr, hBb, ⟨D, by omega, hDl, rfl, hK, hmb.hi hD'⟩⟩, rfl⟩, ?_⟩
        simp [intOf]; omega
      case stop =>
        rintro D cc pre Wd hD ⟨rr, hrr⟩ ⟨rfl, ⟨y, hym, hyn⟩, z2, hBb, hmb⟩ hK
        have hD' : W.heap.size + 1 ≤ D := by rw [← hxs]; exact hD
        have hDl := (Array.getElem?_eq_some_iff.1 hK).1
        have hyb := M.mem_bits.1 (show y ∈ M.bits a by rw [hrr]; exact List.mem_append_left _ hym)
        have hy5 : y < 5 := by
          obtain ⟨f, _, rfl⟩ := List.mem_map.1 hym
          exact f.2
        have HC : Hid (M.dgr s = true) := M.dgr_yes hlt hy5 (by rw [HA.out]; exact hyb.2) hyn
        clear hyb hyn hym hrr hy5
        gi_wp2
        refine leaves_marks (base := w.heap.size) ({ target := .collected D, args := #[] } :: ds) (D + 1) Wd hBb.size ⟨D, by omega, by omega, rfl, hK, hmb.hi hD'⟩ (fun W' ht => ⟨_, results_cellB rfl _ _ _ (.bool true) rfl ?_, ?_, ?_⟩)
        · exact (show Boxed W' _ _ _ from ht.cells _ _ z2 rfl).cell
        · rw [HC.out]
        · exact hBb.trans ht.below
    · obtain rfl : k = 5 := by omega
      have HC : Hid (M.dgr s = false) := M.dgr_no hG.out
      go_wp2_with fail
      have hx := x2.set (.bool false)
      refine leaves_marks (base := w.heap.size) ds (W.heap.size) (W.setCell ⟨w.heap.size, 0, none⟩ (.bool false)) (by have := hB.size; simp; omega) (hmk.others (KeepsOthers.setCell _ _ _)) (fun W' ht => ⟨_, results_cellB rfl _ _ _ (.bool false) rfl ?_, ?_, ?_⟩)
      · exact (show Boxed W' _ _ _ from ht.cells _ _ hx rfl).cell
      · rw [HC.out]
      · exact (hB.setCell (p := ⟨w.heap.size, 0, none⟩) (by simp) _).trans ht.below
end Go.Proofs.YtajiichehffaaaaDoor
