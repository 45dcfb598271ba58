/- The edges (package view, Edges). -/
import Derived.Test.YtajiichehffaaaaDoorBVb
import Derived.Test.YtajiichehffaaaaDoorBFt
namespace Go.Proofs.YtajiichehffaaaaDoor
open Go.RowKit
namespace M
/-- the rows of edges, of the first k that committed -/
def fsK (f : Nat → Nat) (l : List Nat) (k : Nat) : List Nat := (List.range 5).map fun x => if x ∈ l.take k then f x else 0
theorem fsK_len (f : Nat → Nat) (l : List Nat) (k : Nat) : (fsK f l k).length = 5 := by simp [fsK]
theorem fsK_zero (f : Nat → Nat) (l : List Nat) : fsK f l 0 = List.replicate 5 0 := by
  unfold fsK
  simp only [List.take_zero, List.not_mem_nil, if_false]
  rfl
theorem fsK_set {f : Nat → Nat} {l : List Nat} {k t v : Nat} (hk : k < l.length) (ht : row l k = t) (hv : v = f t) : (fsK f l k).set t v = fsK f l (k + 1) := by
  apply List.ext_getElem?
  intro i
  by_cases hi : i < 5
  · have e : ∀ k, (fsK f l k)[i]? = some (if i ∈ l.take k then f i else 0) := fun k => by unfold fsK; rw [List.getElem?_map, List.getElem?_range hi]; rfl
    rw [List.getElem?_set, e, e, fsK_len, take_rowV hk, ht]
    by_cases c : t = i
    · subst c
      rw [if_pos rfl, if_pos hi, if_pos (by simp), hv]
    · rw [if_neg c]
      by_cases d : i ∈ l.take k
      · rw [if_pos d, if_pos (List.mem_append_left _ d)]
      · rw [if_neg d, if_neg (by
          rw [List.mem_append, List.mem_singleton]
          rintro (h | h)
          · exact d h
          · exact c h.symm)]
  · rw [List.getElem?_eq_none (by rw [List.length_set, fsK_len]; omega), List.getElem?_eq_none (by rw [fsK_len]; omega)]
theorem fsK_all {f : Nat → Nat} {l : List Nat} (h : ∀ x, x ∉ l → f x = 0) : fsK f l l.length = (List.range 5).map f := by
  unfold fsK
  apply List.map_congr_left
  intro x _
  rw [List.take_length]
  by_cases c : x ∈ l
  · rw [if_pos c]
  · rw [if_neg c, h x c]
end M
theorem made_two (w : World) : RowAt 3 ((w.alloc (.cells (madeCells #[.int .i64 0] 5) 3)).alloc (.cells (madeCells #[.int .i64 0] 5) 3)).drew w.heap.size (List.replicate 5 0) ∧ RowAt 3 ((w.alloc (.cells (madeCells #[.int .i64 0] 5) 3)).alloc (.cells (madeCells #[.int .i64 0] 5) 3)).drew (w.heap.size + 1) (List.replicate 5 0) ∧ Below w.heap.size w ((w.alloc (.cells (madeCells #[.int .i64 0] 5) 3)).alloc (.cells (madeCells #[.int .i64 0] 5) 3)).drew := by
  have one : ∀ w : World, RowAt 3 (w.alloc (.cells (madeCells #[.int .i64 0] 5) 3)) w.heap.size (List.replicate 5 0) := fun w => by
    unfold RowAt
    rw [World.alloc_heap_new, made_arr]
  have a := one w
  have b := one (w.alloc (.cells (madeCells #[.int .i64 0] 5) 3))
  have e : (w.alloc (.cells (madeCells #[.int .i64 0] 5) 3)).heap.size = w.heap.size + 1 := by simp
  rw [e] at b
  exact ⟨(a.alloc _).drew, b.drew, (bel_al (bel_al (Below.refl _ _) _) _).drew⟩
set_option maxRecDepth 100000 in
set_option maxHeartbeats 4000000 in
theorem vedges_ok {O : Nat → Prop} {S : Nat} {s : M.Vw} (w : World) (h : VV O S s w) (hI : M.VI s) :
    Calls Tryd.prog 19 #[.pointer (some ⟨S, 0, none⟩)] w fun e w' => ∃ A B, e = .returned (.tuple #[.slice (some ⟨A, 0, none⟩) 5 5, .slice (some ⟨B, 0, none⟩) 5 5]) ∧ RowAt 3 w' A (M.behR s) ∧ RowAt 3 w' B (M.ovR s) ∧ A ≠ B ∧ w.heap.size ≤ A ∧ w.heap.size ≤ B ∧ Below w.heap.size w w' := by
  have HV : Hid (VV O S s w) := h
  have HI : Hid (M.VI s) := hI
  obtain ⟨p, c, v1, _⟩ := h.parts
  have cr := v1.ro
  have hlen := hI.len
  have l1 := v1.lt
  obtain ⟨L, hL⟩ : ∃ L, s.ro.length = L := ⟨_, rfl⟩
  rw [hL] at cr hlen
  have HL : Hid (s.ro.length = L ∧ w.cell? ⟨S, 20, none⟩ = some (.slice p L c)) := ⟨hL, cr⟩
  have hmk0 := run_make_row' (P := Tryd.prog) 32 3 (.int .i64 0) 8 Tryd.underlying32 Tryd.info3 rfl .i64 .i64 5 (by omega) (by omega)
  rw [show ((5 : Nat) : Int) = 5 from rfl] at hmk0
  clear hL v1 h hI
  go_enter Tryd.func19, Tryd.ntmps19
  go_wp2_with fail
  go_region
  · obtain ⟨A, hA⟩ : ∃ A, w.heap.size = A := ⟨_, rfl⟩
    obtain ⟨B, hB⟩ : ∃ B, w.heap.size + 1 = B := ⟨_, rfl⟩
    have hz0 := made_two w
    obtain ⟨w2, hw2⟩ : ∃ w2, ((w.alloc (.cells (madeCells #[.int .i64 0] 5) 3)).alloc (.cells (madeCells #[.int .i64 0] 5) 3)).drew = w2 := ⟨_, rfl⟩
    have H0 : Hid (RowAt 3 w2 A (M.fsK (M.behS s) s.ro 0) ∧ RowAt 3 w2 B (M.fsK (M.ovS s) s.ro 0) ∧ Below w.heap.size w w2) := by
      rw [M.fsK_zero, M.fsK_zero, ← hw2, ← hA, ← hB]
      exact ⟨hz0.1, hz0.2.1, hz0.2.2⟩
    have hab : A ≠ B ∧ w.heap.size ≤ A ∧ w.heap.size ≤ B := ⟨by omega, by omega, by omega⟩
    have HAB : Hid _ := hab
    clear hab
    rw [hw2]
    rw [hB, hA]
    have cq := (H0.out.2.2.cell (p := ⟨S, 20, none⟩) l1).trans cr
    have lq : S < w2.heap.size := by have := H0.out.2.2.size; omega
    clear hmk0 hz0 hA hB hw2 cr
    go_wp2_with fail
    go_loopw [14] (fun u wr => ∃ k : Nat, u = .int .i64 (k : Nat) ∧ k ≤ L ∧ Hid (RowAt 3 wr A (M.fsK (M.behS s) s.ro k)) ∧ Hid (RowAt 3 wr B (M.fsK (M.ovS s) s.ro k)) ∧ Hid (Below w.heap.size w wr)) (fun u _ => L - (intOf u).toNat)
    case atStart => exact ⟨0, rfl, Nat.zero_le _, H0.out.1, H0.out.2.1, H0.out.2.2⟩
    case round =>
      clear H0 cq lq
      obtain ⟨k, rfl, hk, hra, hrb, HB⟩ := hrel
      by_cases hlt : k < L
      · obtain ⟨g, u, rfl, _, hu, hu5, hg, c0, _, _, _⟩ := HV.out.place HI.out HL.out.2 HL.out.1 HB.out hlt
        have hki : (k : Int) < L := by omega
        have hui : (u : Int) < 5 := by omega
        have hkr : k < s.ro.length := by rw [HL.out.1]; exact hlt
        have hid : s.ro.idxOf u = k := by rw [← hu]; exact M.row_idx HI.out.nd hkr
        have hmem : u ∈ s.ro := by rw [← hu]; exact M.row_memV hkr
        have vr := HV.out.below HB.out
        have hvo := fun wx (hb : Below wr.heap.size wr wx) => vover_ok u wx (vr.below hb) HI.out hu5
        have hvn := fun wx (hb : Below wr.heap.size wr wx) => vnext_ok k u wx (vr.below hb) HI.out hkr hu
        have hvc := fun wx (hb : Below wr.heap.size wr wx) => vcould_ok k u wx (vr.below hb) HI.out hkr hu
        have HVA : Hid (∀ wx, VV O S s wx → Calls Tryd.prog 38 #[.pointer (some ⟨S, 0, none⟩), .int .i64 (k : Nat)] wx fun e w' => e = .returned (.int .i64 (M.agoS s k : Nat)) ∧ Below wx.heap.size wx w') := fun wx hx => vago_ok k wx hx HI.out
        have e1 : M.behS s u = M.vNxS s u k ||| M.readS s u k ||| M.laterS s u := by unfold M.behS; rw [if_pos hmem, hid]
        have e2 : M.ovS s u = M.laterS s u &&& M.agoS s k := by unfold M.ovS; rw [if_pos hmem, hid]
        have b1 : M.vNxS s u k < 32 := M.orL_lt fun _ hx => HI.out.lt5 (List.mem_of_mem_drop hx)
        have b2 : M.readS s u k < 32 := M.orL_lt fun _ hx => HI.out.lt5 hx
        have b3 : M.laterS s u < 32 := M.orL_lt fun _ hx => HI.out.lt5 (List.mem_of_mem_drop hx)
        have b4 : M.agoS s k < 32 := M.orL_lt fun _ hx => HI.out.lt5 hx
        obtain ⟨n, hn⟩ : ∃ n, M.vNxS s u k = n := ⟨_, rfl⟩
        obtain ⟨r, hr⟩ : ∃ r, M.readS s u k = r := ⟨_, rfl⟩
        obtain ⟨l, hl⟩ : ∃ l, M.laterS s u = l := ⟨_, rfl⟩
        obtain ⟨a, ha⟩ : ∃ a, M.agoS s k = a := ⟨_, rfl⟩
        rw [hn] at hvn e1 b1
        rw [hr] at hvc e1 b2
        rw [hl] at hvo e1 e2 b3
        rw [ha] at HVA e2 b4
        have o1 := i64_or_nat n r (by omega) (by omega)
        have b5 := or32 b1 b2
        obtain ⟨x1, hx1⟩ : ∃ x, n ||| r = x := ⟨_, rfl⟩
        rw [hx1] at o1 e1 b5
        have o2 := i64_or_nat x1 l (by omega) (by omega)
        obtain ⟨x2, hx2⟩ : ∃ x, x1 ||| l = x := ⟨_, rfl⟩
        rw [hx2] at o2 e1
        have o3 := i64_and_nat l a (by omega) (by omega)
        obtain ⟨x3, hx3⟩ : ∃ x, l &&& a = x := ⟨_, rfl⟩
        rw [hx3] at o3 e2
        have HS1 := M.fsK_set (f := M.behS s) hkr hu e1.symm
        have HS2 := M.fsK_set (f := M.ovS s) hkr hu e2.symm
        have HR : Hid (∀ wx wy, Below wr.heap.size wr wx → Below (wx.setCell ⟨A, u, none⟩ (.int .i64 (x2 : Nat))).heap.size (wx.setCell ⟨A, u, none⟩ (.int .i64 (x2 : Nat))) wy →
            wx.frozen? ⟨A, u, none⟩ = false ∧ (∃ y : Nat, wx.cell? ⟨A, u, none⟩ = some (.int .i64 (y : Nat))) ∧ A < wx.heap.size ∧ VV O S s (wx.setCell ⟨A, u, none⟩ (.int .i64 (x2 : Nat))) ∧
            wy.frozen? ⟨B, u, none⟩ = false ∧ (∃ y : Nat, wy.cell? ⟨B, u, none⟩ = some (.int .i64 (y : Nat))) ∧ B < wy.heap.size ∧
            RowAt 3 (wy.setCell ⟨B, u, none⟩ (.int .i64 (x3 : Nat))) A (M.fsK (M.behS s) s.ro (k + 1)) ∧ RowAt 3 (wy.setCell ⟨B, u, none⟩ (.int .i64 (x3 : Nat))) B (M.fsK (M.ovS s) s.ro (k + 1)) ∧ Below w.heap.size w (wy.setCell ⟨B, u, none⟩ (.int .i64 (x3 : Nat)))) := fun wx wy hbx hby => by
          have hne := HAB.out.1
          have a1 := hra.out.below hbx hra.out.lt
          have a2 := hrb.out.below hbx hrb.out.lt
          have a3 := a1.set u x2
          rw [HS1] at a3
          have a4 := a2.other (a := ⟨A, u, none⟩) (Ne.symm hne) (.int .i64 (x2 : Nat))
          have a5 := a3.below hby a3.lt
          have a6 := a4.below hby a4.lt
          have a7 := a6.set u x3
          rw [HS2] at a7
          have bx := (HB.out.trans (hbx.mono HB.out.size)).setCell (p := ⟨A, u, none⟩) HAB.out.2.1 (.int .i64 (x2 : Nat))
          refine ⟨a1.frozen u, ⟨_, a1.cell (k := u) (by rw [M.fsK_len]; exact hu5)⟩, a1.lt, HV.out.below bx, a6.frozen u, ⟨_, a6.cell (k := u) (by rw [M.fsK_len]; exact hu5)⟩, a6.lt, a5.other (a := ⟨B, u, none⟩) hne _, a7, ?_⟩
          exact (bx.trans (hby.mono bx.size)).setCell (p := ⟨B, u, none⟩) HAB.out.2.2 _
        clear hx1 hx2 hx3 e1 e2 b1 b2 b3 b4 b5 hn hr hl ha HS1 HS2 hid hmem hkr hra hrb hu vr
        go_wp2_with fail
        refine (hvo _ (Below.refl _ _)).mono ?_
        rintro e w3 ⟨rfl, hB3⟩
        go_wp2_with fail
        refine (hvn _ hB3).mono ?_
        rintro e w4 ⟨rfl, hB4⟩
        have hB4' : Below wr.heap.size wr w4 := bel_on hB3 hB4
        go_wp2_with fail
        refine (hvc _ hB4').mono ?_
        rintro e w5 ⟨rfl, hB5⟩
        have hB5' : Below wr.heap.size wr w5 := bel_on hB4' hB5
        obtain ⟨f1, ⟨y1, k1⟩, lA, v5, _⟩ := HR.out w5 _ hB5' (Below.refl _ _)
        have HB5 : Hid (Below wr.heap.size wr w5) := hB5'
        obtain ⟨w6, hw6⟩ : ∃ w6, w5.setCell ⟨A, u, none⟩ (.int .i64 (x2 : Nat)) = w6 := ⟨_, rfl⟩
        rw [hw6] at v5
        have hva := HVA.out w6 v5
        clear hB3 hB4 hB4' hB5 hB5' hvo hvn hvc HVA
        go_wp2_with fail
        refine hva.mono ?_
        rintro e w7 ⟨rfl, hB7⟩
        have HF : Hid _ := HR.out w5 w7 HB5.out (by rw [hw6]; exact hB7)
        obtain ⟨_, _, _, _, f2, ⟨y2, k2⟩, lB, _⟩ := HF.out
        clear hB7 hva HR hw6 v5
        go_wp2_with fail
        go_roundw
        case rel => exact ⟨k + 1, by go_num, by omega, HF.out.2.2.2.2.2.2.2.1, HF.out.2.2.2.2.2.2.2.2.1, HF.out.2.2.2.2.2.2.2.2.2⟩
        case measure => simp [intOf]; omega
      · obtain rfl : k = L := by omega
        have HE : Hid (RowAt 3 wr A (M.behR s) ∧ RowAt 3 wr B (M.ovR s)) := by
          have e1 := hra.out
          have e2 := hrb.out
          rw [← HL.out.1, M.fsK_all (fun x hx => by unfold M.behS; rw [if_neg hx])] at e1
          rw [← HL.out.1, M.fsK_all (fun x hx => by unfold M.ovS; rw [if_neg hx])] at e2
          exact ⟨e1, e2⟩
        clear hra hrb
        go_wp2_with fail
        go_ret2
        exact ⟨A, B, rfl, HE.out.1, HE.out.2, HAB.out.1, HAB.out.2.1, HAB.out.2.2, HB.out⟩
  · obtain ⟨A, hA⟩ : ∃ A, w.heap.size + 1 = A := ⟨_, rfl⟩
    obtain ⟨B, hB⟩ : ∃ B, w.heap.size = B := ⟨_, rfl⟩
    have hz0 := made_two w
    obtain ⟨w2, hw2⟩ : ∃ w2, ((w.alloc (.cells (madeCells #[.int .i64 0] 5) 3)).alloc (.cells (madeCells #[.int .i64 0] 5) 3)).drew = w2 := ⟨_, rfl⟩
    have H0 : Hid (RowAt 3 w2 A (M.fsK (M.behS s) s.ro 0) ∧ RowAt 3 w2 B (M.fsK (M.ovS s) s.ro 0) ∧ Below w.heap.size w w2) := by
      rw [M.fsK_zero, M.fsK_zero, ← hw2, ← hA, ← hB]
      exact ⟨hz0.2.1, hz0.1, hz0.2.2⟩
    have hab : A ≠ B ∧ w.heap.size ≤ A ∧ w.heap.size ≤ B := ⟨by omega, by omega, by omega⟩
    have HAB : Hid _ := hab
    clear hab
    rw [hw2]
    rw [hA, hB]
    have cq := (H0.out.2.2.cell (p := ⟨S, 20, none⟩) l1).trans cr
    have lq : S < w2.heap.size := by have := H0.out.2.2.size; omega
    clear hmk0 hz0 hA hB hw2 cr
    go_wp2_with fail
    go_loopw [14] (fun u wr => ∃ k : Nat, u = .int .i64 (k : Nat) ∧ k ≤ L ∧ Hid (RowAt 3 wr A (M.fsK (M.behS s) s.ro k)) ∧ Hid (RowAt 3 wr B (M.fsK (M.ovS s) s.ro k)) ∧ Hid (Below w.heap.size w wr)) (fun u _ => L - (intOf u).toNat)
    case atStart => exact ⟨0, rfl, Nat.zero_le _, H0.out.1, H0.out.2.1, H0.out.2.2⟩
    case round =>
      clear H0 cq lq
      obtain ⟨k, rfl, hk, hra, hrb, HB⟩ := hrel
      by_cases hlt : k < L
      · obtain ⟨g, u, rfl, _, hu, hu5, hg, c0, _, _, _⟩ := HV.out.place HI.out HL.out.2 HL.out.1 HB.out hlt
        have hki : (k : Int) < L := by omega
        have hui : (u : Int) < 5 := by omega
        have hkr : k < s.ro.length := by rw [HL.out.1]; exact hlt
        have hid : s.ro.idxOf u = k := by rw [← hu]; exact M.row_idx HI.out.nd hkr
        have hmem : u ∈ s.ro := by rw [← hu]; exact M.row_memV hkr
        have vr := HV.out.below HB.out
        have hvo := fun wx (hb : Below wr.heap.size wr wx) => vover_ok u wx (vr.below hb) HI.out hu5
        have hvn := fun wx (hb : Below wr.heap.size wr wx) => vnext_ok k u wx (vr.below hb) HI.out hkr hu
        have hvc := fun wx (hb : Below wr.heap.size wr wx) => vcould_ok k u wx (vr.below hb) HI.out hkr hu
        have HVA : Hid (∀ wx, VV O S s wx → Calls Tryd.prog 38 #[.pointer (some ⟨S, 0, none⟩), .int .i64 (k : Nat)] wx fun e w' => e = .returned (.int .i64 (M.agoS s k : Nat)) ∧ Below wx.heap.size wx w') := fun wx hx => vago_ok k wx hx HI.out
        have e1 : M.behS s u = M.vNxS s u k ||| M.readS s u k ||| M.laterS s u := by unfold M.behS; rw [if_pos hmem, hid]
        have e2 : M.ovS s u = M.laterS s u &&& M.agoS s k := by unfold M.ovS; rw [if_pos hmem, hid]
        have b1 : M.vNxS s u k < 32 := M.orL_lt fun _ hx => HI.out.lt5 (List.mem_of_mem_drop hx)
        have b2 : M.readS s u k < 32 := M.orL_lt fun _ hx => HI.out.lt5 hx
        have b3 : M.laterS s u < 32 := M.orL_lt fun _ hx => HI.out.lt5 (List.mem_of_mem_drop hx)
        have b4 : M.agoS s k < 32 := M.orL_lt fun _ hx => HI.out.lt5 hx
        obtain ⟨n, hn⟩ : ∃ n, M.vNxS s u k = n := ⟨_, rfl⟩
        obtain ⟨r, hr⟩ : ∃ r, M.readS s u k = r := ⟨_, rfl⟩
        obtain ⟨l, hl⟩ : ∃ l, M.laterS s u = l := ⟨_, rfl⟩
        obtain ⟨a, ha⟩ : ∃ a, M.agoS s k = a := ⟨_, rfl⟩
        rw [hn] at hvn e1 b1
        rw [hr] at hvc e1 b2
        rw [hl] at hvo e1 e2 b3
        rw [ha] at HVA e2 b4
        have o1 := i64_or_nat n r (by omega) (by omega)
        have b5 := or32 b1 b2
        obtain ⟨x1, hx1⟩ : ∃ x, n ||| r = x := ⟨_, rfl⟩
        rw [hx1] at o1 e1 b5
        have o2 := i64_or_nat x1 l (by omega) (by omega)
        obtain ⟨x2, hx2⟩ : ∃ x, x1 ||| l = x := ⟨_, rfl⟩
        rw [hx2] at o2 e1
        have o3 := i64_and_nat l a (by omega) (by omega)
        obtain ⟨x3, hx3⟩ : ∃ x, l &&& a = x := ⟨_, rfl⟩
        rw [hx3] at o3 e2
        have HS1 := M.fsK_set (f := M.behS s) hkr hu e1.symm
        have HS2 := M.fsK_set (f := M.ovS s) hkr hu e2.symm
        have HR : Hid (∀ wx wy, Below wr.heap.size wr wx → Below (wx.setCell ⟨A, u, none⟩ (.int .i64 (x2 : Nat))).heap.size (wx.setCell ⟨A, u, none⟩ (.int .i64 (x2 : Nat))) wy →
            wx.frozen? ⟨A, u, none⟩ = false ∧ (∃ y : Nat, wx.cell? ⟨A, u, none⟩ = some (.int .i64 (y : Nat))) ∧ A < wx.heap.size ∧ VV O S s (wx.setCell ⟨A, u, none⟩ (.int .i64 (x2 : Nat))) ∧
            wy.frozen? ⟨B, u, none⟩ = false ∧ (∃ y : Nat, wy.cell? ⟨B, u, none⟩ = some (.int .i64 (y : Nat))) ∧ B < wy.heap.size ∧
            RowAt 3 (wy.setCell ⟨B, u, none⟩ (.int .i64 (x3 : Nat))) A (M.fsK (M.behS s) s.ro (k + 1)) ∧ RowAt 3 (wy.setCell ⟨B, u, none⟩ (.int .i64 (x3 : Nat))) B (M.fsK (M.ovS s) s.ro (k + 1)) ∧ Below w.heap.size w (wy.setCell ⟨B, u, none⟩ (.int .i64 (x3 : Nat)))) := fun wx wy hbx hby => by
          have hne := HAB.out.1
          have a1 := hra.out.below hbx hra.out.lt
          have a2 := hrb.out.below hbx hrb.out.lt
          have a3 := a1.set u x2
          rw [HS1] at a3
          have a4 := a2.other (a := ⟨A, u, none⟩) (Ne.symm hne) (.int .i64 (x2 : Nat))
          have a5 := a3.below hby a3.lt
          have a6 := a4.below hby a4.lt
          have a7 := a6.set u x3
          rw [HS2] at a7
          have bx := (HB.out.trans (hbx.mono HB.out.size)).setCell (p := ⟨A, u, none⟩) HAB.out.2.1 (.int .i64 (x2 : Nat))
          refine ⟨a1.frozen u, ⟨_, a1.cell (k := u) (by rw [M.fsK_len]; exact hu5)⟩, a1.lt, HV.out.below bx, a6.frozen u, ⟨_, a6.cell (k := u) (by rw [M.fsK_len]; exact hu5)⟩, a6.lt, a5.other (a := ⟨B, u, none⟩) hne _, a7, ?_⟩
          exact (bx.trans (hby.mono bx.size)).setCell (p := ⟨B, u, none⟩) HAB.out.2.2 _
        clear hx1 hx2 hx3 e1 e2 b1 b2 b3 b4 b5 hn hr hl ha HS1 HS2 hid hmem hkr hra hrb hu vr
        go_wp2_with fail
        refine (hvo _ (Below.refl _ _)).mono ?_
        rintro e w3 ⟨rfl, hB3⟩
        go_wp2_with fail
        refine (hvn _ hB3).mono ?_
        rintro e w4 ⟨rfl, hB4⟩
        have hB4' : Below wr.heap.size wr w4 := bel_on hB3 hB4
        go_wp2_with fail
        refine (hvc _ hB4').mono ?_
        rintro e w5 ⟨rfl, hB5⟩
        have hB5' : Below wr.heap.size wr w5 := bel_on hB4' hB5
        obtain ⟨f1, ⟨y1, k1⟩, lA, v5, _⟩ := HR.out w5 _ hB5' (Below.refl _ _)
        have HB5 : Hid (Below wr.heap.size wr w5) := hB5'
        obtain ⟨w6, hw6⟩ : ∃ w6, w5.setCell ⟨A, u, none⟩ (.int .i64 (x2 : Nat)) = w6 := ⟨_, rfl⟩
        rw [hw6] at v5
        have hva := HVA.out w6 v5
        clear hB3 hB4 hB4' hB5 hB5' hvo hvn hvc HVA
        go_wp2_with fail
        refine hva.mono ?_
        rintro e w7 ⟨rfl, hB7⟩
        have HF : Hid _ := HR.out w5 w7 HB5.out (by rw [hw6]; exact hB7)
        obtain ⟨_, _, _, _, f2, ⟨y2, k2⟩, lB, _⟩ := HF.out
        clear hB7 hva HR hw6 v5
        go_wp2_with fail
        go_roundw
        case rel => exact ⟨k + 1, by go_num, by omega, HF.out.2.2.2.2.2.2.2.1, HF.out.2.2.2.2.2.2.2.2.1, HF.out.2.2.2.2.2.2.2.2.2⟩
        case measure => simp [intOf]; omega
      · obtain rfl : k = L := by omega
        have HE : Hid (RowAt 3 wr A (M.behR s) ∧ RowAt 3 wr B (M.ovR s)) := by
          have e1 := hra.out
          have e2 := hrb.out
          rw [← HL.out.1, M.fsK_all (fun x hx => by unfold M.behS; rw [if_neg hx])] at e1
          rw [← HL.out.1, M.fsK_all (fun x hx => by unfold M.ovS; rw [if_neg hx])] at e2
          exact ⟨e1, e2⟩
        clear hra hrb
        go_wp2_with fail
        go_ret2
        exact ⟨A, B, rfl, HE.out.1, HE.out.2, HAB.out.1, HAB.out.2.1, HAB.out.2.2, HB.out⟩
end Go.Proofs.YtajiichehffaaaaDoor
