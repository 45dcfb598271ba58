/- The greater number of two vectors at each place (package table, joined); what lay in memory lies as it lay. -/
import Derived.Test.YtelonimdpeenaaaDoorTbf
import Derived.Laws.Small
namespace Go.Proofs.YtelonimdpeenaaaDoor
open Go.RowKit
namespace M
/-- the first k places: the greater one -/
def mxl (X Y : List Nat) (k : Nat) : List Nat := (List.range 5).map fun j => if j < k then Nat.max (row X j) (row Y j) else row X j
theorem mxl_length (X Y : List Nat) (k : Nat) : (mxl X Y k).length = 5 := by simp [mxl]
theorem mxl_row (X Y : List Nat) (k : Nat) {j : Nat} (h : j < 5) : row (mxl X Y k) j = if j < k then Nat.max (row X j) (row Y j) else row X j := by
  unfold mxl
  simp [row, h]
theorem mxl_zero {X Y : List Nat} (h : X.length = 5) : mxl X Y 0 = X := by
  apply List.ext_getElem
  · rw [mxl_length, h]
  · intro j h1 h2
    simp [mxl, row, h2]
theorem mxl_set {X Y : List Nat} {k v : Nat} (hv : v = Nat.max (row X k) (row Y k)) : (mxl X Y k).set k v = mxl X Y (k + 1) := by
  apply List.ext_getElem
  · simp [mxl]
  · intro j h1 h2
    rw [List.getElem_set]
    simp only [mxl, List.getElem_map, List.getElem_range]
    by_cases e : k = j
    · subst e; rw [if_pos rfl, if_pos (by omega), hv]
    · rw [if_neg e]
      by_cases e2 : j < k
      · rw [if_pos e2, if_pos (by omega)]
      · rw [if_neg e2, if_neg (by omega)]
end M
abbrev vec5 (a b c d e : Nat) : Value := .agg #[.int .i64 (a : Nat), .int .i64 (b : Nat), .int .i64 (c : Nat), .int .i64 (d : Nat), .int .i64 (e : Nat)]
theorem results_cell5 {fn : Func} {t : Tmp} (h : fn.results = #[.cell t 43]) (tmps : Array Value) (w : World) (B : Nat) (a b c d e : Nat) (hp : tmps.getD t undef = .pointer (some ⟨B, 0, none⟩)) (h0 : w.cell? ⟨B, 0, none⟩ = some (.int .i64 (a : Nat))) (h1 : w.cell? ⟨B, 1, none⟩ = some (.int .i64 (b : Nat))) (h2 : w.cell? ⟨B, 2, none⟩ = some (.int .i64 (c : Nat))) (h3 : w.cell? ⟨B, 3, none⟩ = some (.int .i64 (d : Nat))) (h4 : w.cell? ⟨B, 4, none⟩ = some (.int .i64 (e : Nat))) :
    (results fn tmps).run Tryd.prog w = .ok (vec5 a b c d e) w := by
  have hp' : tmps[t]?.getD undef = .pointer (some ⟨B, 0, none⟩) := by simpa using hp
  simp [results, h, go_sem, hp', h0, h1, h2, h3, h4]
set_option maxRecDepth 100000 in
set_option maxHeartbeats 2000000 in
theorem joined_ok (x0 x1 x2 x3 x4 y0 y1 y2 y3 y4 : Nat) (w : World) :
    Calls Tryd.prog 18 #[vec5 x0 x1 x2 x3 x4, vec5 y0 y1 y2 y3 y4] w fun e w' => e = .returned (vec5 (Nat.max x0 y0) (Nat.max x1 y1) (Nat.max x2 y2) (Nat.max x3 y3) (Nat.max x4 y4)) ∧ Below w.heap.size w w' := by
  obtain ⟨w1, hw1⟩ : ∃ w1, w.alloc (.cells (arr [x0, x1, x2, x3, x4]) 43) = w1 := ⟨_, rfl⟩
  obtain ⟨w2, hw2⟩ : ∃ w2, w1.alloc (.cells (arr [y0, y1, y2, y3, y4]) 43) = w2 := ⟨_, rfl⟩
  obtain ⟨w3, hw3⟩ : ∃ w3, w2.alloc (.cells (arr [0, 0, 0, 0, 0]) 43) = w3 := ⟨_, rfl⟩
  have s1 : w1.heap.size = w.heap.size + 1 := by subst hw1; simp
  have s2 : w2.heap.size = w.heap.size + 1 + 1 := by subst hw2; simp [s1]
  have s3 : w3.heap.size = w.heap.size + 1 + 1 + 1 := by subst hw3; simp [s2]
  have r1 : RowAt 43 w1 w.heap.size [x0, x1, x2, x3, x4] := by subst hw1; unfold RowAt; rw [World.alloc_heap_new]
  have r2 : RowAt 43 w2 (w.heap.size + 1) [y0, y1, y2, y3, y4] := by subst hw2; unfold RowAt; rw [← s1, World.alloc_heap_new]
  have r3 : RowAt 43 w3 (w.heap.size + 1 + 1) [0, 0, 0, 0, 0] := by subst hw3; unfold RowAt; rw [← s2, World.alloc_heap_new]
  have q1 : RowAt 43 w3 w.heap.size [x0, x1, x2, x3, x4] := by rw [← hw3, ← hw2]; exact (r1.alloc _).alloc _
  have q2 : RowAt 43 w3 (w.heap.size + 1) [y0, y1, y2, y3, y4] := by rw [← hw3]; exact r2.alloc _
  have hB3 : Below w.heap.size w w3 := by rw [← hw3, ← hw2, ← hw1]; exact bel_al (bel_al (bel_al (Below.refl _ _) _) _) _
  rw [← M.mxl_zero (Y := [y0, y1, y2, y3, y4]) (show [x0, x1, x2, x3, x4].length = 5 from rfl)] at q1
  have hw1' : w.alloc (.cells #[.int .i64 (x0 : Nat), .int .i64 (x1 : Nat), .int .i64 (x2 : Nat), .int .i64 (x3 : Nat), .int .i64 (x4 : Nat)] 43) = w1 := hw1
  have hw2' : w1.alloc (.cells #[.int .i64 (y0 : Nat), .int .i64 (y1 : Nat), .int .i64 (y2 : Nat), .int .i64 (y3 : Nat), .int .i64 (y4 : Nat)] 43) = w2 := hw2
  have hw3' : w2.alloc (.cells #[.int .i64 0, .int .i64 0, .int .i64 0, .int .i64 0, .int .i64 0] 43) = w3 := hw3
  clear hw1 hw2 hw3 r1 r2
  go_enter Tryd.func18, Tryd.ntmps18
  go_wp2_with fail
  go_loopw [6] (fun v wr => ∃ k : Nat, v = .int .i64 k ∧ k ≤ 5 ∧ RowAt 43 wr w.heap.size (M.mxl [x0, x1, x2, x3, x4] [y0, y1, y2, y3, y4] k) ∧ RowAt 43 wr (w.heap.size + 1) [y0, y1, y2, y3, y4] ∧ RowAt 43 wr (w.heap.size + 1 + 1) [0, 0, 0, 0, 0] ∧ Below w.heap.size w wr) (fun v _ => 5 - (intOf v).toNat)
  case atStart => exact ⟨0, rfl, by omega, q1, q2, r3, hB3⟩
  case round =>
    clear hw1' hw2' hw3' q1 q2 r3 hB3
    obtain ⟨k, rfl, hk, hX, hY, hZ, hB⟩ := hrel
    by_cases hlt : k < 5
    · have hc1 := hX.cell (k := k) (by rw [M.mxl_length]; exact hlt)
      have hc2 := hY.cell (k := k) hlt
      have hf := hX.frozen k
      rw [M.mxl_row _ _ _ hlt, if_neg (by omega)] at hc1
      have HS := @M.mxl_set [x0, x1, x2, x3, x4] [y0, y1, y2, y3, y4] k _ rfl
      obtain ⟨a, ha⟩ : ∃ z, M.row [x0, x1, x2, x3, x4] k = z := ⟨_, rfl⟩
      obtain ⟨b, hb⟩ : ∃ z, M.row [y0, y1, y2, y3, y4] k = z := ⟨_, rfl⟩
      rw [ha] at hc1 HS
      rw [hb] at hc2 HS
      obtain ⟨m, hm⟩ : ∃ m, Nat.max a b = m := ⟨_, rfl⟩
      have hmi : (if a < b then (b : Int) else (a : Int)) = (m : Int) := by subst hm; show _ = ((max a b : Nat) : Int); split <;> omega
      rw [hm] at HS
      have hX2 := (hX.set k m).drew
      rw [HS] at hX2
      have hY2 := (hY.other (a := ⟨w.heap.size, k, none⟩) (show w.heap.size + 1 ≠ w.heap.size by omega) (.int .i64 (m : Nat))).drew
      have hZ2 := (hZ.other (a := ⟨w.heap.size, k, none⟩) (show w.heap.size + 1 + 1 ≠ w.heap.size by omega) (.int .i64 (m : Nat))).drew
      have hB2 : Below w.heap.size w (wr.setCell ⟨w.heap.size, k, none⟩ (.int .i64 (m : Nat))).drew := (hB.setCell (p := ⟨w.heap.size, k, none⟩) (Nat.le_refl _) _).drew
      have H1 : Hid (RowAt _ _ _ _) := hX2
      have H2 : Hid (RowAt _ _ _ _) := hY2
      have H3 : Hid (RowAt _ _ _ _) := hZ2
      clear ha hb hm HS hX2 hY2 hZ2 hX hY hZ
      have hki : (k : Int) < 5 := by omega
      go_wp2_with fail
      go_still_tail 9, (by kernel_rfl)
      go_wp2_with fail
      go_roundw
      case rel => exact ⟨k + 1, by go_num, by omega, H1.out, H2.out, H3.out, hB2⟩
      case measure => simp [intOf]; omega
    · obtain rfl : k = 5 := by omega
      have c0 := hX.cell (k := 0) (by rw [M.mxl_length]; omega)
      have c1 := hX.cell (k := 1) (by rw [M.mxl_length]; omega)
      have c2 := hX.cell (k := 2) (by rw [M.mxl_length]; omega)
      have c3 := hX.cell (k := 3) (by rw [M.mxl_length]; omega)
      have c4 := hX.cell (k := 4) (by rw [M.mxl_length]; omega)
      have z0 := hZ.cell (k := 0) (by simp)
      have z1 := hZ.cell (k := 1) (by simp)
      have z2 := hZ.cell (k := 2) (by simp)
      have z3 := hZ.cell (k := 3) (by simp)
      have z4 := hZ.cell (k := 4) (by simp)
      have f0 := hZ.frozen 0
      have f1 := hZ.frozen 1
      have f2 := hZ.frozen 2
      have f3 := hZ.frozen 3
      have f4 := hZ.frozen 4
      rw [M.mxl_row _ _ _ (by omega), if_pos (by omega)] at c0 c1 c2 c3 c4
      change wr.cell? _ = some (.int .i64 (Nat.max x0 y0 : Nat)) at c0
      change wr.cell? _ = some (.int .i64 (Nat.max x1 y1 : Nat)) at c1
      change wr.cell? _ = some (.int .i64 (Nat.max x2 y2 : Nat)) at c2
      change wr.cell? _ = some (.int .i64 (Nat.max x3 y3 : Nat)) at c3
      change wr.cell? _ = some (.int .i64 (Nat.max x4 y4 : Nat)) at c4
      obtain ⟨m0, e0⟩ : ∃ m, Nat.max x0 y0 = m := ⟨_, rfl⟩
      rw [e0] at c0
      have E0 : Hid (Nat.max x0 y0 = m0) := e0
      clear e0
      obtain ⟨m1, e1⟩ : ∃ m, Nat.max x1 y1 = m := ⟨_, rfl⟩
      rw [e1] at c1
      have E1 : Hid (Nat.max x1 y1 = m1) := e1
      clear e1
      obtain ⟨m2, e2⟩ : ∃ m, Nat.max x2 y2 = m := ⟨_, rfl⟩
      rw [e2] at c2
      have E2 : Hid (Nat.max x2 y2 = m2) := e2
      clear e2
      obtain ⟨m3, e3⟩ : ∃ m, Nat.max x3 y3 = m := ⟨_, rfl⟩
      rw [e3] at c3
      have E3 : Hid (Nat.max x3 y3 = m3) := e3
      clear e3
      obtain ⟨m4, e4⟩ : ∃ m, Nat.max x4 y4 = m := ⟨_, rfl⟩
      rw [e4] at c4
      have E4 : Hid (Nat.max x4 y4 = m4) := e4
      clear e4
      have hR := ((((hZ.set 0 m0).set 1 m1).set 2 m2).set 3 m3).set 4 m4
      have hB2 : Below w.heap.size w (((((wr.setCell ⟨w.heap.size + 1 + 1, 0, none⟩ (.int .i64 (m0 : Nat))).setCell ⟨w.heap.size + 1 + 1, 1, none⟩ (.int .i64 (m1 : Nat))).setCell ⟨w.heap.size + 1 + 1, 2, none⟩ (.int .i64 (m2 : Nat))).setCell ⟨w.heap.size + 1 + 1, 3, none⟩ (.int .i64 (m3 : Nat))).setCell ⟨w.heap.size + 1 + 1, 4, none⟩ (.int .i64 (m4 : Nat))) :=
        ((((hB.setCell (p := ⟨w.heap.size + 1 + 1, 0, none⟩) (show w.heap.size ≤ w.heap.size + 1 + 1 by omega) _).setCell (p := ⟨w.heap.size + 1 + 1, 1, none⟩) (show w.heap.size ≤ w.heap.size + 1 + 1 by omega) _).setCell (p := ⟨w.heap.size + 1 + 1, 2, none⟩) (show w.heap.size ≤ w.heap.size + 1 + 1 by omega) _).setCell (p := ⟨w.heap.size + 1 + 1, 3, none⟩) (show w.heap.size ≤ w.heap.size + 1 + 1 by omega) _).setCell (p := ⟨w.heap.size + 1 + 1, 4, none⟩) (show w.heap.size ≤ w.heap.size + 1 + 1 by omega) _
      have HR : Hid (RowAt _ _ _ _) := hR
      have HB : Hid (Below _ _ _) := hB2
      clear hR hB2 hX hY hZ
      go_wp2_with fail
      refine bodyPost_ret (v := vec5 m0 m1 m2 m3 m4) (results_cell5 rfl _ _ (w.heap.size + 1 + 1) m0 m1 m2 m3 m4 rfl (HR.out.cell (k := 0) (by simp)) (HR.out.cell (k := 1) (by simp)) (HR.out.cell (k := 2) (by simp)) (HR.out.cell (k := 3) (by simp)) (HR.out.cell (k := 4) (by simp))) rfl ⟨by rw [E0.out, E1.out, E2.out, E3.out, E4.out], HB.out⟩
end Go.Proofs.YtelonimdpeenaaaDoor
