/- Whether a stamp is less (package hybrid, Less), the one behind the latest (next), and what is known ahead of all events (nothingKnown); what lay in memory lies as it lay. -/
import Derived.Test.YtlhpkpjcfjdgaaaDoorRwz
namespace Go.Proofs.YtlhpkpjcfjdgaaaDoor
open Go.RowKit

set_option maxHeartbeats 400000 in
theorem less_ok (a c b d : Int) (r : Bool) (w : World) (hr : M.lsB a c b d = r) :
    Calls Tryd.prog 37 #[stV a c, stV b d] w fun e w' => e = .returned (.bool r) ∧ Below w.heap.size w w' := by
  have hB : Below w.heap.size w ((w.alloc (.cells #[.int .i64 a, .int .i64 c] 59)).alloc (.cells #[.int .i64 b, .int .i64 d] 59)) := bel_al (bel_al (Below.refl _ _) _) _
  unfold M.lsB at hr
  by_cases h : a = b
  · subst h
    rw [if_pos rfl] at hr
    go_enter Tryd.func37, Tryd.ntmps37
    go_wp2
    go_ret
    exact ⟨rfl, hB⟩
  · rw [if_neg h] at hr
    go_enter Tryd.func37, Tryd.ntmps37
    go_wp2
    go_ret
    exact ⟨rfl, hB⟩
theorem results_cell2 {fn : Func} {t : Tmp} (h : fn.results = #[.cell t 59]) (tmps : Array Value) (w : World) (B : Nat) (a b : Int) (hp : tmps.getD t undef = .pointer (some ⟨B, 0, none⟩)) (h0 : w.cell? ⟨B, 0, none⟩ = some (.int .i64 a)) (h1 : w.cell? ⟨B, 1, none⟩ = some (.int .i64 b)) :
    (results fn tmps).run Tryd.prog w = .ok (stV a b) w := by
  have hp' : tmps[t]?.getD undef = .pointer (some ⟨B, 0, none⟩) := by simpa using hp
  simp [results, h, go_sem, hp', h0, h1]
set_option maxHeartbeats 1000000 in
theorem next_ok (x c z : Int) (w : World) (hc0 : 0 ≤ c) (hc : c ≤ 1000) :
    Calls Tryd.prog 68 #[stV x c, .int .i64 z] w fun e w' => e = .returned (stV (M.nxT x z) (M.nxC x c z)) ∧ Below w.heap.size w w' := by
  have hB : Below w.heap.size w ((w.alloc (.cells #[.int .i64 x, .int .i64 c] 59)).alloc (.cells #[.int .i64 0, .int .i64 0] 59)) := bel_al (bel_al (Below.refl _ _) _) _
  unfold M.nxT M.nxC
  by_cases h : x < z
  · rw [if_pos h, if_pos h]
    go_enter Tryd.func68, Tryd.ntmps68
    go_wp2
    refine bodyPost_ret (v := stV z 0) (by simp [results, Tryd.results68, go_sem]) rfl ⟨rfl, ?_⟩
    repeat first | exact Below.refl _ _ | exact hB | apply bel_al
  · rw [if_neg h, if_neg h]
    go_enter Tryd.func68, Tryd.ntmps68
    go_wp2
    refine bodyPost_ret (v := stV x (c + 1)) (by simp [results, Tryd.results68, go_sem]) rfl ⟨rfl, ?_⟩
    repeat first | exact Below.refl _ _ | exact hB | apply bel_al
/-- The first k processes know nothing. -/
def nk (k : Nat) : List Int := (List.range 10).map fun x => if x % 2 = 0 ∧ x / 2 < k then -1 else 0
theorem nk_set {k : Nat} (hk : k < 5) : (nk k).set (k * 2) (-1) = nk (k + 1) := by
  rcases k with _ | _ | _ | _ | _ | k
  · decide
  · decide
  · decide
  · decide
  · decide
  · omega
abbrev noneV : Value := .agg #[.int .i64 (-1), .int .i64 0, .int .i64 (-1), .int .i64 0, .int .i64 (-1), .int .i64 0, .int .i64 (-1), .int .i64 0, .int .i64 (-1), .int .i64 0]
theorem results_cell10 {fn : Func} {t : Tmp} (h : fn.results = #[.cell t 91]) (tmps : Array Value) (w : World) (B : Nat) (hp : tmps.getD t undef = .pointer (some ⟨B, 0, none⟩)) (hr : RowZ 91 w B (nk 5)) :
    (results fn tmps).run Tryd.prog w = .ok noneV w := by
  have hp' : tmps[t]?.getD undef = .pointer (some ⟨B, 0, none⟩) := by simpa using hp
  have h0 : w.cell? ⟨B, 0, none⟩ = some (.int .i64 (-1)) := hr.cell (k := 0) (by decide)
  have h1 : w.cell? ⟨B, 1, none⟩ = some (.int .i64 (0)) := hr.cell (k := 1) (by decide)
  have h2 : w.cell? ⟨B, 2, none⟩ = some (.int .i64 (-1)) := hr.cell (k := 2) (by decide)
  have h3 : w.cell? ⟨B, 3, none⟩ = some (.int .i64 (0)) := hr.cell (k := 3) (by decide)
  have h4 : w.cell? ⟨B, 4, none⟩ = some (.int .i64 (-1)) := hr.cell (k := 4) (by decide)
  have h5 : w.cell? ⟨B, 5, none⟩ = some (.int .i64 (0)) := hr.cell (k := 5) (by decide)
  have h6 : w.cell? ⟨B, 6, none⟩ = some (.int .i64 (-1)) := hr.cell (k := 6) (by decide)
  have h7 : w.cell? ⟨B, 7, none⟩ = some (.int .i64 (0)) := hr.cell (k := 7) (by decide)
  have h8 : w.cell? ⟨B, 8, none⟩ = some (.int .i64 (-1)) := hr.cell (k := 8) (by decide)
  have h9 : w.cell? ⟨B, 9, none⟩ = some (.int .i64 (0)) := hr.cell (k := 9) (by decide)
  simp [results, h, go_sem, hp', h0, h1, h2, h3, h4, h5, h6, h7, h8, h9]
set_option maxRecDepth 100000 in
set_option maxHeartbeats 2000000 in
theorem nothing_ok (w : World) :
    Calls Tryd.prog 67 #[] w fun e w' => e = .returned noneV ∧ Below w.heap.size w w' := by
  obtain ⟨w1, hw1⟩ : ∃ w1, w.alloc (.cells (arrZ (nk 0)) 91) = w1 := ⟨_, rfl⟩
  obtain ⟨w2, hw2⟩ : ∃ w2, w1.alloc (.cells (arrZ (nk 0)) 91) = w2 := ⟨_, rfl⟩
  have s1 : w1.heap.size = w.heap.size + 1 := by subst hw1; simp
  have r1 : RowZ 91 w1 w.heap.size (nk 0) := by subst hw1; unfold RowZ; rw [World.alloc_heap_new]
  have r2 : RowZ 91 w2 (w.heap.size + 1) (nk 0) := by subst hw2; unfold RowZ; rw [← s1, World.alloc_heap_new]
  have q1 : RowZ 91 w2 w.heap.size (nk 0) := hw2 ▸ r1.alloc _
  have hB2 : Below w.heap.size w w2 := by rw [← hw2, ← hw1]; exact bel_al (bel_al (Below.refl _ _) _) _
  have hw1' : w.alloc (.cells #[.int .i64 0, .int .i64 0, .int .i64 0, .int .i64 0, .int .i64 0, .int .i64 0, .int .i64 0, .int .i64 0, .int .i64 0, .int .i64 0] 91) = w1 := hw1
  have hw2' : w1.alloc (.cells #[.int .i64 0, .int .i64 0, .int .i64 0, .int .i64 0, .int .i64 0, .int .i64 0, .int .i64 0, .int .i64 0, .int .i64 0, .int .i64 0] 91) = w2 := hw2
  clear hw1 hw2 r1
  go_enter Tryd.func67, Tryd.ntmps67
  go_wp2_with fail
  go_loopw [3] (fun v wr => ∃ k : Nat, v = .int .i64 k ∧ k ≤ 5 ∧ RowZ 91 wr (w.heap.size + 1) (nk k) ∧ RowZ 91 wr w.heap.size (nk 0) ∧ Below w.heap.size w wr) (fun v _ => 5 - (intOf v).toNat)
  case atStart => exact ⟨0, rfl, by omega, r2, q1, hB2⟩
  case round =>
    clear hw1' hw2' q1 r2 hB2 s1
    obtain ⟨k, rfl, hk, hX, hZ, hB⟩ := hrel
    by_cases hlt : k < 5
    · have hc := hX.cell (k := k * 2) (show k * 2 < 10 by omega)
      have hf := hX.frozen (k * 2)
      obtain ⟨z, hz⟩ : ∃ z, M.rowZ (nk k) (k * 2) = z := ⟨_, rfl⟩
      rw [hz] at hc
      clear hz
      have hX2 := hX.set (k * 2) (-1)
      rw [nk_set hlt] at hX2
      have hZ2 := hZ.other (a := ⟨w.heap.size + 1, k * 2, none⟩) (show w.heap.size ≠ w.heap.size + 1 by omega) (.int .i64 (-1))
      have hB2 := hB.setCell (p := ⟨w.heap.size + 1, k * 2, none⟩) (show w.heap.size ≤ w.heap.size + 1 by omega) (.int .i64 (-1))
      have H1 : Hid (RowZ _ _ _ _) := hX2
      have H2 : Hid (RowZ _ _ _ _) := hZ2
      clear hX hZ hX2 hZ2
      have hki : (k : Int) < 5 := by omega
      go_wp2_with fail
      go_roundw
      case rel => exact ⟨k + 1, by go_num, by omega, H1.out, H2.out, hB2⟩
      case measure => simp [intOf]; omega
    · obtain rfl : k = 5 := by omega
      have c0 : wr.cell? ⟨w.heap.size + 1, 0, none⟩ = some (.int .i64 (-1)) := hX.cell (k := 0) (by decide)
      have z0 : wr.cell? ⟨w.heap.size, 0, none⟩ = some (.int .i64 0) := hZ.cell (k := 0) (by decide)
      have f0 := hZ.frozen 0
      have c1 : wr.cell? ⟨w.heap.size + 1, 1, none⟩ = some (.int .i64 0) := hX.cell (k := 1) (by decide)
      have z1 : wr.cell? ⟨w.heap.size, 1, none⟩ = some (.int .i64 0) := hZ.cell (k := 1) (by decide)
      have f1 := hZ.frozen 1
      have c2 : wr.cell? ⟨w.heap.size + 1, 2, none⟩ = some (.int .i64 (-1)) := hX.cell (k := 2) (by decide)
      have z2 : wr.cell? ⟨w.heap.size, 2, none⟩ = some (.int .i64 0) := hZ.cell (k := 2) (by decide)
      have f2 := hZ.frozen 2
      have c3 : wr.cell? ⟨w.heap.size + 1, 3, none⟩ = some (.int .i64 0) := hX.cell (k := 3) (by decide)
      have z3 : wr.cell? ⟨w.heap.size, 3, none⟩ = some (.int .i64 0) := hZ.cell (k := 3) (by decide)
      have f3 := hZ.frozen 3
      have c4 : wr.cell? ⟨w.heap.size + 1, 4, none⟩ = some (.int .i64 (-1)) := hX.cell (k := 4) (by decide)
      have z4 : wr.cell? ⟨w.heap.size, 4, none⟩ = some (.int .i64 0) := hZ.cell (k := 4) (by decide)
      have f4 := hZ.frozen 4
      have c5 : wr.cell? ⟨w.heap.size + 1, 5, none⟩ = some (.int .i64 0) := hX.cell (k := 5) (by decide)
      have z5 : wr.cell? ⟨w.heap.size, 5, none⟩ = some (.int .i64 0) := hZ.cell (k := 5) (by decide)
      have f5 := hZ.frozen 5
      have c6 : wr.cell? ⟨w.heap.size + 1, 6, none⟩ = some (.int .i64 (-1)) := hX.cell (k := 6) (by decide)
      have z6 : wr.cell? ⟨w.heap.size, 6, none⟩ = some (.int .i64 0) := hZ.cell (k := 6) (by decide)
      have f6 := hZ.frozen 6
      have c7 : wr.cell? ⟨w.heap.size + 1, 7, none⟩ = some (.int .i64 0) := hX.cell (k := 7) (by decide)
      have z7 : wr.cell? ⟨w.heap.size, 7, none⟩ = some (.int .i64 0) := hZ.cell (k := 7) (by decide)
      have f7 := hZ.frozen 7
      have c8 : wr.cell? ⟨w.heap.size + 1, 8, none⟩ = some (.int .i64 (-1)) := hX.cell (k := 8) (by decide)
      have z8 : wr.cell? ⟨w.heap.size, 8, none⟩ = some (.int .i64 0) := hZ.cell (k := 8) (by decide)
      have f8 := hZ.frozen 8
      have c9 : wr.cell? ⟨w.heap.size + 1, 9, none⟩ = some (.int .i64 0) := hX.cell (k := 9) (by decide)
      have z9 : wr.cell? ⟨w.heap.size, 9, none⟩ = some (.int .i64 0) := hZ.cell (k := 9) (by decide)
      have f9 := hZ.frozen 9
      have hR := ((((((((((hZ.set 0 (-1)).set 1 0).set 2 (-1)).set 3 0).set 4 (-1)).set 5 0).set 6 (-1)).set 7 0).set 8 (-1)).set 9 0)
      have hB2 := ((((((((((hB.setCell (p := ⟨w.heap.size, 0, none⟩) (Nat.le_refl _) (.int .i64 (-1))).setCell (p := ⟨w.heap.size, 1, none⟩) (Nat.le_refl _) (.int .i64 0)).setCell (p := ⟨w.heap.size, 2, none⟩) (Nat.le_refl _) (.int .i64 (-1))).setCell (p := ⟨w.heap.size, 3, none⟩) (Nat.le_refl _) (.int .i64 0)).setCell (p := ⟨w.heap.size, 4, none⟩) (Nat.le_refl _) (.int .i64 (-1))).setCell (p := ⟨w.heap.size, 5, none⟩) (Nat.le_refl _) (.int .i64 0)).setCell (p := ⟨w.heap.size, 6, none⟩) (Nat.le_refl _) (.int .i64 (-1))).setCell (p := ⟨w.heap.size, 7, none⟩) (Nat.le_refl _) (.int .i64 0)).setCell (p := ⟨w.heap.size, 8, none⟩) (Nat.le_refl _) (.int .i64 (-1))).setCell (p := ⟨w.heap.size, 9, none⟩) (Nat.le_refl _) (.int .i64 0))
      have HR : Hid (RowZ _ _ _ _) := hR
      have HB : Hid (Below _ _ _) := hB2
      clear hR hB2 hX hZ
      go_wp2_with fail
      refine bodyPost_ret (v := noneV) (results_cell10 rfl _ _ w.heap.size rfl HR.out) rfl ⟨rfl, HB.out⟩
end Go.Proofs.YtlhpkpjcfjdgaaaDoor
