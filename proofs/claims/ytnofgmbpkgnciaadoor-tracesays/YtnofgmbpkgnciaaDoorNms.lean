/- The names of a trace's events (package trace, namesOf): each event's process, and which of it the event is; and the name of the event of which one heard (heardOf); what lay in memory lies as it lay. -/
import Derived.Test.YtnofgmbpkgnciaaDoorTbf
namespace Go.Proofs.YtnofgmbpkgnciaaDoor
open Go.RowKit
namespace M
/-- how many of the first i events were at process p -/
def tol (T : List (Int × Int)) (p : Int) (i : Nat) : Nat := cb i fun j => pr T j == p
theorem tol_le (T : List (Int × Int)) (p : Int) (i : Nat) : tol T p i ≤ i := cb_le _ _
theorem tol_next (T : List (Int × Int)) (p : Int) (i : Nat) : tol T p (i + 1) = tol T p i + (if pr T i = p then 1 else 0) := by
  unfold tol
  by_cases h : pr T i = p
  · rw [cb_at (b := true) (by simp [h]), if_pos h]; rfl
  · rw [cb_at (b := false) (by simp [h]), if_neg h]; rfl
theorem nth_tol (T : List (Int × Int)) (i : Nat) : nth T i = tol T (pr T i) i := rfl
def tols (T : List (Int × Int)) (i : Nat) : List Nat := [tol T 0 i, tol T 1 i, tol T 2 i, tol T 3 i, tol T 4 i]
theorem tols_row (T : List (Int × Int)) (i : Nat) {a : Nat} (h : a < 5) : row (tols T i) a = tol T (a : Int) i := by
  unfold row tols
  rcases a with _ | _ | _ | _ | _ | a
  · rfl
  · rfl
  · rfl
  · rfl
  · rfl
  · omega
theorem tols_set (T : List (Int × Int)) (i : Nat) {a v : Nat} (h : a < 5) (ha : pr T i = (a : Nat)) (hv : v = tol T (a : Int) i + 1) : (tols T i).set a v = tols T (i + 1) := by
  unfold tols
  simp only [tol_next]
  rw [ha, hv]
  rcases a with _ | _ | _ | _ | _ | a
  · simp
  · simp
  · simp
  · simp
  · simp
  · omega
/-- the names of the first i events, cell by cell, then noughts -/
def nmF (T : List (Int × Int)) (i x : Nat) : Nat := if x / 2 < i then (if x % 2 = 0 then (pr T (x / 2)).toNat else nth T (x / 2)) else 0
def nml (T : List (Int × Int)) (n i : Nat) : List Nat := (List.range (n * 2)).map (nmF T i)
theorem nml_length (T : List (Int × Int)) (n i : Nat) : (nml T n i).length = n * 2 := by simp [nml]
theorem nml_row (T : List (Int × Int)) {n i x : Nat} (h : x < n * 2) : row (nml T n i) x = nmF T i x := by
  unfold row nml
  simp [h]
theorem nml_row0 (T : List (Int × Int)) {n i k : Nat} (h : k < i) (hk : k < n) : row (nml T n i) (k * 2) = (pr T k).toNat := by
  rw [nml_row T (by omega)]
  unfold nmF
  rw [if_pos (by omega), if_pos (by omega), show k * 2 / 2 = k by omega]
theorem nml_row1 (T : List (Int × Int)) {n i k : Nat} (h : k < i) (hk : k < n) : row (nml T n i) (k * 2 + 1) = nth T k := by
  rw [nml_row T (by omega)]
  unfold nmF
  rw [if_pos (by omega), if_neg (by omega), show (k * 2 + 1) / 2 = k by omega]
theorem nml_zero (T : List (Int × Int)) (n : Nat) : nml T n 0 = List.replicate (n * 2) 0 := by
  apply List.ext_getElem
  · simp [nml]
  · intro x h1 h2
    simp [nml, nmF]
theorem nml_set (T : List (Int × Int)) {n i a c : Nat} (ha : pr T i = (a : Nat)) (hc : c = nth T i) : ((nml T n i).set (i * 2) a).set (i * 2 + 1) c = nml T n (i + 1) := by
  apply List.ext_getElem
  · simp [nml]
  · intro x h1 h2
    have hx : x < n * 2 := by simpa [nml] using h2
    rw [List.getElem_set, List.getElem_set]
    simp only [nml, List.getElem_map, List.getElem_range]
    unfold nmF
    by_cases e1 : i * 2 + 1 = x
    · rw [if_pos e1, if_pos (by omega), if_neg (by omega), hc, show x / 2 = i by omega]
    · rw [if_neg e1]
      by_cases e2 : i * 2 = x
      · rw [if_pos e2, if_pos (by omega), if_pos (by omega), show x / 2 = i by omega, ha, Int.toNat_natCast]
      · rw [if_neg e2]
        by_cases e3 : x / 2 < i
        · rw [if_pos e3]
          exact (if_pos (show x / 2 < i + 1 by omega)).symm
        · rw [if_neg e3]
          exact (if_neg (show ¬ x / 2 < i + 1 by omega)).symm
end M
theorem infoName : (Tryd.prog.info? 71).map (fun i => (i.zero, i.size, i.bytes)) = some (some (.agg #[.int .i64 0, .int .i64 0]), 2, 16) := by kernel_rfl
theorem made_names (n : Nat) : madeCells #[.int .i64 0, .int .i64 0] n = arr (List.replicate n 0) := by
  apply Array.ext_getElem?
  intro k
  by_cases h : k < n
  · rw [arr_get _ _ (by simp [h])]
    have h2 : k % 2 = 0 ∨ k % 2 = 1 := by omega
    rcases h2 with h2 | h2 <;> simp [madeCells, h, M.row, h2]
  · rw [Array.getElem?_eq_none (by simp [madeCells]; omega), Array.getElem?_eq_none (by rw [arr_size]; simp; omega)]
theorem make_names (n : Nat) (hn : n ≤ 24) (w : World) : (Instr.makeSlice 67 (.int .i64 (n : Int)) (.int .i64 (n : Int))).run Tryd.prog w = .ok (.slice (some ⟨w.heap.size, 0, none⟩) n n) (w.alloc (.cells (madeCells #[.int .i64 0, .int .i64 0] (n * 2)) 71)) := by
  obtain ⟨i, hi, hzz⟩ := Option.map_eq_some_iff.1 infoName
  simp only [Prod.mk.injEq] at hzz
  obtain ⟨hz, hs, hb⟩ := hzz
  have := run_make (P := Tryd.prog) w 67 71 i _ Tryd.underlying67 hi hz .i64 .i64 n n (by omega) (Int.le_refl _) (by rw [hb]; omega) (by omega)
  rw [hs] at this
  simp only [Int.toNat_natCast] at this
  exact this
set_option maxRecDepth 100000 in
set_option maxHeartbeats 4000000 in
theorem names_ok (P : Int) (T : List (Int × Int)) (p : Option Addr) (n cap : Nat) (w : World) (hl : T.length = n) (hc : HasE T p w) (hok : M.TOk P T) :
    Calls Tryd.prog 40 #[trV P p n cap] w fun e w' => ∃ A, e = .returned (.slice (some ⟨A, 0, none⟩) n n) ∧ RowAt 71 w' A (M.nml T n n) ∧ w.heap.size ≤ A ∧ Below w.heap.size w w' := by
  have hn : n ≤ 24 := hl ▸ hok.len
  have hB0 : Below w.heap.size w (w.alloc (.cells #[.int .i64 P, .slice p n cap] 24)) := (Below.refl _ _).alloc (Nat.le_refl _) _
  have hmk0 := make_names n hn
  have hbox := tbox_new w P p n cap
  have hc1 := hc.later hB0
  obtain ⟨w1, hw1⟩ : ∃ w1, w.alloc (.cells #[.int .i64 P, .slice p n cap] 24) = w1 := ⟨_, rfl⟩
  rw [hw1] at hB0 hbox hc1
  have hk1 := hbox.procs
  have hk2 := hbox.events
  have hbl := hbox.lt
  clear hc
  have hrA : RowAt 71 (w1.alloc (.cells (madeCells #[.int .i64 0, .int .i64 0] (n * 2)) 71)) w1.heap.size (M.nml T n 0) := by
    unfold RowAt
    rw [World.alloc_heap_new, made_names, M.nml_zero]
  have hrK : RowAt 56 ((w1.alloc (.cells (madeCells #[.int .i64 0, .int .i64 0] (n * 2)) 71)).alloc (.cells #[.int .i64 0, .int .i64 0, .int .i64 0, .int .i64 0, .int .i64 0] 56)) (w1.heap.size + 1) (M.tols T 0) := by
    unfold RowAt
    have e : (w1.alloc (.cells (madeCells #[.int .i64 0, .int .i64 0] (n * 2)) 71)).heap.size = w1.heap.size + 1 := by simp
    rw [← e, World.alloc_heap_new]
    rfl
  have hrA2 := hrA.alloc (.cells #[.int .i64 0, .int .i64 0, .int .i64 0, .int .i64 0, .int .i64 0] 56)
  have hB2 : Below w1.heap.size w1 ((w1.alloc (.cells (madeCells #[.int .i64 0, .int .i64 0] (n * 2)) 71)).alloc (.cells #[.int .i64 0, .int .i64 0, .int .i64 0, .int .i64 0, .int .i64 0] 56)) := bel_al (bel_al (Below.refl _ _) _) _
  clear hrA
  go_enter Tryd.func40, Tryd.ntmps40
  go_wp2_with fail
  go_loopw [14] (fun v wr => ∃ i : Nat, v = .int .i64 i ∧ i ≤ n ∧ RowAt 71 wr w1.heap.size (M.nml T n i) ∧ RowAt 56 wr (w1.heap.size + 1) (M.tols T i) ∧ Below w1.heap.size w1 wr) (fun v _ => n - (intOf v).toNat)
  case atStart => exact ⟨0, rfl, Nat.zero_le _, hrA2, hrK, hB2⟩
  case round =>
    clear hk1 hk2 hrA2 hrK hB2 hmk0 hw1
    obtain ⟨i, rfl, hi, hA, hK, hB⟩ := hrel
    have hbr := hbox.later hB hbl
    have hAl := hA.lt
    have hKl := hK.lt
    by_cases hlt : i < n
    · obtain ⟨b, off, rfl, hb, hp1, hp2⟩ := (hc1.later hB) i (by omega)
      have hT : i < T.length := by omega
      have ha0 := hok.pr0 i hT
      have haP := hok.prP i hT
      have hP5 := hok.p5
      obtain ⟨a, ha⟩ : ∃ a : Nat, M.pr T i = a := ⟨(M.pr T i).toNat, by omega⟩
      have ha5 : a < 5 := by omega
      rw [ha] at hp1
      have HA : Hid (M.pr T i = (a : Nat)) := ha
      obtain ⟨f, hf⟩ : ∃ f, M.fm T i = f := ⟨_, rfl⟩
      rw [hf] at hp2
      have hE0 := ev_cell0 (w := wr) rfl (a : Nat) f
      have hAa := hA.alloc (.cells #[.int .i64 (a : Nat), .int .i64 f] 50)
      have hKa := hK.alloc (.cells #[.int .i64 (a : Nat), .int .i64 f] 50)
      have hBa := bel_al hB (.cells #[.int .i64 (a : Nat), .int .i64 f] 50)
      obtain ⟨wa, hwa⟩ : ∃ wa, wr.alloc (.cells #[.int .i64 (a : Nat), .int .i64 f] 50) = wa := ⟨_, rfl⟩
      rw [hwa] at hE0 hAa hKa hBa
      have hcK := hKa.cell (k := a) ha5
      rw [M.tols_row T i ha5] at hcK
      obtain ⟨q, hq⟩ : ∃ q, M.tol T (a : Int) i = q := ⟨_, rfl⟩
      have hqb : q ≤ i := by have := M.tol_le T (a : Int) i; omega
      rw [hq] at hcK
      have HQ : Hid (M.tol T (a : Int) i = q) := hq
      have hfA := hAa.frozen (i * 2)
      have hfA1 := hAa.frozen (i * 2 + 1)
      have hfK := hKa.frozen a
      have hai : (a : Int) < 5 := by omega
      clear ha hq ha0 haP hf
      have hAc : wa.cell? ⟨w1.heap.size, i * 2, none⟩ = some (.int .i64 (M.row (M.nml T n i) (i * 2) : Nat)) := hAa.cell (k := i * 2) (by rw [M.nml_length]; omega)
      have hAd : wa.cell? ⟨w1.heap.size, i * 2 + 1, none⟩ = some (.int .i64 (M.row (M.nml T n i) (i * 2 + 1) : Nat)) := hAa.cell (k := i * 2 + 1) (by rw [M.nml_length]; omega)
      obtain ⟨z0, hz0⟩ : ∃ z, M.row (M.nml T n i) (i * 2) = z := ⟨_, rfl⟩
      obtain ⟨z1, hz1⟩ : ∃ z, M.row (M.nml T n i) (i * 2 + 1) = z := ⟨_, rfl⟩
      rw [hz0] at hAc
      rw [hz1] at hAd
      clear hz0 hz1
      have hA3 := (hAa.set (i * 2) a).set (i * 2 + 1) q
      rw [M.nml_set T HA.out (by rw [M.nth_tol, HA.out]; exact HQ.out.symm)] at hA3
      have hA4 := (hA3.other (a := ⟨w1.heap.size + 1, a, none⟩) (show w1.heap.size ≠ w1.heap.size + 1 by omega) (.int .i64 ((q : Int) + 1))).drew
      have hK3 := (hKa.other (a := ⟨w1.heap.size, i * 2, none⟩) (show w1.heap.size + 1 ≠ w1.heap.size by omega) (.int .i64 (a : Nat))).other (a := ⟨w1.heap.size, i * 2 + 1, none⟩) (show w1.heap.size + 1 ≠ w1.heap.size by omega) (.int .i64 (q : Nat))
      have hK4 := (hK3.set a (q + 1)).drew
      rw [M.tols_set T i ha5 HA.out (by rw [HQ.out]), show (((q + 1 : Nat)) : Int) = (q : Int) + 1 by omega] at hK4
      have hB4 := (((hBa.setCell (p := ⟨w1.heap.size, i * 2, none⟩) (Nat.le_refl _) (.int .i64 (a : Nat))).setCell (p := ⟨w1.heap.size, i * 2 + 1, none⟩) (Nat.le_refl _) (.int .i64 (q : Nat))).setCell (p := ⟨w1.heap.size + 1, a, none⟩) (Nat.le_succ _) (.int .i64 ((q : Int) + 1))).drew
      have H1 : Hid (RowAt _ _ _ _) := hA4
      have H2 : Hid (RowAt _ _ _ _) := hK4
      have H3 : Hid (Below _ _ _) := hB4
      clear hA3 hK3 hA4 hK4 hB4
      go_wp2_with fail
      go_still_tail 9, (by kernel_rfl)
      go_wp2_with fail
      go_roundw
      case rel => exact ⟨i + 1, by go_num, by omega, H1.out, H2.out, H3.out⟩
      case measure => simp [intOf]; omega
    · obtain rfl : i = n := by omega
      go_wp2_with fail
      go_ret
      exact ⟨w1.heap.size, rfl, hA, hB0.size, bel_on hB0 hB⟩
/-- The name of the event of which one heard, as a value. -/
def hnm (T : List (Int × Int)) (f : Int) : Int × Int := if f < 0 then (-1, -1) else (M.pr T f.toNat, M.nth T f.toNat)
def nmV (x : Int × Int) : Value := .agg #[.int .i64 x.1, .int .i64 x.2]
set_option maxHeartbeats 1000000 in
theorem heardOf_ok (T : List (Int × Int)) (n A : Nat) (a f : Int) (w : World) (hA : RowAt 71 w A (M.nml T n n)) (hf : f < n) (hf0 : -1 ≤ f) (hp : 0 ≤ f → 0 ≤ M.pr T f.toNat) :
    Calls Tryd.prog 41 #[.agg #[.int .i64 a, .int .i64 f], .slice (some ⟨A, 0, none⟩) n n] w fun e w' => e = .returned (nmV (hnm T f)) ∧ Below w.heap.size w w' := by
  by_cases h : f = -1
  · subst h
    go_enter Tryd.func41, Tryd.ntmps41
    go_wp2_with (go_at_call 26; refine (heard_no _ _ _ rfl).mono ?_; rintro e w' ⟨rfl, rfl⟩)
    refine bodyPost_ret (v := .agg #[.int .i64 (-1), .int .i64 (-1)]) (by simp [results, Tryd.results41, go_sem]) rfl ⟨rfl, ?_⟩
    repeat first | exact Below.refl _ _ | apply bel_al
  · obtain ⟨j, rfl⟩ : ∃ j : Nat, f = j := ⟨f.toNat, by omega⟩
    have hjn : j < n := by omega
    have h0 := hp (by omega)
    rw [Int.toNat_natCast] at h0
    have hc0 := hA.cell (k := j * 2) (by rw [M.nml_length]; omega)
    have hc1 := hA.cell (k := j * 2 + 1) (by rw [M.nml_length]; omega)
    rw [M.nml_row0 T hjn hjn] at hc0
    rw [M.nml_row1 T hjn hjn] at hc1
    have e2 : (((j : Nat) : Int) != -1) = true := by simp
    have e3 : nmV (hnm T (j : Nat)) = .agg #[.int .i64 ((M.pr T j).toNat : Nat), .int .i64 (M.nth T j : Nat)] := by
      unfold hnm nmV
      rw [if_neg (by omega), Int.toNat_natCast, Int.toNat_of_nonneg h0]
    rw [e3]
    have hAl := hA.lt
    obtain ⟨x, hx⟩ : ∃ x, (M.pr T j).toNat = x := ⟨_, rfl⟩
    obtain ⟨y, hy⟩ : ∃ y, M.nth T j = y := ⟨_, rfl⟩
    rw [hx] at hc0
    rw [hy] at hc1
    rw [hx, hy]
    clear hx hy e3 h hp hf0 h0
    have hB3 : Below w.heap.size w (((w.alloc (.cells #[.int .i64 a, .int .i64 (j : Nat)] 50)).alloc (.cells #[.int .i64 0, .int .i64 0] 71)).alloc (.cells #[.int .i64 a, .int .i64 (j : Nat)] 50)) := bel_al (bel_al (bel_al (Below.refl _ _) _) _) _
    have q0 := (hB3.cell (p := ⟨A, j * 2, none⟩) hAl).trans hc0
    have q1 := (hB3.cell (p := ⟨A, j * 2 + 1, none⟩) hAl).trans hc1
    go_enter Tryd.func41, Tryd.ntmps41
    go_wp2_with (go_at_call 26; refine (heard_yes _ _ _ e2).mono ?_; rintro e w' ⟨rfl, rfl⟩)
    refine bodyPost_ret (v := .agg #[.int .i64 (x : Nat), .int .i64 (y : Nat)]) (by simp [results, Tryd.results41, go_sem]) rfl ⟨rfl, ?_⟩
    repeat first | exact Below.refl _ _ | apply bel_al
end Go.Proofs.YtnofgmbpkgnciaaDoor
