/- What happened before each event of a trace (package trace, Before), at whatever numbers; what lay in memory lies as it lay. -/
import Derived.Test.YtlhpkpjcfjdgaaaDoorTck
import Derived.Test.YtlhpkpjcfjdgaaaDoorKno
namespace Go.Proofs.YtlhpkpjcfjdgaaaDoor
open Go.RowKit

theorem infoInt : (Tryd.prog.info? 3).map (fun i => (i.zero, i.size, i.bytes)) = some (some (.int .i64 0), 1, 8) := by kernel_rfl
theorem made_noughts (n : Nat) : madeCells #[.int .i64 0] n = arr (List.replicate n 0) := by
  apply Array.ext_getElem?
  intro k
  by_cases h : k < n
  · rw [arr_get _ _ (by simp [h])]
    simp [madeCells, h, M.row, Nat.mod_one]
  · rw [Array.getElem?_eq_none (by simp [madeCells]; omega), Array.getElem?_eq_none (by rw [arr_size]; simp; omega)]
theorem heard_bel (a f : Int) (t : Bool) (w : World) (h : (f != -1) = t) :
    Calls Tryd.prog 54 #[.agg #[.int .i64 a, .int .i64 f]] w fun e w' => e = .returned (.bool t) ∧ Below w.heap.size w w' := by
  refine (heard_any a f w).mono ?_
  rintro e w' ⟨rfl, rfl⟩
  exact ⟨bool_ret h, (Below.refl _ _).alloc (Nat.le_refl _) _⟩
theorem ev_cell0 {w : World} {N : Nat} (h : w.heap.size = N) (a f : Int) : (w.alloc (.cells #[.int .i64 a, .int .i64 f] 62)).cell? ⟨N, 0, none⟩ = some (.int .i64 a) := by subst h; simp
theorem ev_cell1 {w : World} {N : Nat} (h : w.heap.size = N) (a f : Int) : (w.alloc (.cells #[.int .i64 a, .int .i64 f] 62)).cell? ⟨N, 1, none⟩ = some (.int .i64 f) := by subst h; simp
theorem row_set_same {m : List Nat} {i v : Nat} (h : i < m.length) : M.row (m.set i v) i = v := by rw [M.row_set, if_pos ⟨rfl, h⟩]
theorem row_set_other {m : List Nat} {i j v : Nat} (h : i ≠ j) : M.row (m.set i v) j = M.row m j := by rw [M.row_set, if_neg (fun e => h e.1)]
set_option maxHeartbeats 400000 in
theorem before_err (P : Int) (T : List (Int × Int)) (p : Option Addr) (n cap c : Nat) (w : World) (hl : T.length = n) (hmax : n ≤ maxLen) (hc : HasE T p w) (h0 : M.tcode P T = c) (hne : c ≠ 0) :
    Calls Tryd.prog 22 #[trV P p n cap] w fun e w' => e = .returned (.tuple #[.slice none 0 0, .iface 74 (.int .i64 (c : Nat))]) ∧ Below w.heap.size w w' := by
  have hB0 : Below w.heap.size w (w.alloc (.cells #[.int .i64 P, .slice p n cap] 24)) := (Below.refl _ _).alloc (Nat.le_refl _) _
  have hcb := hc.later hB0
  go_enter Tryd.func22, Tryd.ntmps22
  go_wp2_with fail
  refine (check_tr P T p n cap _ hl hmax hcb).mono ?_
  rw [h0, terr_ne hne]
  rintro e w1 ⟨rfl, hB1⟩
  go_wp2_with fail
  go_ret2
  exact ⟨rfl, bel_on hB0 hB1⟩
set_option maxRecDepth 100000 in
set_option maxHeartbeats 4000000 in
theorem before_ok (P : Int) (T : List (Int × Int)) (p : Option Addr) (n cap : Nat) (w : World) (hl : T.length = n) (hmax : n ≤ maxLen) (hc : HasE T p w) (h0 : M.tcode P T = 0) :
    Calls Tryd.prog 22 #[trV P p n cap] w fun e w' => ∃ A, e = .returned (.tuple #[.slice (some ⟨A, 0, none⟩) n n, .nilIface]) ∧ RowAt 3 w' A (M.before T) ∧ w.heap.size ≤ A ∧ Below w.heap.size w w' := by
  have hok := M.tcode_zero.1 h0
  have hn : n ≤ 24 := hl ▸ hok.len
  have hB0 : Below w.heap.size w (w.alloc (.cells #[.int .i64 P, .slice p n cap] 24)) := (Below.refl _ _).alloc (Nat.le_refl _) _
  have hcb := hc.later hB0
  have hmk0 := run_make_row' (P := Tryd.prog) 25 3 (.int .i64 0) 8 Tryd.underlying25 infoInt rfl .i64 .i64 n (by omega) (by omega)
  go_enter Tryd.func22, Tryd.ntmps22
  go_wp2_with fail
  refine (check_tr P T p n cap _ hl hmax hcb).mono ?_
  rw [h0, terr_zero]
  rintro e w1 ⟨rfl, hB1⟩
  have hbox : TBox w1 w.heap.size P p n cap := (tbox_new w P p n cap).later hB1 (by simp)
  have hC1 := bel_on hB0 hB1
  have hc1 := hc.later hC1
  have hk1 := hbox.procs
  have hk2 := hbox.events
  have hbl := hbox.lt
  clear hB0 hB1 hcb hc
  have hrA : RowAt 3 (w1.alloc (.cells (madeCells #[.int .i64 0] n) 3)) w1.heap.size (M.bfl T n 0) := by
    unfold RowAt
    rw [World.alloc_heap_new, made_noughts]
    rfl
  have hrK : RowAt 64 ((w1.alloc (.cells (madeCells #[.int .i64 0] n) 3)).alloc (.cells #[.int .i64 0, .int .i64 0, .int .i64 0, .int .i64 0, .int .i64 0] 64)) (w1.heap.size + 1) (M.knl T 0) := by
    unfold RowAt
    have e : (w1.alloc (.cells (madeCells #[.int .i64 0] n) 3)).heap.size = w1.heap.size + 1 := by simp
    rw [← e, World.alloc_heap_new]
    rfl
  have hrA2 := hrA.alloc (.cells #[.int .i64 0, .int .i64 0, .int .i64 0, .int .i64 0, .int .i64 0] 64)
  have hB2 : Below w1.heap.size w1 ((w1.alloc (.cells (madeCells #[.int .i64 0] n) 3)).alloc (.cells #[.int .i64 0, .int .i64 0, .int .i64 0, .int .i64 0, .int .i64 0] 64)) := bel_al (bel_al (Below.refl _ _) _) _
  clear hrA
  go_wp2_with fail
  go_loopw [21] (fun v wr => ∃ i : Nat, v = .int .i64 i ∧ i ≤ n ∧ RowAt 3 wr w1.heap.size (M.bfl T n i) ∧ RowAt 64 wr (w1.heap.size + 1) (M.knl T i) ∧ Below w1.heap.size w1 wr) (fun v _ => n - (intOf v).toNat)
  case atStart => exact ⟨0, rfl, Nat.zero_le _, hrA2, hrK, hB2⟩
  case round =>
    clear hk1 hk2 hrA2 hrK hB2 hmk0
    obtain ⟨i, rfl, hi, hA, hK, hB⟩ := hrel
    have hbr := hbox.later hB hbl
    have hAl := hA.lt
    have hKl := hK.lt
    by_cases hlt : i < n
    · obtain ⟨b, off, rfl, hb, hp1, hp2⟩ := (hc1.later hB) i (by omega)
      have hT : i < T.length := by omega
      have ha0 := hok.pr0 i hT
      have haP := hok.prP i hT
      have hf0 := hok.fm0 i hT
      have hfI := hok.fmI i hT
      have hP5 := hok.p5
      obtain ⟨a, ha⟩ : ∃ a : Nat, M.pr T i = a := ⟨(M.pr T i).toNat, by omega⟩
      have ha5 : a < 5 := by omega
      rw [ha] at hp1
      have HA : Hid (M.pr T i = (a : Nat)) := ha
      have hcK := hK.cell (k := a) ha5
      rw [M.knl_row T i ha5] at hcK
      obtain ⟨q, hq⟩ : ∃ q, M.kn T (a : Int) i = q := ⟨_, rfl⟩
      have hqb : q < 16777216 := by have h1 := M.kn_lt T (a : Int) i; have h2 := pow_24 i (by omega); omega
      rw [hq] at hcK
      have HQ : Hid (M.kn T (a : Int) i = q) := hq
      have hfA := hA.frozen i
      have hai : (a : Int) < 5 := by omega
      have hk2 := hbr.events
      clear ha hq ha0 haP
      have hAc : wr.cell? ⟨w1.heap.size, i, none⟩ = some (.int .i64 (M.row (M.bfl T n i) i : Nat)) := hA.cell (k := i) (by rw [M.bfl_length T hi]; exact hlt)
      obtain ⟨z0, hz0⟩ : ∃ z, M.row (M.bfl T n i) i = z := ⟨_, rfl⟩
      rw [hz0] at hAc
      clear hz0
      have hAlt : Hid (w1.heap.size < wr.heap.size) := hAl
      by_cases hfm : M.fm T i = -1
      · rw [hfm] at hp2
        have HB : Hid (M.bs T i = q) := by show _ = _; rw [M.bs_none (by omega), HA.out]; exact HQ.out
        clear hfm
        have hB2 : Below w1.heap.size w1 ((wr.setCell ⟨w1.heap.size, i, none⟩ (.int .i64 (q : Nat))).alloc (.cells #[.int .i64 (a : Nat), .int .i64 (-1)] 62)) := bel_al (hB.setCell (p := ⟨w1.heap.size, i, none⟩) (Nat.le_refl _) _) _
        have hA2 := (hA.set i q).alloc (.cells #[.int .i64 (a : Nat), .int .i64 (-1)] 62)
        have hK2 := (hK.other (a := ⟨w1.heap.size, i, none⟩) (show w1.heap.size + 1 ≠ w1.heap.size by omega) (.int .i64 (q : Nat))).alloc (.cells #[.int .i64 (a : Nat), .int .i64 (-1)] 62)
        have hsz : (wr.setCell ⟨w1.heap.size, i, none⟩ (.int .i64 (q : Nat))).heap.size = wr.heap.size := by simp
        have hE0 : ((wr.setCell ⟨w1.heap.size, i, none⟩ (.int .i64 (q : Nat))).alloc (.cells #[.int .i64 (a : Nat), .int .i64 (-1)] 62)).cell? ⟨wr.heap.size, 0, none⟩ = some (.int .i64 (a : Nat)) := ev_cell0 hsz _ _
        have hE1 : ((wr.setCell ⟨w1.heap.size, i, none⟩ (.int .i64 (q : Nat))).alloc (.cells #[.int .i64 (a : Nat), .int .i64 (-1)] 62)).cell? ⟨wr.heap.size, 1, none⟩ = some (.int .i64 (-1)) := ev_cell1 hsz _ _
        have hEl : wr.heap.size < ((wr.setCell ⟨w1.heap.size, i, none⟩ (.int .i64 (q : Nat))).alloc (.cells #[.int .i64 (a : Nat), .int .i64 (-1)] 62)).heap.size := by simp
        obtain ⟨w2, hw2⟩ : ∃ w2, (wr.setCell ⟨w1.heap.size, i, none⟩ (.int .i64 (q : Nat))).alloc (.cells #[.int .i64 (a : Nat), .int .i64 (-1)] 62) = w2 := ⟨_, rfl⟩
        rw [hw2] at hB2 hA2 hK2 hE0 hE1 hEl
        go_wp2_with fail
        refine (heard_bel _ _ false _ rfl).mono ?_
        rintro e w3 ⟨rfl, hB3⟩
        have hC3 : Below w1.heap.size w1 w3 := hB2.trans (hB3.mono hB2.size)
        have hA3 : RowAt 3 w3 w1.heap.size _ := hA2.below hB3 hA2.lt
        have hK3 : RowAt 64 w3 (w1.heap.size + 1) _ := hK2.below hB3 hK2.lt
        have hF0 := (hB3.cell (p := ⟨wr.heap.size, 0, none⟩) hEl).trans hE0
        have hF1 := (hB3.cell (p := ⟨wr.heap.size, 1, none⟩) hEl).trans hE1
        have hEl3 : wr.heap.size < w3.heap.size := Nat.lt_of_lt_of_le hEl hB3.size
        clear hw2 hB2 hA2 hK2 hsz hE0 hE1 hEl hB3 hA hK hcK hfA hAc hp1 hp2 hk2 hAl hKl
        have hsh : IntKind.i64.wrap (2 ^ i) = ((1 <<< i : Nat) : Int) := i64_shl_big i (by omega)
        have hjp : 1 <<< i < 1073741824 := by have := shl_24 i (by omega); omega
        obtain ⟨s, hs⟩ : ∃ s : Nat, 1 <<< i = s := ⟨_, rfl⟩
        have HS : Hid (1 <<< i = s) := hs
        rw [hs] at hsh hjp
        clear hs
        have hcA := hA3.cell (k := i) (by rw [List.length_set, M.bfl_length T hi]; exact hlt)
        rw [row_set_same (by rw [M.bfl_length T hi]; exact hlt)] at hcA
        have hfK := hK3.frozen a
        have hor := i64_or_big q s (by omega) hjp
        obtain ⟨v, hv⟩ : ∃ v : Nat, q ||| s = v := ⟨_, rfl⟩
        have HV : Hid (q ||| s = v) := hv
        rw [hv] at hor
        clear hv
        have hcK3 := hK3.cell (k := a) ha5
        obtain ⟨z1, hz1⟩ : ∃ z, M.row (M.knl T i) a = z := ⟨_, rfl⟩
        rw [hz1] at hcK3
        clear hz1
        have HR1 : RowAt 3 (w3.setCell ⟨w1.heap.size + 1, a, none⟩ (.int .i64 (v : Nat))).drew w1.heap.size (M.bfl T n (i + 1)) := by
          have := (hA3.other (a := ⟨w1.heap.size + 1, a, none⟩) (show w1.heap.size ≠ w1.heap.size + 1 by omega) (.int .i64 (v : Nat))).drew
          rw [M.bfl_set hlt HB.out.symm] at this
          exact this
        have HR2 : RowAt 64 (w3.setCell ⟨w1.heap.size + 1, a, none⟩ (.int .i64 (v : Nat))).drew (w1.heap.size + 1) (M.knl T (i + 1)) := by
          have := (hK3.set a v).drew
          rw [M.knl_set T i ha5 HA.out (by rw [HB.out, HS.out, HV.out])] at this
          exact this
        have HR3 : Below w1.heap.size w1 (w3.setCell ⟨w1.heap.size + 1, a, none⟩ (.int .i64 (v : Nat))).drew := (hC3.setCell (p := ⟨w1.heap.size + 1, a, none⟩) (Nat.le_succ _) _).drew
        have HH1 : Hid _ := HR1
        have HH2 : Hid _ := HR2
        clear HR1 HR2
        go_wp2_with fail
        go_still_tail 9, (by kernel_rfl)
        go_wp2_with fail
        go_roundw
        case rel => exact ⟨i + 1, by go_num, by omega, HH1.out, HH2.out, HR3⟩
        case measure => simp [intOf]; omega
      · obtain ⟨j, hj⟩ : ∃ j : Nat, M.fm T i = j := ⟨(M.fm T i).toNat, by omega⟩
        rw [hj] at hp2
        have hji : j < i := by omega
        have HB : Hid (M.bs T i = q ||| (M.bs T j ||| 1 <<< j)) := by show _ = _; rw [M.bs_heard hji hj, HA.out, HQ.out]
        have e2 : (((j : Nat) : Int) != -1) = true := by simp
        clear hfm hj
        have hB2 : Below w1.heap.size w1 ((wr.setCell ⟨w1.heap.size, i, none⟩ (.int .i64 (q : Nat))).alloc (.cells #[.int .i64 (a : Nat), .int .i64 (j : Nat)] 62)) := bel_al (hB.setCell (p := ⟨w1.heap.size, i, none⟩) (Nat.le_refl _) _) _
        have hA2 := (hA.set i q).alloc (.cells #[.int .i64 (a : Nat), .int .i64 (j : Nat)] 62)
        have hK2 := (hK.other (a := ⟨w1.heap.size, i, none⟩) (show w1.heap.size + 1 ≠ w1.heap.size by omega) (.int .i64 (q : Nat))).alloc (.cells #[.int .i64 (a : Nat), .int .i64 (j : Nat)] 62)
        have hsz : (wr.setCell ⟨w1.heap.size, i, none⟩ (.int .i64 (q : Nat))).heap.size = wr.heap.size := by simp
        have hE0 : ((wr.setCell ⟨w1.heap.size, i, none⟩ (.int .i64 (q : Nat))).alloc (.cells #[.int .i64 (a : Nat), .int .i64 (j : Nat)] 62)).cell? ⟨wr.heap.size, 0, none⟩ = some (.int .i64 (a : Nat)) := ev_cell0 hsz _ _
        have hE1 : ((wr.setCell ⟨w1.heap.size, i, none⟩ (.int .i64 (q : Nat))).alloc (.cells #[.int .i64 (a : Nat), .int .i64 (j : Nat)] 62)).cell? ⟨wr.heap.size, 1, none⟩ = some (.int .i64 (j : Nat)) := ev_cell1 hsz _ _
        have hEl : wr.heap.size < ((wr.setCell ⟨w1.heap.size, i, none⟩ (.int .i64 (q : Nat))).alloc (.cells #[.int .i64 (a : Nat), .int .i64 (j : Nat)] 62)).heap.size := by simp
        obtain ⟨w2, hw2⟩ : ∃ w2, (wr.setCell ⟨w1.heap.size, i, none⟩ (.int .i64 (q : Nat))).alloc (.cells #[.int .i64 (a : Nat), .int .i64 (j : Nat)] 62) = w2 := ⟨_, rfl⟩
        rw [hw2] at hB2 hA2 hK2 hE0 hE1 hEl
        go_wp2_with fail
        refine (heard_bel _ _ true _ e2).mono ?_
        rintro e w3 ⟨rfl, hB3⟩
        have hC3 : Below w1.heap.size w1 w3 := hB2.trans (hB3.mono hB2.size)
        have hA3 : RowAt 3 w3 w1.heap.size _ := hA2.below hB3 hA2.lt
        have hK3 : RowAt 64 w3 (w1.heap.size + 1) _ := hK2.below hB3 hK2.lt
        have hF0 := (hB3.cell (p := ⟨wr.heap.size, 0, none⟩) hEl).trans hE0
        have hF1 := (hB3.cell (p := ⟨wr.heap.size, 1, none⟩) hEl).trans hE1
        have hEl3 : wr.heap.size < w3.heap.size := Nat.lt_of_lt_of_le hEl hB3.size
        clear hw2 hB2 hA2 hK2 hsz hE0 hE1 hEl hB3 hA hK hcK hfA hAc hp1 hp2 hk2 hAl hKl
        have hcA := hA3.cell (k := i) (by rw [List.length_set, M.bfl_length T hi]; exact hlt)
        rw [row_set_same (by rw [M.bfl_length T hi]; exact hlt)] at hcA
        have hcJ := hA3.cell (k := j) (by rw [List.length_set, M.bfl_length T hi]; omega)
        rw [row_set_other (by omega), M.bfl_row hji] at hcJ
        have hfA3 := hA3.frozen i
        have hbj : M.bs T j < 16777216 := by have h1 := M.bs_lt T j; have h2 := pow_24 j (by omega); omega
        have hshj : IntKind.i64.wrap (2 ^ j) = ((1 <<< j : Nat) : Int) := i64_shl_big j (by omega)
        have hjj : 1 <<< j ≤ 16777216 := shl_24 j (by omega)
        obtain ⟨bj, hbje⟩ : ∃ x, M.bs T j = x := ⟨_, rfl⟩
        obtain ⟨sj, hsj⟩ : ∃ x, 1 <<< j = x := ⟨_, rfl⟩
        rw [hbje] at hcJ hbj HB
        rw [hsj] at hshj hjj HB
        clear hbje hsj
        have hor1 := i64_or_big bj sj (by omega) (by omega)
        have hx1 : bj ||| sj < 2 ^ 25 := Nat.or_lt_two_pow (by omega) (by omega)
        obtain ⟨x1, hx1e⟩ : ∃ x, bj ||| sj = x := ⟨_, rfl⟩
        rw [hx1e] at hor1 hx1 HB
        clear hx1e
        have hor2 := i64_or_big q x1 (by omega) (by omega)
        have hx2 : q ||| x1 < 2 ^ 25 := Nat.or_lt_two_pow (by omega) (by omega)
        obtain ⟨r, hre⟩ : ∃ x, q ||| x1 = x := ⟨_, rfl⟩
        rw [hre] at hor2 hx2 HB
        clear hre
        have hjn : (j : Int) < (n : Int) := by omega
        have hjn' : j < n := by omega
        have hA4 := (hA3.set i r).drew
        have hK4 := (hK3.other (a := ⟨w1.heap.size, i, none⟩) (show w1.heap.size + 1 ≠ w1.heap.size by omega) (.int .i64 (r : Nat))).drew
        have hC4 : Below w1.heap.size w1 (w3.setCell ⟨w1.heap.size, i, none⟩ (.int .i64 (r : Nat))).drew := (hC3.setCell (p := ⟨w1.heap.size, i, none⟩) (Nat.le_refl _) _).drew
        have hG0 : (w3.setCell ⟨w1.heap.size, i, none⟩ (.int .i64 (r : Nat))).drew.cell? ⟨wr.heap.size, 0, none⟩ = some (.int .i64 (a : Nat)) := (World.cell?_setCell_far w3 ⟨w1.heap.size, i, none⟩ ⟨wr.heap.size, 0, none⟩ _ (show w1.heap.size ≠ wr.heap.size by have := hAlt.out; omega)).trans hF0
        have hEl4 : wr.heap.size < (w3.setCell ⟨w1.heap.size, i, none⟩ (.int .i64 (r : Nat))).drew.heap.size := by simpa using hEl3
        rw [List.set_set] at hA4
        obtain ⟨w4, hw4⟩ : ∃ w4, (w3.setCell ⟨w1.heap.size, i, none⟩ (.int .i64 (r : Nat))).drew = w4 := ⟨_, rfl⟩
        rw [hw4] at hA4 hK4 hC4 hG0 hEl4
        have HHa : Hid (RowAt 3 w4 w1.heap.size ((M.bfl T n i).set i r)) := hA4
        have HHk : Hid (RowAt 64 w4 (w1.heap.size + 1) (M.knl T i)) := hK4
        clear hA4 hK4
        go_wp2_with fail
        go_still_tail 14, (by kernel_rfl)
        go_wp2_with fail
        clear hw4 hcA hcJ hfA3 hF0 hF1 hEl3 hC3 hA3 hK3 hor1 hor2 hshj
        have hA3 := HHa.out
        have hK3 := HHk.out
        have hC3 := hC4
        have hsh : IntKind.i64.wrap (2 ^ i) = ((1 <<< i : Nat) : Int) := i64_shl_big i (by omega)
        have hjp : 1 <<< i < 1073741824 := by have := shl_24 i (by omega); omega
        obtain ⟨s, hs⟩ : ∃ s : Nat, 1 <<< i = s := ⟨_, rfl⟩
        have HS : Hid (1 <<< i = s) := hs
        rw [hs] at hsh hjp
        clear hs
        have hcA := hA3.cell (k := i) (by rw [List.length_set, M.bfl_length T hi]; exact hlt)
        rw [row_set_same (by rw [M.bfl_length T hi]; exact hlt)] at hcA
        have hfK := hK3.frozen a
        have hor := i64_or_big r s (by omega) hjp
        obtain ⟨v, hv⟩ : ∃ v : Nat, r ||| s = v := ⟨_, rfl⟩
        have HV : Hid (r ||| s = v) := hv
        rw [hv] at hor
        clear hv
        have hcK3 := hK3.cell (k := a) ha5
        obtain ⟨z1, hz1⟩ : ∃ z, M.row (M.knl T i) a = z := ⟨_, rfl⟩
        rw [hz1] at hcK3
        clear hz1
        have HR1 : RowAt 3 (w4.setCell ⟨w1.heap.size + 1, a, none⟩ (.int .i64 (v : Nat))).drew w1.heap.size (M.bfl T n (i + 1)) := by
          have := (hA3.other (a := ⟨w1.heap.size + 1, a, none⟩) (show w1.heap.size ≠ w1.heap.size + 1 by omega) (.int .i64 (v : Nat))).drew
          rw [M.bfl_set hlt HB.out.symm] at this
          exact this
        have HR2 : RowAt 64 (w4.setCell ⟨w1.heap.size + 1, a, none⟩ (.int .i64 (v : Nat))).drew (w1.heap.size + 1) (M.knl T (i + 1)) := by
          have := (hK3.set a v).drew
          rw [M.knl_set T i ha5 HA.out (by rw [HB.out, HS.out, HV.out])] at this
          exact this
        have HR3 : Below w1.heap.size w1 (w4.setCell ⟨w1.heap.size + 1, a, none⟩ (.int .i64 (v : Nat))).drew := (hC3.setCell (p := ⟨w1.heap.size + 1, a, none⟩) (Nat.le_succ _) _).drew
        have HH1 : Hid _ := HR1
        have HH2 : Hid _ := HR2
        clear HR1 HR2
        clear hA3 hK3 HHa HHk
        go_still_tail 9, (by kernel_rfl)
        go_wp2_with fail
        go_roundw
        case rel => exact ⟨i + 1, by go_num, by omega, HH1.out, HH2.out, HR3⟩
        case measure => simp [intOf]; omega
    · obtain rfl : i = n := by omega
      go_wp2_with fail
      go_ret2
      exact ⟨w1.heap.size, rfl, by rw [M.bfl_end, ← hl] at hA; exact hA, hC1.size, bel_on hC1 hB⟩
end Go.Proofs.YtlhpkpjcfjdgaaaDoor
