/- Plain clocks of a trace (package stamp, Plain), at whatever numbers; what lay in memory lies as it lay. -/
import Derived.Test.YtkojkiggdbffhaaDoorBTr
import Derived.Test.YtkojkiggdbffhaaDoorBMb
import Derived.Laws.Small
namespace Go.Proofs.YtkojkiggdbffhaaDoor
open Go.RowKit

set_option maxHeartbeats 400000 in
theorem plain_err (P : Int) (T : List (Int × Int)) (p : Option Addr) (n cap c : Nat) (w : World) (hl : T.length = n) (hmax : n ≤ maxLen) (hc : HasE T p w) (h0 : M.tcode P T = c) (hne : c ≠ 0) :
    Calls Tryd.prog 10 #[trV P p n cap] w fun e w' => e = .returned (.tuple #[.slice none 0 0, .iface 49 (.int .i64 (c : Nat))]) ∧ Below w.heap.size w w' := by
  have hB0 : Below w.heap.size w (w.alloc (.cells #[.int .i64 P, .slice p n cap] 24)) := (Below.refl _ _).alloc (Nat.le_refl _) _
  have hcb := hc.later hB0
  go_enter Tryd.func10, Tryd.ntmps10
  go_wp2_with fail
  refine (check_tr P T p n cap _ hl hmax hcb).mono ?_
  rw [h0, terr_ne hne]
  rintro e w1 ⟨rfl, hB1⟩
  go_wp2_with fail
  go_ret2
  exact ⟨rfl, bel_on hB0 hB1⟩
set_option maxRecDepth 100000 in
set_option maxHeartbeats 4000000 in
theorem plain_ok (P : Int) (T : List (Int × Int)) (p : Option Addr) (n cap : Nat) (w : World) (hl : T.length = n) (hmax : n ≤ maxLen) (hc : HasE T p w) (h0 : M.tcode P T = 0) :
    Calls Tryd.prog 10 #[trV P p n cap] w fun e w' => ∃ A, e = .returned (.tuple #[.slice (some ⟨A, 0, none⟩) n n, .nilIface]) ∧ RowAt 3 w' A (M.clocks T) ∧ w.heap.size ≤ A ∧ Below w.heap.size w w' := by
  have hok := M.tcode_zero.1 h0
  have hn : n ≤ 24 := hl ▸ hok.len
  have hB0 : Below w.heap.size w (w.alloc (.cells #[.int .i64 P, .slice p n cap] 24)) := (Below.refl _ _).alloc (Nat.le_refl _) _
  have hcb := hc.later hB0
  have hmk0 := run_make_row' (P := Tryd.prog) 25 3 (.int .i64 0) 8 Tryd.underlying25 infoInt rfl .i64 .i64 n (by omega) (by omega)
  go_enter Tryd.func10, Tryd.ntmps10
  go_wp2_with fail
  refine (check_tr P T p n cap _ hl hmax hcb).mono ?_
  rw [h0, terr_zero]
  rintro e w1 ⟨rfl, hB1⟩
  have hbox : TBox w1 w.heap.size P p n cap := (tbox_new w P p n cap).later hB1 (by simp)
  have hC1 := bel_on hB0 hB1
  have hc1 := hc.later hC1
  have hk1 := hbox.procs
  have hk2 := hbox.events
  have hbl := hbox.lt
  clear hB0 hB1 hcb hc
  have hrA : RowAt 3 (w1.alloc (.cells (madeCells #[.int .i64 0] n) 3)) w1.heap.size (M.ckl T n 0) := by
    unfold RowAt
    rw [World.alloc_heap_new, made_noughts]
    rfl
  have hrK : RowAt 58 ((w1.alloc (.cells (madeCells #[.int .i64 0] n) 3)).alloc (.cells #[.int .i64 0, .int .i64 0, .int .i64 0, .int .i64 0, .int .i64 0] 58)) (w1.heap.size + 1) (M.kcl T 0) := by
    unfold RowAt
    have e : (w1.alloc (.cells (madeCells #[.int .i64 0] n) 3)).heap.size = w1.heap.size + 1 := by simp
    rw [← e, World.alloc_heap_new]
    rfl
  have hrA2 := hrA.alloc (.cells #[.int .i64 0, .int .i64 0, .int .i64 0, .int .i64 0, .int .i64 0] 58)
  have hB2 : Below w1.heap.size w1 ((w1.alloc (.cells (madeCells #[.int .i64 0] n) 3)).alloc (.cells #[.int .i64 0, .int .i64 0, .int .i64 0, .int .i64 0, .int .i64 0] 58)) := bel_al (bel_al (Below.refl _ _) _) _
  clear hrA
  go_wp2_with fail
  go_loopw [22] (fun v wr => ∃ i : Nat, v = .int .i64 i ∧ i ≤ n ∧ RowAt 3 wr w1.heap.size (M.ckl T n i) ∧ RowAt 58 wr (w1.heap.size + 1) (M.kcl T i) ∧ Below w1.heap.size w1 wr) (fun v _ => n - (intOf v).toNat)
  case atStart => exact ⟨0, rfl, Nat.zero_le _, hrA2, hrK, hB2⟩
  case round =>
    clear hk1 hk2 hrA2 hrK hB2 hmk0
    obtain ⟨i, rfl, hi, hA, hK, hB⟩ := hrel
    have hbr := hbox.later hB hbl
    by_cases hlt : i < n
    · obtain ⟨b, off, rfl, hb, hp1, hp2⟩ := (hc1.later hB) i (by omega)
      have hT : i < T.length := by omega
      have ha0 := hok.pr0 i hT
      have haP := hok.prP i hT
      have hf0 := hok.fm0 i hT
      have hfI := hok.fmI i hT
      have hP5 := hok.p5
      obtain ⟨a, ha⟩ : ∃ a : Nat, M.pr T i = a := ⟨(M.pr T i).toNat, by omega⟩
      have ha5 : a < 5 := by omega
      rw [ha] at hp1
      have HA : Hid (M.pr T i = (a : Nat)) := ha
      obtain ⟨q, hq⟩ : ∃ q, M.kc T (a : Int) i = q := ⟨_, rfl⟩
      have hqb : q ≤ 24 := by have h1 := M.kc_bound T (a : Int) i; omega
      have HQ : Hid (M.kc T (a : Int) i = q) := hq
      have hai : (a : Int) < 5 := by omega
      clear ha hq ha0 haP
      by_cases hfm : M.fm T i = -1
      · rw [hfm] at hp2
        obtain ⟨v, hv⟩ : ∃ v : Nat, q + 1 = v := ⟨_, rfl⟩
        have hvi : (q : Int) + 1 = (v : Int) := by omega
        have HB : Hid (M.ck T i = v) := by show _ = _; rw [M.ck_none (by omega), HA.out, HQ.out, hv]
        clear hfm hv
        obtain ⟨w2, hw2⟩ : ∃ w2, wr.alloc (.cells #[.int .i64 (a : Nat), .int .i64 (-1)] 53) = w2 := ⟨_, rfl⟩
        have hB2 : Below w1.heap.size w1 w2 := hw2 ▸ bel_al hB _
        have hA2 : RowAt 3 w2 w1.heap.size _ := hw2 ▸ hA.alloc _
        have hK2 : RowAt 58 w2 (w1.heap.size + 1) _ := hw2 ▸ hK.alloc _
        have hE0 : w2.cell? ⟨wr.heap.size, 0, none⟩ = some (.int .i64 (a : Nat)) := hw2 ▸ ev_cell0 rfl _ _
        have hE1 : w2.cell? ⟨wr.heap.size, 1, none⟩ = some (.int .i64 (-1)) := hw2 ▸ ev_cell1 rfl _ _
        have hEl : wr.heap.size < w2.heap.size := by subst hw2; simp
        have hcK := hK2.cell (k := a) ha5
        rw [M.kcl_row T i ha5, HQ.out] at hcK
        go_wp2_with fail
        refine (heard_bel _ _ false _ rfl).mono ?_
        rintro e w3 ⟨rfl, hB3⟩
        have hC3 : Below w1.heap.size w1 w3 := hB2.trans (hB3.mono hB2.size)
        have hA3 : RowAt 3 w3 w1.heap.size _ := hA2.below hB3 hA2.lt
        have hK3 : RowAt 58 w3 (w1.heap.size + 1) _ := hK2.below hB3 hK2.lt
        have hF0 := (hB3.cell (p := ⟨wr.heap.size, 0, none⟩) hEl).trans hE0
        have hF1 := (hB3.cell (p := ⟨wr.heap.size, 1, none⟩) hEl).trans hE1
        have hne1 : w1.heap.size ≠ wr.heap.size := by have := hA.lt; omega
        have hne2 : w1.heap.size + 1 ≠ wr.heap.size := by have := hK.lt; omega
        have hEl3 : wr.heap.size < w3.heap.size := Nat.lt_of_lt_of_le hEl hB3.size
        clear hw2 hB2 hA2 hK2 hE0 hE1 hEl hB3 hA hK hcK hp1 hp2
        have hfA := hA3.frozen i
        have hfK := hK3.frozen a
        have hcA := hA3.cell (k := i) (by rw [M.ckl_length T hi]; exact hlt)
        have hcK := hK3.cell (k := a) ha5
        obtain ⟨z0, hz0⟩ : ∃ z, M.row (M.ckl T n i) i = z := ⟨_, rfl⟩
        obtain ⟨z1, hz1⟩ : ∃ z, M.row (M.kcl T i) a = z := ⟨_, rfl⟩
        rw [hz0] at hcA
        rw [hz1] at hcK
        clear hz0 hz1
        obtain ⟨w4, hw4⟩ : ∃ w4, w3.setCell ⟨w1.heap.size, i, none⟩ (.int .i64 (v : Nat)) = w4 := ⟨_, rfl⟩
        have hA4 : RowAt 3 w4 w1.heap.size _ := hw4 ▸ hA3.set i v
        have hK4 : RowAt 58 w4 (w1.heap.size + 1) _ := hw4 ▸ hK3.other (a := ⟨w1.heap.size, i, none⟩) (show w1.heap.size + 1 ≠ w1.heap.size by omega) (.int .i64 (v : Nat))
        have hC4 : Below w1.heap.size w1 w4 := hw4 ▸ hC3.setCell (p := ⟨w1.heap.size, i, none⟩) (Nat.le_refl _) _
        have hG0 : w4.cell? ⟨wr.heap.size, 0, none⟩ = some (.int .i64 (a : Nat)) := by subst hw4; exact (World.cell?_setCell_far w3 ⟨w1.heap.size, i, none⟩ ⟨wr.heap.size, 0, none⟩ _ hne1).trans hF0
        have hcK4 := hK4.cell (k := a) ha5
        have hfK4 := hK4.frozen a
        obtain ⟨z1, hz1⟩ : ∃ z, M.row (M.kcl T i) a = z := ⟨_, rfl⟩
        rw [hz1] at hcK4
        clear hz1
        obtain ⟨w5, hw5⟩ : ∃ w5, w4.setCell ⟨w1.heap.size + 1, a, none⟩ (.int .i64 (v : Nat)) = w5 := ⟨_, rfl⟩
        have HR1 : Hid (RowAt 3 w5 w1.heap.size (M.ckl T n (i + 1))) := by
          have := (hA4.other (a := ⟨w1.heap.size + 1, a, none⟩) (show w1.heap.size ≠ w1.heap.size + 1 by omega) (.int .i64 (v : Nat)))
          rw [M.ckl_set hlt HB.out.symm, hw5] at this
          exact this
        have HR2 : Hid (RowAt 58 w5 (w1.heap.size + 1) (M.kcl T (i + 1))) := by
          have := hK4.set a v
          rw [M.kcl_set T i ha5 HA.out HB.out.symm, hw5] at this
          exact this
        have HR3 : Below w1.heap.size w1 w5 := hw5 ▸ hC4.setCell (p := ⟨w1.heap.size + 1, a, none⟩) (Nat.le_succ _) _
        clear hA4 hK4 hA3 hK3
        go_wp2_with fail
        go_roundw
        case rel => exact ⟨i + 1, by go_num, by omega, HR1.out, HR2.out, HR3⟩
        case measure => simp [intOf]; omega
      · obtain ⟨j, hj⟩ : ∃ j : Nat, M.fm T i = j := ⟨(M.fm T i).toNat, by omega⟩
        rw [hj] at hp2
        have hji : j < i := by omega
        have HB : Hid (M.ck T i = Nat.max q (M.ck T j) + 1) := by show _ = _; rw [M.ck_heard hji hj, HA.out, HQ.out]
        have e2 : (((j : Nat) : Int) != -1) = true := by simp
        clear hfm hj
        obtain ⟨w2, hw2⟩ : ∃ w2, wr.alloc (.cells #[.int .i64 (a : Nat), .int .i64 (j : Nat)] 53) = w2 := ⟨_, rfl⟩
        have hB2 : Below w1.heap.size w1 w2 := hw2 ▸ bel_al hB _
        have hA2 : RowAt 3 w2 w1.heap.size _ := hw2 ▸ hA.alloc _
        have hK2 : RowAt 58 w2 (w1.heap.size + 1) _ := hw2 ▸ hK.alloc _
        have hE0 : w2.cell? ⟨wr.heap.size, 0, none⟩ = some (.int .i64 (a : Nat)) := hw2 ▸ ev_cell0 rfl _ _
        have hE1 : w2.cell? ⟨wr.heap.size, 1, none⟩ = some (.int .i64 (j : Nat)) := hw2 ▸ ev_cell1 rfl _ _
        have hEl : wr.heap.size < w2.heap.size := by subst hw2; simp
        have hcK := hK2.cell (k := a) ha5
        rw [M.kcl_row T i ha5, HQ.out] at hcK
        go_wp2_with fail
        refine (heard_bel _ _ true _ e2).mono ?_
        rintro e w3 ⟨rfl, hB3⟩
        have hC3 : Below w1.heap.size w1 w3 := hB2.trans (hB3.mono hB2.size)
        have hA3 : RowAt 3 w3 w1.heap.size _ := hA2.below hB3 hA2.lt
        have hK3 : RowAt 58 w3 (w1.heap.size + 1) _ := hK2.below hB3 hK2.lt
        have hF0 := (hB3.cell (p := ⟨wr.heap.size, 0, none⟩) hEl).trans hE0
        have hF1 := (hB3.cell (p := ⟨wr.heap.size, 1, none⟩) hEl).trans hE1
        have hne1 : w1.heap.size ≠ wr.heap.size := by have := hA.lt; omega
        have hne2 : w1.heap.size + 1 ≠ wr.heap.size := by have := hK.lt; omega
        have hEl3 : wr.heap.size < w3.heap.size := Nat.lt_of_lt_of_le hEl hB3.size
        clear hw2 hB2 hA2 hK2 hE0 hE1 hEl hB3 hA hK hcK hp1 hp2
        have hcJ := hA3.cell (k := j) (by rw [M.ckl_length T hi]; omega)
        rw [M.ckl_row hji] at hcJ
        have hcb : M.ck T j ≤ 24 := by have := M.ck_le T j; omega
        obtain ⟨cj, hcj⟩ : ∃ c, M.ck T j = c := ⟨_, rfl⟩
        rw [hcj] at hcJ hcb HB
        clear hcj
        have hjn : (j : Int) < (n : Int) := by omega
        have hjn' : j < n := by omega
        obtain ⟨x, hx⟩ : ∃ x : Nat, Nat.max q cj = x := ⟨_, rfl⟩
        rw [hx] at HB
        have hxi : (if q < cj then (cj : Int) else (q : Int)) = (x : Int) := by subst hx; show _ = ((max q cj : Nat) : Int); split <;> omega
        have hx24 : x ≤ 24 := by subst hx; exact Nat.max_le.2 ⟨hqb, hcb⟩
        obtain ⟨v, hv⟩ : ∃ v : Nat, x + 1 = v := ⟨_, rfl⟩
        have hvi : (x : Int) + 1 = (v : Int) := by omega
        rw [hv] at HB
        clear hx hv
        have hfA := hA3.frozen i
        have hfK := hK3.frozen a
        have hcA := hA3.cell (k := i) (by rw [M.ckl_length T hi]; exact hlt)
        have hcK := hK3.cell (k := a) ha5
        obtain ⟨z0, hz0⟩ : ∃ z, M.row (M.ckl T n i) i = z := ⟨_, rfl⟩
        obtain ⟨z1, hz1⟩ : ∃ z, M.row (M.kcl T i) a = z := ⟨_, rfl⟩
        rw [hz0] at hcA
        rw [hz1] at hcK
        clear hz0 hz1
        obtain ⟨w4, hw4⟩ : ∃ w4, w3.setCell ⟨w1.heap.size, i, none⟩ (.int .i64 (v : Nat)) = w4 := ⟨_, rfl⟩
        have hA4 : RowAt 3 w4 w1.heap.size _ := hw4 ▸ hA3.set i v
        have hK4 : RowAt 58 w4 (w1.heap.size + 1) _ := hw4 ▸ hK3.other (a := ⟨w1.heap.size, i, none⟩) (show w1.heap.size + 1 ≠ w1.heap.size by omega) (.int .i64 (v : Nat))
        have hC4 : Below w1.heap.size w1 w4 := hw4 ▸ hC3.setCell (p := ⟨w1.heap.size, i, none⟩) (Nat.le_refl _) _
        have hG0 : w4.cell? ⟨wr.heap.size, 0, none⟩ = some (.int .i64 (a : Nat)) := by subst hw4; exact (World.cell?_setCell_far w3 ⟨w1.heap.size, i, none⟩ ⟨wr.heap.size, 0, none⟩ _ hne1).trans hF0
        have hcK4 := hK4.cell (k := a) ha5
        have hfK4 := hK4.frozen a
        obtain ⟨z1, hz1⟩ : ∃ z, M.row (M.kcl T i) a = z := ⟨_, rfl⟩
        rw [hz1] at hcK4
        clear hz1
        obtain ⟨w5, hw5⟩ : ∃ w5, w4.setCell ⟨w1.heap.size + 1, a, none⟩ (.int .i64 (v : Nat)) = w5 := ⟨_, rfl⟩
        have HR1 : Hid (RowAt 3 w5 w1.heap.size (M.ckl T n (i + 1))) := by
          have := (hA4.other (a := ⟨w1.heap.size + 1, a, none⟩) (show w1.heap.size ≠ w1.heap.size + 1 by omega) (.int .i64 (v : Nat)))
          rw [M.ckl_set hlt HB.out.symm, hw5] at this
          exact this
        have HR2 : Hid (RowAt 58 w5 (w1.heap.size + 1) (M.kcl T (i + 1))) := by
          have := hK4.set a v
          rw [M.kcl_set T i ha5 HA.out HB.out.symm, hw5] at this
          exact this
        have HR3 : Below w1.heap.size w1 w5 := hw5 ▸ hC4.setCell (p := ⟨w1.heap.size + 1, a, none⟩) (Nat.le_succ _) _
        clear hA4 hK4 hA3 hK3
        go_wp2_with fail
        go_roundw
        case rel => exact ⟨i + 1, by go_num, by omega, HR1.out, HR2.out, HR3⟩
        case measure => simp [intOf]; omega
    · obtain rfl : i = n := by omega
      go_wp2_with fail
      go_ret2
      exact ⟨w1.heap.size, rfl, by rw [M.ckl_end, ← hl] at hA; exact hA, hC1.size, bel_on hC1 hB⟩
end Go.Proofs.YtkojkiggdbffhaaDoor
