/- WHO IS BEFORE IS LESS (law HybridBefore): whatever the trace, the times and the two numbers, the call returns true; what lay in memory lies as it lay. -/
import Derived.Test.YtckejldbbkibhaaHfc
import Derived.Test.YtckejldbbkibhaaRefBig
import Derived.Test.YtckejldbbkibhaaRefMnb
import Derived.Deep.CutRange
namespace Go.Proofs.Ytckejldbbkibhaa
open Go.RowKit
namespace M
theorem mxf_stay {x : Nat} {f : Nat → Nat} {s i : Nat} (h : ∀ j, x.testBit j = true → j < i) (d : Nat) : mxf x f s (i + d) = mxf x f s i := by
  induction d with
  | zero => rfl
  | succ d ih =>
    show mxf x f s (i + d + 1) = _
    simp only [mxf]
    rw [if_neg (fun e => by have := h _ e.1; omega), ih]
theorem mxf_hT {T : List (Int × Int)} {t : Nat → Nat} {i n : Nat} (h : i ≤ n) : mxf (bs T i) t (t i) n = hT T t i := by
  obtain ⟨d, rfl⟩ : ∃ d, n = i + d := ⟨n - i, by omega⟩
  exact mxf_stay (bs_in T i) d
theorem mxf_no {x : Nat} {f : Nat → Nat} {s k : Nat} (h : ¬ (x.testBit k = true ∧ mxf x f s k < f k)) : mxf x f s (k + 1) = mxf x f s k := by simp only [mxf]; rw [if_neg h]
theorem mxf_yes {x : Nat} {f : Nat → Nat} {s k : Nat} (h1 : x.testBit k = true) (h2 : mxf x f s k < f k) : mxf x f s (k + 1) = f k := by simp only [mxf]; rw [if_pos ⟨h1, h2⟩]
theorem hL_ls {T : List (Int × Int)} {t : Nat → Nat} {j i : Nat} (h : hL T t j i) : lsB (hT T t j : Nat) (hC T t j : Nat) (hT T t i : Nat) (hC T t i : Nat) = true ∧ lsB (hT T t i : Nat) (hC T t i : Nat) (hT T t j : Nat) (hC T t j : Nat) = false := by
  unfold hL at h
  unfold lsB
  constructor
  · split
    · rw [decide_eq_true_eq]; omega
    · rw [decide_eq_true_eq]; omega
  · split
    · rw [decide_eq_false_iff_not]; omega
    · rw [decide_eq_false_iff_not]; omega
end M
set_option maxRecDepth 100000 in
set_option maxHeartbeats 8000000 in
theorem hb_walk (P : Int) (T : List (Int × Int)) (p : Option Addr) (n cap : Nat) (zs : List Int) (q : Option Addr) (m cap2 : Nat) (iz jz : Int) (w : World) (hl : T.length = n) (hmax : n ≤ maxLen) (hc : HasE T p w) (hl2 : zs.length = m) (hmax2 : m ≤ maxLen) (hz : HasI zs q w) (_hwf : ∀ k : Nat, zs[k]?.getD 0 < 9223372036854775808) (_hiz : (Lit.int .i64 iz).wf = true) (_hjz : (Lit.int .i64 jz).wf = true) :
    Calls Try.prog 3 #[trV P p n cap, .slice q m cap2, .int .i64 iz, .int .i64 jz] w fun e w' => e = .returned (.bool true) ∧ Below w.heap.size w w' := by
  have hB0 : Below w.heap.size w (w.alloc (.cells #[.int .i64 P, .slice p n cap] 24)) := (Below.refl _ _).alloc (Nat.le_refl _) _
  have hbox := tbox_new w P p n cap
  obtain ⟨wb, hwb⟩ : ∃ wb, w.alloc (.cells #[.int .i64 P, .slice p n cap] 24) = wb := ⟨_, rfl⟩
  rw [hwb] at hB0 hbox
  go_enter Try.func3, Try.ntmps3
  go_wp2_with fail
  refine (hybridFact_ok _).mono ?_
  rintro e w1 ⟨rfl, hB1⟩
  have hC1 := bel_on hB0 hB1
  have hb1 := hbox.later hB1 hbox.lt
  have hk1 := hb1.procs
  have hk2 := hb1.events
  clear hwb
  go_wp2_with fail
  by_cases h0 : M.hcode P T zs ≠ 0
  · obtain ⟨c, hcc⟩ : ∃ c, M.hcode P T zs = c := ⟨_, rfl⟩
    rw [hcc] at h0
    refine (stamps_err P T p n cap zs q m cap2 c _ hl hmax (hc.later hC1) hl2 hmax2 (hz.later hC1) hcc h0).mono ?_
    rintro e w2 ⟨rfl, hB2⟩
    have hC2 := bel_on hC1 hB2
    have hb2 := hb1.later hB2 hb1.lt
    clear hk1 hk2
    have hk1 := hb2.procs
    have hk2 := hb2.events
    go_wp2_with fail
    by_cases h1 : M.tcode P T = 0
    · refine (before_ok P T p n cap _ hl hmax (hc.later hC2) h1).mono ?_
      rintro e w3 ⟨A3, rfl, hr3, hA3, hB3⟩
      go_wp2_with fail
      go_ret
      exact ⟨rfl, bel_on hC2 hB3⟩
    · refine (before_err P T p n cap _ _ hl hmax (hc.later hC2) rfl h1).mono ?_
      rintro e w3 ⟨rfl, hB3⟩
      go_wp2_with fail
      go_ret
      exact ⟨rfl, bel_on hC2 hB3⟩
  have hok := M.hcode_zero.1 (Decidable.not_not.1 h0)
  have h1 := M.tcode_zero.2 hok.tr
  have hn : n ≤ 24 := hl ▸ hok.tr.len
  obtain rfl : m = n := by have := hok.len; omega
  refine (stamps_ok P T p m cap zs q cap2 _ hl hmax (hc.later hC1) (hz.later hC1) hok).mono ?_
  rintro e w2 ⟨A, rfl, hr, hA, hB2⟩
  have hC2 := bel_on hC1 hB2
  have hb2 := hb1.later hB2 hb1.lt
  clear hk1 hk2
  have hk1 := hb2.procs
  have hk2 := hb2.events
  go_wp2_with fail
  refine (before_ok P T p m cap _ hl hmax (hc.later hC2) h1).mono ?_
  rintro e w3 ⟨A3, rfl, hr3, hA3, hB3⟩
  have hC3 := bel_on hC2 hB3
  have hL := hr.below hB3 hr.lt
  have hz3 := hz.later hC3
  have hlb : (M.before T).length = m := by rw [M.before_length, hl]
  clear hk1 hk2 hr
  by_cases hi0 : iz < 0
  · have d1 : decide (iz < 0) = true := decide_eq_true hi0
    clear hi0
    go_wp2_with fail
    go_ret
    exact ⟨rfl, hC3⟩
  have d1 : decide (iz < 0) = false := decide_eq_false hi0
  by_cases hin : (m : Int) ≤ iz
  · have d2 : decide ((m : Int) ≤ iz) = true := decide_eq_true hin
    clear hi0 hin
    go_wp2_with fail
    go_ret
    exact ⟨rfl, hC3⟩
  have d2 : decide ((m : Int) ≤ iz) = false := decide_eq_false hin
  by_cases hj0 : jz < 0
  · have d3 : decide (jz < 0) = true := decide_eq_true hj0
    clear hi0 hin hj0
    go_wp2_with fail
    go_ret
    exact ⟨rfl, hC3⟩
  have d3 : decide (jz < 0) = false := decide_eq_false hj0
  by_cases hjn : (m : Int) ≤ jz
  · have d4 : decide ((m : Int) ≤ jz) = true := decide_eq_true hjn
    clear hi0 hin hj0 hjn
    go_wp2_with fail
    go_ret
    exact ⟨rfl, hC3⟩
  have d4 : decide ((m : Int) ≤ jz) = false := decide_eq_false hjn
  obtain ⟨i, rfl⟩ : ∃ i : Nat, iz = i := ⟨iz.toNat, by omega⟩
  obtain ⟨j, rfl⟩ : ∃ j : Nat, jz = j := ⟨jz.toNat, by omega⟩
  have hi : i < m := by omega
  have hj : j < m := by omega
  clear hi0 hin hj0 hjn d1 d2 d3 d4
  have e2 : decide ((m : Int) ≤ (i : Int)) = false := decide_eq_false (by omega)
  have e2' : decide (m ≤ i) = false := decide_eq_false (by omega)
  have e4 : decide ((m : Int) ≤ (j : Int)) = false := decide_eq_false (by omega)
  have e4' : decide (m ≤ j) = false := decide_eq_false (by omega)
  have hin : (i : Int) < (m : Int) := by omega
  have hjn : (j : Int) < (m : Int) := by omega
  have hT : i < T.length := by omega
  have hxb : M.bs T i < 16777216 := by have h1 := M.bs_lt T i; have h2 := pow_24 i (by omega); omega
  obtain ⟨x, hx⟩ : ∃ x, M.bs T i = x := ⟨_, rfl⟩
  have HX : Hid (M.bs T i = x) := hx
  rw [hx] at hxb
  obtain ⟨ti, hti⟩ : ∃ t, M.tm zs i = t := ⟨_, rfl⟩
  have HTI : Hid (M.tm zs i = ti) := hti
  have hzi := hok.tm hT
  rw [hti] at hzi
  obtain ⟨bz, oz, rfl, hbz, hci⟩ := hz3.at_ (show i < zs.length by omega) hzi
  clear hx hti hzi
  go_wp2_with fail
  go_loopw [14, 15] (fun u v wr => ∃ (k mv : Nat), u = .int .i64 mv ∧ v = .int .i64 k ∧ k ≤ m ∧ Hid (mv = M.mxf x (M.tm zs) ti k) ∧ Below w3.heap.size w3 wr) (fun _ v _ => m - (intOf v).toNat)
  case atStart => exact ⟨0, ti, rfl, rfl, Nat.zero_le _, show ti = M.mxf x (M.tm zs) ti 0 from rfl, Below.refl _ _⟩
  case round =>
    clear hci hbz
    obtain ⟨k, mv, rfl, rfl, hk, HM, hBr⟩ := hrel
    have hrr := hr3.below hBr hr3.lt
    have hrl := hrr.lt
    have hcx := hrr.cell (k := i) (by omega)
    rw [M.before_row T hT, HX.out] at hcx
    have hbz : bz < wr.heap.size := by
      obtain ⟨_, _, e0, h2, _⟩ := (hz3.later hBr) i (by omega)
      cases e0
      exact h2
    by_cases hlt : k < m
    · obtain ⟨tk, htk⟩ : ∃ t, M.tm zs k = t := ⟨_, rfl⟩
      have HTK : Hid (M.tm zs k = tk) := htk
      have hzk := hok.tm (show k < T.length by omega)
      rw [htk] at hzk
      obtain ⟨_, _, e0, _, hck⟩ := (hz3.later hBr).at_ (show k < zs.length by omega) hzk
      cases e0
      obtain ⟨tb, htb⟩ : ∃ t, x.testBit k = t := ⟨_, rfl⟩
      have HTB : Hid (x.testBit k = tb) := htb
      have hbit : ∀ W, Calls Try.prog 9 #[.int .i64 x, .int .i64 k] W fun e w' => e = .returned (.bool tb) ∧ W = w' := fun W => by rw [← htb]; exact bit_big x k W (by omega) (by omega)
      have hkI : (k : Int) < (m : Int) := by omega
      clear htk htb hzk
      cases tb with
      | false =>
        have HN : Hid (mv = M.mxf x (M.tm zs) ti (k + 1)) := by show _ = _; rw [M.mxf_no (fun e => by rw [HTB.out] at e; exact absurd e.1 (by simp))]; exact HM.out
        go_wp2_with (go_at_call 9; refine (hbit _).mono ?_; rintro e w' ⟨rfl, rfl⟩)
        go_roundw
        case rel => exact ⟨k + 1, mv, rfl, by go_num, by omega, HN, hBr⟩
        case measure => simp [intOf]; omega
      | true =>
        by_cases hd : mv < tk
        · have f1 : decide ((mv : Int) < (tk : Int)) = true := decide_eq_true (by omega)
          have f2 : decide (mv < tk) = true := decide_eq_true hd
          have HN : Hid (tk = M.mxf x (M.tm zs) ti (k + 1)) := by show _ = _; rw [M.mxf_yes HTB.out (by rw [← HM.out, HTK.out]; exact hd)]; exact HTK.out.symm
          clear hd
          go_wp2_with (go_at_call 9; refine (hbit _).mono ?_; rintro e w' ⟨rfl, rfl⟩)
          go_roundw
          case rel => exact ⟨k + 1, tk, rfl, by go_num, by omega, HN, hBr⟩
          case measure => simp [intOf]; omega
        · have f1 : decide ((mv : Int) < (tk : Int)) = false := decide_eq_false (by omega)
          have f2 : decide (mv < tk) = false := decide_eq_false hd
          have HN : Hid (mv = M.mxf x (M.tm zs) ti (k + 1)) := by show _ = _; rw [M.mxf_no (fun e => by have := e.2; rw [← HM.out, HTK.out] at this; exact hd this)]; exact HM.out
          clear hd
          go_wp2_with (go_at_call 9; refine (hbit _).mono ?_; rintro e w' ⟨rfl, rfl⟩)
          go_roundw
          case rel => exact ⟨k + 1, mv, rfl, by go_num, by omega, HN, hBr⟩
          case measure => simp [intOf]; omega
    · obtain rfl : k = m := by omega
      have hmv : mv = M.hT T (M.tm zs) i := by rw [HM.out, ← HX.out, ← HTI.out]; exact M.mxf_hT (by omega)
      have hzi := hok.tm hT
      rw [HTI.out] at hzi
      obtain ⟨_, _, e0, _, hci⟩ := (hz3.later hBr).at_ (show i < zs.length by omega) hzi
      cases e0
      have hLr := hL.below hBr hL.lt
      have hLl := hLr.lt
      have hcT := hLr.cell (k := i * 2) (by rw [M.stl_length]; omega)
      have hcC := hLr.cell (k := i * 2 + 1) (by rw [M.stl_length]; omega)
      have hjT := hLr.cell (k := j * 2) (by rw [M.stl_length]; omega)
      have hjC := hLr.cell (k := j * 2 + 1) (by rw [M.stl_length]; omega)
      rw [M.stl_T T _ hi hi] at hcT
      rw [M.stl_C T _ hi hi] at hcC
      rw [M.stl_T T _ hj hj] at hjT
      rw [M.stl_C T _ hj hj] at hjC
      have hown := M.hT_own T (M.tm zs) i
      have hmany := M.hyb_many hok.tr (M.tm zs) i hT
      have HB : Hid ((M.bs T i).testBit j = true → M.hL T (M.tm zs) j i) := fun h => M.hyb_before hok.tr (M.tm zs) i hT j h
      have hmn := fun W => many_big x W hxb
      rw [← hmv] at hcT hown
      rw [HX.out] at hmany
      rw [HTI.out] at hown
      obtain ⟨c, hcc⟩ : ∃ c, M.hC T (M.tm zs) i = c := ⟨_, rfl⟩
      have HC : Hid (M.hC T (M.tm zs) i = c) := hcc
      rw [hcc] at hcC hmany
      obtain ⟨mn, hmn2⟩ : ∃ y, M.cnt 24 x = y := ⟨_, rfl⟩
      rw [hmn2] at hmn hmany
      obtain ⟨tj, htj⟩ : ∃ y, M.hT T (M.tm zs) j = y := ⟨_, rfl⟩
      obtain ⟨cj, hcj⟩ : ∃ y, M.hC T (M.tm zs) j = y := ⟨_, rfl⟩
      have HTJ : Hid (M.hT T (M.tm zs) j = tj) := htj
      have HCJ : Hid (M.hC T (M.tm zs) j = cj) := hcj
      have HMV : Hid (mv = M.hT T (M.tm zs) i) := hmv
      rw [htj] at hjT
      rw [hcj] at hjC
      have g1 : decide ((mv : Int) < (ti : Int)) = false := decide_eq_false (by omega)
      have g2 : decide (mv < ti) = false := decide_eq_false (by omega)
      have g3 : decide ((c : Int) < 0) = false := decide_eq_false (by omega)
      have g4 : decide ((mn : Int) < (c : Int)) = false := decide_eq_false (by omega)
      have g5 : decide (mn < c) = false := decide_eq_false (by omega)
      have l1 : ((mv : Int) != (mv : Int)) = false := by simp
      have l2 : (mv != mv) = false := by simp
      obtain ⟨tb, htb⟩ : ∃ t, x.testBit j = t := ⟨_, rfl⟩
      have HTB : Hid (x.testBit j = tb) := htb
      have hbit : ∀ W, Calls Try.prog 9 #[.int .i64 x, .int .i64 j] W fun e w' => e = .returned (.bool tb) ∧ W = w' := fun W => by rw [← htb]; exact bit_big x j W (by omega) (by omega)
      clear hmv hzi hmany hown hcc hmn2 htj hcj htb
      go_upto_region 18 with fail
      go_big_quiet ((go_at_call 10; exact Calls.quiet_of_same ((hmn _).mono (fun e w' h => ⟨h.1, h.2.symm⟩))))
      cases tb with
      | false =>
        go_wp2_with fail
        go_big_quiet ((go_at_call 9; refine (hbit _).mono ?_; rintro e w' ⟨rfl, rfl⟩; exact ⟨rfl, _, rfl⟩))
        go_wp2_with fail
        go_ret
        exact ⟨rfl, bel_on hC3 (bel_drN (bel_drN hBr _) _)⟩
      | true =>
        have hlt2 := HB.out (by rw [HX.out]; exact HTB.out)
        have hls := M.hL_ls hlt2
        rw [HTJ.out, HCJ.out, ← HMV.out, HC.out] at hls
        clear hmn g1 g2 g3 g4 g5 l1 l2 hci
        go_upto_region 20 with fail
        have hmk : ∀ w', Below wr.heap.size wr w' → w'.cell? ⟨A3, i, none⟩ = some (.int .i64 (x : Nat)) ∧ w'.cell? ⟨A, i * 2, none⟩ = some (.int .i64 (mv : Nat)) ∧ w'.cell? ⟨A, i * 2 + 1, none⟩ = some (.int .i64 (c : Nat)) ∧ w'.cell? ⟨A, j * 2, none⟩ = some (.int .i64 (tj : Nat)) ∧ w'.cell? ⟨A, j * 2 + 1, none⟩ = some (.int .i64 (cj : Nat)) ∧ Below wr.heap.size wr w' := fun w' h => ⟨(h.cell (p := ⟨A3, i, none⟩) hrl).trans hcx, (h.cell (p := ⟨A, i * 2, none⟩) hLl).trans hcT, (h.cell (p := ⟨A, i * 2 + 1, none⟩) hLl).trans hcC, (h.cell (p := ⟨A, j * 2, none⟩) hLl).trans hjT, (h.cell (p := ⟨A, j * 2 + 1, none⟩) hLl).trans hjC, h⟩
        have hn1 : ∀ W, Below wr.heap.size wr W → Calls Try.prog 9 #[.int .i64 (x : Nat), .int .i64 (j : Nat)] W fun e w' => e = .returned (.bool true) ∧ Below wr.heap.size wr w' := fun W hW => by
          refine (hbit W).mono ?_
          rintro e w' ⟨h1, rfl⟩
          exact ⟨h1, hW⟩
        have hn2 : ∀ W, Below wr.heap.size wr W → Calls Try.prog 11 #[stV (tj : Nat) (cj : Nat), stV (mv : Nat) (c : Nat)] W fun e w' => e = .returned (.bool true) ∧ Below wr.heap.size wr w' := fun W hW => less_belQ _ _ _ _ _ W wr hls.1 hW
        have hn3 : ∀ W, Below wr.heap.size wr W → Calls Try.prog 11 #[stV (mv : Nat) (c : Nat), stV (tj : Nat) (cj : Nat)] W fun e w' => e = .returned (.bool false) ∧ Below wr.heap.size wr w' := fun W hW => less_belQ _ _ _ _ _ W wr hls.2 hW
        refine wp_region_held_drew (S := fun w' => w'.cell? ⟨A3, i, none⟩ = some (.int .i64 (x : Nat)) ∧ w'.cell? ⟨A, i * 2, none⟩ = some (.int .i64 (mv : Nat)) ∧ w'.cell? ⟨A, i * 2 + 1, none⟩ = some (.int .i64 (c : Nat)) ∧ w'.cell? ⟨A, j * 2, none⟩ = some (.int .i64 (tj : Nat)) ∧ w'.cell? ⟨A, j * 2 + 1, none⟩ = some (.int .i64 (cj : Nat)) ∧ Below wr.heap.size wr w') (by kernel_rfl) (hmk _ (bel_drN (Below.refl _ _) _).drew) (fun hHeld => ?_)
        refine wpAnyH_take (i := 0) (oi := { dst := some 129, op := Op.move (Operand.tmp 12), type := 25, pos := "law.go:286", after := #[], guard := none }) (v := ?_) rfl (by kernel_rfl) (by kernel_rfl) (by kernel_rfl) (fun _ _ _ h => h) (Or.inl ⟨by rfl, ?_⟩) hHeld ?_
        rotate_left 1
        · intro w9 hSw
          try dsimp only at hSw
          go_simp
          try with_reducible rfl
        try simp only [Act.put, List.setIfInBounds_toArray, List.set_cons_zero, List.set_cons_succ]
        refine wpAnyH_take (i := 1) (oi := { dst := some 130, op := Op.move (Operand.tmp 2), type := 3, pos := "law.go:286", after := #[], guard := none }) (v := ?_) rfl (by kernel_rfl) (by kernel_rfl) (by kernel_rfl) (fun _ _ _ h => h) (Or.inl ⟨by rfl, ?_⟩) hHeld ?_
        rotate_left 1
        · intro w9 hSw
          try dsimp only at hSw
          go_simp
          try with_reducible rfl
        try simp only [Act.put, List.setIfInBounds_toArray, List.set_cons_zero, List.set_cons_succ]
        refine wpAnyH_take (i := 2) (oi := { dst := some 131, op := Op.indexAddr 25 (Operand.tmp 129) (Operand.tmp 130), type := 0, pos := "law.go:286", after := #[{ on := 0, ground := Ground.data }, { on := 1, ground := Ground.data }], guard := none }) (v := ?_) rfl (by kernel_rfl) (by kernel_rfl) (by kernel_rfl) (fun _ _ _ h => h) (Or.inl ⟨by rfl, ?_⟩) hHeld ?_
        rotate_left 1
        · intro w9 hSw
          try dsimp only at hSw
          go_simp
          try with_reducible rfl
        try simp only [Act.put, List.setIfInBounds_toArray, List.set_cons_zero, List.set_cons_succ]
        refine wpAnyH_take (i := 3) (oi := { dst := some 132, op := Op.load 3 (Operand.tmp 131), type := 3, pos := "law.go:286", after := #[{ on := 2, ground := Ground.data }], guard := none }) (v := ?_) rfl (by kernel_rfl) (by kernel_rfl) (by kernel_rfl) (fun _ _ _ h => h) (Or.inl ⟨by rfl, ?_⟩) hHeld ?_
        rotate_left 1
        · intro w9 hSw
          try dsimp only at hSw
          go_simp
          try with_reducible rfl
        try simp only [Act.put, List.setIfInBounds_toArray, List.set_cons_zero, List.set_cons_succ]
        refine wpAnyH_take (i := 4) (oi := { dst := some 133, op := Op.move (Operand.tmp 3), type := 3, pos := "law.go:286", after := #[], guard := none }) (v := ?_) rfl (by kernel_rfl) (by kernel_rfl) (by kernel_rfl) (fun _ _ _ h => h) (Or.inl ⟨by rfl, ?_⟩) hHeld ?_
        rotate_left 1
        · intro w9 hSw
          try dsimp only at hSw
          go_simp
          try with_reducible rfl
        try simp only [Act.put, List.setIfInBounds_toArray, List.set_cons_zero, List.set_cons_succ]
        refine wpAnyH_ready (rs := [5]) (by kernel_rfl) (by simp) ?_
        refine AllReadyH.cons (o := { dst := some 134, op := Op.call { callee := Callee.value (Operand.func 9), args := #[Operand.tmp 132, Operand.tmp 133], argTypes := #[3, 3] }, type := 4, pos := "law.go:286", after := #[{ on := 3, ground := Ground.data }, { on := 4, ground := Ground.data }], guard := none }) rfl (fun K hK => ?_) AllReadyH.nil
        go_simp
        go_at_call 9
        refine (hn1 _ hHeld.2.2.2.2.2).mono ?_
        rintro e w6 ⟨rfl, hB6⟩
        go_wp2_with fail
        refine hK.out _ _ (hmk _ hB6) (fun hHeld2 => ?_)
        clear hK K hHeld
        have hHeld := hHeld2
        clear hHeld2
        try simp only [Act.put, List.setIfInBounds_toArray, List.set_cons_zero, List.set_cons_succ]
        refine wpAnyH_take (i := 6) (oi := { dst := some 135, op := Op.unOp UnOp.not 4 (Operand.tmp 134), type := 4, pos := "law.go:286", after := #[{ on := 5, ground := Ground.data }], guard := none }) (v := ?_) rfl (by kernel_rfl) (by kernel_rfl) (by kernel_rfl) (fun _ _ _ h => h) (Or.inl ⟨by rfl, ?_⟩) hHeld ?_
        rotate_left 1
        · intro w9 hSw
          try dsimp only at hSw
          go_simp
          try with_reducible rfl
        try simp only [Act.put, List.setIfInBounds_toArray, List.set_cons_zero, List.set_cons_succ]
        refine wpAnyH_take (i := 7) (oi := { dst := some 136, op := Op.move (Operand.tmp 135), type := 4, pos := "law.go:286", after := #[{ on := 6, ground := Ground.data }, { on := 5, ground := Ground.chain }], guard := none }) (v := ?_) rfl (by kernel_rfl) (by kernel_rfl) (by kernel_rfl) (fun _ _ _ h => h) (Or.inl ⟨by rfl, ?_⟩) hHeld ?_
        rotate_left 1
        · intro w9 hSw
          try dsimp only at hSw
          go_simp
          try with_reducible rfl
        try simp only [Act.put, List.setIfInBounds_toArray, List.set_cons_zero, List.set_cons_succ]
        refine wpAnyH_take (i := 8) (oi := { dst := some 137, op := Op.move (Operand.tmp 10), type := 27, pos := "law.go:286", after := #[{ on := 7, ground := Ground.guard }], guard := some (7, false) }) (v := ?_) rfl (by kernel_rfl) (by kernel_rfl) (by kernel_rfl) (fun _ _ _ h => h) (Or.inl ⟨by rfl, ?_⟩) hHeld ?_
        rotate_left 1
        · intro w9 hSw
          try dsimp only at hSw
          go_simp
          try with_reducible rfl
        try simp only [Act.put, List.setIfInBounds_toArray, List.set_cons_zero, List.set_cons_succ]
        refine wpAnyH_take (i := 9) (oi := { dst := some 138, op := Op.move (Operand.tmp 3), type := 3, pos := "law.go:286", after := #[{ on := 7, ground := Ground.guard }], guard := some (7, false) }) (v := ?_) rfl (by kernel_rfl) (by kernel_rfl) (by kernel_rfl) (fun _ _ _ h => h) (Or.inl ⟨by rfl, ?_⟩) hHeld ?_
        rotate_left 1
        · intro w9 hSw
          try dsimp only at hSw
          go_simp
          try with_reducible rfl
        try simp only [Act.put, List.setIfInBounds_toArray, List.set_cons_zero, List.set_cons_succ]
        refine wpAnyH_take (i := 10) (oi := { dst := some 139, op := Op.indexAddr 27 (Operand.tmp 137) (Operand.tmp 138), type := 0, pos := "law.go:286", after := #[{ on := 8, ground := Ground.data }, { on := 9, ground := Ground.data }, { on := 7, ground := Ground.guard }], guard := some (7, false) }) (v := ?_) rfl (by kernel_rfl) (by kernel_rfl) (by kernel_rfl) (fun _ _ _ h => h) (Or.inl ⟨by rfl, ?_⟩) hHeld ?_
        rotate_left 1
        · intro w9 hSw
          try dsimp only at hSw
          go_simp
          try with_reducible rfl
        try simp only [Act.put, List.setIfInBounds_toArray, List.set_cons_zero, List.set_cons_succ]
        refine wpAnyH_take (i := 11) (oi := { dst := some 140, op := Op.load 36 (Operand.tmp 139), type := 36, pos := "law.go:286", after := #[{ on := 10, ground := Ground.data }, { on := 7, ground := Ground.guard }], guard := some (7, false) }) (v := ?_) rfl (by kernel_rfl) (by kernel_rfl) (by kernel_rfl) (fun _ _ _ h => h) (Or.inl ⟨by rfl, ?_⟩) hHeld ?_
        rotate_left 1
        · intro w9 hSw
          try dsimp only at hSw
          go_simp
          try with_reducible rfl
        try simp only [Act.put, List.setIfInBounds_toArray, List.set_cons_zero, List.set_cons_succ]
        refine wpAnyH_take (i := 12) (oi := { dst := some 141, op := Op.move (Operand.tmp 10), type := 27, pos := "law.go:286", after := #[{ on := 7, ground := Ground.guard }], guard := some (7, false) }) (v := ?_) rfl (by kernel_rfl) (by kernel_rfl) (by kernel_rfl) (fun _ _ _ h => h) (Or.inl ⟨by rfl, ?_⟩) hHeld ?_
        rotate_left 1
        · intro w9 hSw
          try dsimp only at hSw
          go_simp
          try with_reducible rfl
        try simp only [Act.put, List.setIfInBounds_toArray, List.set_cons_zero, List.set_cons_succ]
        refine wpAnyH_take (i := 13) (oi := { dst := some 142, op := Op.move (Operand.tmp 2), type := 3, pos := "law.go:286", after := #[{ on := 7, ground := Ground.guard }], guard := some (7, false) }) (v := ?_) rfl (by kernel_rfl) (by kernel_rfl) (by kernel_rfl) (fun _ _ _ h => h) (Or.inl ⟨by rfl, ?_⟩) hHeld ?_
        rotate_left 1
        · intro w9 hSw
          try dsimp only at hSw
          go_simp
          try with_reducible rfl
        try simp only [Act.put, List.setIfInBounds_toArray, List.set_cons_zero, List.set_cons_succ]
        refine wpAnyH_take (i := 14) (oi := { dst := some 143, op := Op.indexAddr 27 (Operand.tmp 141) (Operand.tmp 142), type := 0, pos := "law.go:286", after := #[{ on := 12, ground := Ground.data }, { on := 13, ground := Ground.data }, { on := 7, ground := Ground.guard }], guard := some (7, false) }) (v := ?_) rfl (by kernel_rfl) (by kernel_rfl) (by kernel_rfl) (fun _ _ _ h => h) (Or.inl ⟨by rfl, ?_⟩) hHeld ?_
        rotate_left 1
        · intro w9 hSw
          try dsimp only at hSw
          go_simp
          try with_reducible rfl
        try simp only [Act.put, List.setIfInBounds_toArray, List.set_cons_zero, List.set_cons_succ]
        refine wpAnyH_take (i := 15) (oi := { dst := some 144, op := Op.load 36 (Operand.tmp 143), type := 36, pos := "law.go:286", after := #[{ on := 14, ground := Ground.data }, { on := 7, ground := Ground.guard }], guard := some (7, false) }) (v := ?_) rfl (by kernel_rfl) (by kernel_rfl) (by kernel_rfl) (fun _ _ _ h => h) (Or.inl ⟨by rfl, ?_⟩) hHeld ?_
        rotate_left 1
        · intro w9 hSw
          try dsimp only at hSw
          go_simp
          try with_reducible rfl
        try simp only [Act.put, List.setIfInBounds_toArray, List.set_cons_zero, List.set_cons_succ]
        refine wpAnyH_ready (rs := [16]) (by kernel_rfl) (by simp) ?_
        refine AllReadyH.cons (o := { dst := some 145, op := Op.call { callee := Callee.value (Operand.func 11), args := #[Operand.tmp 140, Operand.tmp 144], argTypes := #[36, 36] }, type := 4, pos := "law.go:286", after := #[{ on := 11, ground := Ground.data }, { on := 15, ground := Ground.data }, { on := 7, ground := Ground.chain }, { on := 7, ground := Ground.guard }], guard := some (7, false) }) rfl (fun K hK => ?_) AllReadyH.nil
        go_simp
        go_at_call 11
        refine (hn2 _ hHeld.2.2.2.2.2).mono ?_
        rintro e w7 ⟨rfl, hB7⟩
        go_wp2_with fail
        refine hK.out _ _ (hmk _ hB7) (fun hHeld2 => ?_)
        clear hK K hHeld
        have hHeld := hHeld2
        clear hHeld2
        try simp only [Act.put, List.setIfInBounds_toArray, List.set_cons_zero, List.set_cons_succ]
        refine wpAnyH_take (i := 17) (oi := { dst := some 146, op := Op.move (Operand.tmp 145), type := 4, pos := "law.go:286", after := #[{ on := 16, ground := Ground.data }, { on := 16, ground := Ground.chain }, { on := 7, ground := Ground.guard }], guard := some (7, false) }) (v := ?_) rfl (by kernel_rfl) (by kernel_rfl) (by kernel_rfl) (fun _ _ _ h => h) (Or.inl ⟨by rfl, ?_⟩) hHeld ?_
        rotate_left 1
        · intro w9 hSw
          try dsimp only at hSw
          go_simp
          try with_reducible rfl
        try simp only [Act.put, List.setIfInBounds_toArray, List.set_cons_zero, List.set_cons_succ]
        refine wpAnyH_take (i := 18) (oi := { dst := some 147, op := Op.move (Operand.tmp 10), type := 27, pos := "law.go:286", after := #[{ on := 17, ground := Ground.guard }], guard := some (17, true) }) (v := ?_) rfl (by kernel_rfl) (by kernel_rfl) (by kernel_rfl) (fun _ _ _ h => h) (Or.inl ⟨by rfl, ?_⟩) hHeld ?_
        rotate_left 1
        · intro w9 hSw
          try dsimp only at hSw
          go_simp
          try with_reducible rfl
        try simp only [Act.put, List.setIfInBounds_toArray, List.set_cons_zero, List.set_cons_succ]
        refine wpAnyH_take (i := 19) (oi := { dst := some 148, op := Op.move (Operand.tmp 2), type := 3, pos := "law.go:286", after := #[{ on := 17, ground := Ground.guard }], guard := some (17, true) }) (v := ?_) rfl (by kernel_rfl) (by kernel_rfl) (by kernel_rfl) (fun _ _ _ h => h) (Or.inl ⟨by rfl, ?_⟩) hHeld ?_
        rotate_left 1
        · intro w9 hSw
          try dsimp only at hSw
          go_simp
          try with_reducible rfl
        try simp only [Act.put, List.setIfInBounds_toArray, List.set_cons_zero, List.set_cons_succ]
        refine wpAnyH_take (i := 20) (oi := { dst := some 149, op := Op.indexAddr 27 (Operand.tmp 147) (Operand.tmp 148), type := 0, pos := "law.go:286", after := #[{ on := 18, ground := Ground.data }, { on := 19, ground := Ground.data }, { on := 17, ground := Ground.guard }], guard := some (17, true) }) (v := ?_) rfl (by kernel_rfl) (by kernel_rfl) (by kernel_rfl) (fun _ _ _ h => h) (Or.inl ⟨by rfl, ?_⟩) hHeld ?_
        rotate_left 1
        · intro w9 hSw
          try dsimp only at hSw
          go_simp
          try with_reducible rfl
        try simp only [Act.put, List.setIfInBounds_toArray, List.set_cons_zero, List.set_cons_succ]
        refine wpAnyH_take (i := 21) (oi := { dst := some 150, op := Op.load 36 (Operand.tmp 149), type := 36, pos := "law.go:286", after := #[{ on := 20, ground := Ground.data }, { on := 17, ground := Ground.guard }], guard := some (17, true) }) (v := ?_) rfl (by kernel_rfl) (by kernel_rfl) (by kernel_rfl) (fun _ _ _ h => h) (Or.inl ⟨by rfl, ?_⟩) hHeld ?_
        rotate_left 1
        · intro w9 hSw
          try dsimp only at hSw
          go_simp
          try with_reducible rfl
        try simp only [Act.put, List.setIfInBounds_toArray, List.set_cons_zero, List.set_cons_succ]
        refine wpAnyH_take (i := 22) (oi := { dst := some 151, op := Op.move (Operand.tmp 10), type := 27, pos := "law.go:286", after := #[{ on := 17, ground := Ground.guard }], guard := some (17, true) }) (v := ?_) rfl (by kernel_rfl) (by kernel_rfl) (by kernel_rfl) (fun _ _ _ h => h) (Or.inl ⟨by rfl, ?_⟩) hHeld ?_
        rotate_left 1
        · intro w9 hSw
          try dsimp only at hSw
          go_simp
          try with_reducible rfl
        try simp only [Act.put, List.setIfInBounds_toArray, List.set_cons_zero, List.set_cons_succ]
        refine wpAnyH_take (i := 23) (oi := { dst := some 152, op := Op.move (Operand.tmp 3), type := 3, pos := "law.go:286", after := #[{ on := 17, ground := Ground.guard }], guard := some (17, true) }) (v := ?_) rfl (by kernel_rfl) (by kernel_rfl) (by kernel_rfl) (fun _ _ _ h => h) (Or.inl ⟨by rfl, ?_⟩) hHeld ?_
        rotate_left 1
        · intro w9 hSw
          try dsimp only at hSw
          go_simp
          try with_reducible rfl
        try simp only [Act.put, List.setIfInBounds_toArray, List.set_cons_zero, List.set_cons_succ]
        refine wpAnyH_take (i := 24) (oi := { dst := some 153, op := Op.indexAddr 27 (Operand.tmp 151) (Operand.tmp 152), type := 0, pos := "law.go:286", after := #[{ on := 22, ground := Ground.data }, { on := 23, ground := Ground.data }, { on := 17, ground := Ground.guard }], guard := some (17, true) }) (v := ?_) rfl (by kernel_rfl) (by kernel_rfl) (by kernel_rfl) (fun _ _ _ h => h) (Or.inl ⟨by rfl, ?_⟩) hHeld ?_
        rotate_left 1
        · intro w9 hSw
          try dsimp only at hSw
          go_simp
          try with_reducible rfl
        try simp only [Act.put, List.setIfInBounds_toArray, List.set_cons_zero, List.set_cons_succ]
        refine wpAnyH_take (i := 25) (oi := { dst := some 154, op := Op.load 36 (Operand.tmp 153), type := 36, pos := "law.go:286", after := #[{ on := 24, ground := Ground.data }, { on := 17, ground := Ground.guard }], guard := some (17, true) }) (v := ?_) rfl (by kernel_rfl) (by kernel_rfl) (by kernel_rfl) (fun _ _ _ h => h) (Or.inl ⟨by rfl, ?_⟩) hHeld ?_
        rotate_left 1
        · intro w9 hSw
          try dsimp only at hSw
          go_simp
          try with_reducible rfl
        try simp only [Act.put, List.setIfInBounds_toArray, List.set_cons_zero, List.set_cons_succ]
        refine wpAnyH_ready (rs := [26]) (by kernel_rfl) (by simp) ?_
        refine AllReadyH.cons (o := { dst := some 155, op := Op.call { callee := Callee.value (Operand.func 11), args := #[Operand.tmp 150, Operand.tmp 154], argTypes := #[36, 36] }, type := 4, pos := "law.go:286", after := #[{ on := 21, ground := Ground.data }, { on := 25, ground := Ground.data }, { on := 17, ground := Ground.chain }, { on := 17, ground := Ground.guard }], guard := some (17, true) }) rfl (fun K hK => ?_) AllReadyH.nil
        go_simp
        go_at_call 11
        refine (hn3 _ hHeld.2.2.2.2.2).mono ?_
        rintro e w8 ⟨rfl, hB8⟩
        go_wp2_with fail
        refine hK.out _ _ (hmk _ hB8) (fun hHeld2 => ?_)
        clear hK K hHeld
        have hHeld := hHeld2
        clear hHeld2
        try simp only [Act.put, List.setIfInBounds_toArray, List.set_cons_zero, List.set_cons_succ]
        refine wpAnyH_take (i := 27) (oi := { dst := some 156, op := Op.unOp UnOp.not 4 (Operand.tmp 155), type := 4, pos := "law.go:286", after := #[{ on := 26, ground := Ground.data }, { on := 17, ground := Ground.guard }], guard := some (17, true) }) (v := ?_) rfl (by kernel_rfl) (by kernel_rfl) (by kernel_rfl) (fun _ _ _ h => h) (Or.inl ⟨by rfl, ?_⟩) hHeld ?_
        rotate_left 1
        · intro w9 hSw
          try dsimp only at hSw
          go_simp
          try with_reducible rfl
        try simp only [Act.put, List.setIfInBounds_toArray, List.set_cons_zero, List.set_cons_succ]
        refine wpAnyH_take (i := 28) (oi := { dst := some 157, op := Op.pick (Operand.tmp 146) (Operand.tmp 156) (Operand.const (Value.bool false)), type := 4, pos := "law.go:286", after := #[{ on := 17, ground := Ground.data }, { on := 27, ground := Ground.data }, { on := 7, ground := Ground.guard }], guard := some (7, false) }) (v := ?_) rfl (by kernel_rfl) (by kernel_rfl) (by kernel_rfl) (fun _ _ _ h => h) (Or.inl ⟨by rfl, ?_⟩) hHeld ?_
        rotate_left 1
        · intro w9 hSw
          try dsimp only at hSw
          go_simp
          try with_reducible rfl
        try simp only [Act.put, List.setIfInBounds_toArray, List.set_cons_zero, List.set_cons_succ]
        refine wpAnyH_take (i := 29) (oi := { dst := some 158, op := Op.pick (Operand.tmp 136) (Operand.const (Value.bool true)) (Operand.tmp 157), type := 4, pos := "law.go:286", after := #[{ on := 7, ground := Ground.data }, { on := 28, ground := Ground.data }], guard := none }) (v := ?_) rfl (by kernel_rfl) (by kernel_rfl) (by kernel_rfl) (fun _ _ _ h => h) (Or.inl ⟨by rfl, ?_⟩) hHeld ?_
        rotate_left 1
        · intro w9 hSw
          try dsimp only at hSw
          go_simp
          try with_reducible rfl
        try simp only [Act.put, List.setIfInBounds_toArray, List.set_cons_zero, List.set_cons_succ]
        refine wpAnyH_take (i := 30) (oi := { dst := some 8, op := Op.assign (Operand.tmp 158), type := 4, pos := "law.go:286", after := #[{ on := 29, ground := Ground.data }, { on := 26, ground := Ground.chain }, { on := 0, ground := Ground.phase }, { on := 1, ground := Ground.phase }, { on := 2, ground := Ground.phase }, { on := 3, ground := Ground.phase }, { on := 4, ground := Ground.phase }, { on := 5, ground := Ground.phase }, { on := 6, ground := Ground.phase }, { on := 7, ground := Ground.phase }, { on := 8, ground := Ground.phase }, { on := 9, ground := Ground.phase }, { on := 10, ground := Ground.phase }, { on := 11, ground := Ground.phase }, { on := 12, ground := Ground.phase }, { on := 13, ground := Ground.phase }, { on := 14, ground := Ground.phase }, { on := 15, ground := Ground.phase }, { on := 16, ground := Ground.phase }, { on := 17, ground := Ground.phase }, { on := 18, ground := Ground.phase }, { on := 19, ground := Ground.phase }, { on := 20, ground := Ground.phase }, { on := 21, ground := Ground.phase }, { on := 22, ground := Ground.phase }, { on := 23, ground := Ground.phase }, { on := 24, ground := Ground.phase }, { on := 25, ground := Ground.phase }, { on := 26, ground := Ground.phase }, { on := 27, ground := Ground.phase }, { on := 28, ground := Ground.phase }, { on := 29, ground := Ground.phase }], guard := none }) (v := ?_) rfl (by kernel_rfl) (by kernel_rfl) (by kernel_rfl) (fun _ _ _ h => h) (Or.inl ⟨by rfl, ?_⟩) hHeld ?_
        rotate_left 1
        · intro w9 hSw
          try dsimp only at hSw
          go_simp
          try with_reducible rfl
        try simp only [Act.put, List.setIfInBounds_toArray, List.set_cons_zero, List.set_cons_succ]
        refine wpAnyH_done (by kernel_rfl) ?_ _
        clear hHeld
        clear hmk hn1 hn2 hn3
        go_wp2_with fail
        go_ret
        exact ⟨rfl, bel_on hC3 (bel_on hBr hB8)⟩
end Go.Proofs.Ytckejldbbkibhaa
