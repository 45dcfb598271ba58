/- WHOLE CUTS ARE A LATTICE (law CutLattice), the walk. -/
import Derived.Deep.AppendLies
import Derived.Test.YtlhpkpjcfjdgaaaDoorCfc
import Derived.Test.YtlhpkpjcfjdgaaaDoorCg
import Derived.Test.YtlhpkpjcfjdgaaaDoorCt6
import Derived.Test.YtlhpkpjcfjdgaaaDoorOwnI
namespace Go.Proofs.YtlhpkpjcfjdgaaaDoor
open Go.RowKit
theorem take_snoc {l : List Nat} {i x : Nat} (h : i < l.length) (hx : M.row l i = x) : icells (l.take (i + 1)) = icells (l.take i) ++ [.int .i64 (x : Nat)] := by
  have e : l[i] = x := by rw [← hx]; unfold M.row; simp [h]
  rw [← icells_snoc, ← e, ← List.take_succ_eq_append_getElem h]
/-- Two rows that a call has made lie apart. -/
def Apart (v u : Value) : Prop := ∀ k, v.ownBlock = some k → u.ownBlock = some k → False
theorem Apart.ne {v u : Value} (h : Apart v u) : v.ownBlock = none ∨ v.ownBlock ≠ u.ownBlock := by
  cases hv : v.ownBlock with
  | none => exact .inl rfl
  | some k => exact .inr fun e => h k hv (e.symm)
theorem Apart.symm {v u : Value} (h : Apart v u) : Apart u v := fun k h1 h2 => h k h2 h1
theorem ap_step {v u : Value} {g n c S H : Nat} (h : Apart v u) (hu : ∀ k, u.ownBlock = some k → k < S) (hS : S ≤ H) (hg : v.ownBlock = some g ∨ g = H) : Apart (.slice (some ⟨g, 0, none⟩) n c) u := fun k h1 h2 => by
  obtain rfl : g = k := by simpa [Value.ownBlock] using h1
  rcases hg with hg | rfl
  · exact h _ hg h2
  · have := hu _ h2; omega
set_option maxRecDepth 100000 in
set_option maxHeartbeats 4000000 in
theorem ct_walk (P : Int) (T : List (Int × Int)) (p : Option Addr) (n cap : Nat) (zs : List Int) (q : Option Addr) (m cap2 : Nat) (ys : List Int) (q3 : Option Addr) (m3 cap3 : Nat) (w : World) (he : Env w) (hl : T.length = n) (hmax : n ≤ maxLen) (hc : HasE T p w) (hl2 : zs.length = m) (hmax2 : m ≤ maxLen) (hz : HasI zs q w) (_ : ∀ k : Nat, zs[k]?.getD 0 < 9223372036854775808) (hl3 : ys.length = m3) (hmax3 : m3 ≤ maxLen) (hy : HasI ys q3 w) (_ : ∀ k : Nat, ys[k]?.getD 0 < 9223372036854775808) :
    Calls Tryd.prog 5 #[trV P p n cap, .slice q m cap2, .slice q3 m3 cap3] w fun e w' => e = .returned (.bool true) ∧ Below w.heap.size w w' := by
  obtain ⟨wa, hwa⟩ : ∃ wa, w.alloc (.cells #[.int .i64 P, .slice p n cap] 24) = wa := ⟨_, rfl⟩
  have ta : TBox wa w.heap.size P p n cap := hwa ▸ tbox_new w P p n cap
  have hBa : Below w.heap.size w wa := by rw [← hwa]; exact bel_al (Below.refl _ _) _
  obtain ⟨i0, hi0, hz0, hz1, hz2⟩ := info_parts infoInt
  go_enter Tryd.func5, Tryd.ntmps5
  go_wp2_with fail
  refine (cutFact_ok _ (he.later hBa)).mono ?_
  rintro e w1 ⟨rfl, hB1⟩
  have t1 := ta.later hB1 ta.lt
  have hC1 := bel_on hBa hB1
  have k10 := t1.procs
  have k11 := t1.events
  have k1l := t1.lt
  clear hwa ta hBa hB1
  go_wp2_with fail
  by_cases h0 : M.ccode P T zs = 0
  · have hok := (M.ccode_zero.1 h0).1
    obtain ⟨c, rfl, hCk⟩ := ccode_get h0
    have hlc : c.length = m := by rw [ints_length] at hl2; exact hl2
    have hP5 := hok.p5
    have hcP := hCk.len
    refine (cline_ok P T p n cap (ints c) q m cap2 _ hl (he.later hC1) hmax (hc.later hC1) hl2 hmax2 (hz.later hC1) h0).mono ?_
    rw [cof0_ints]
    rintro e w2 ⟨A, rfl, hrl, hA, hB2⟩
    have t2 := t1.later hB2 t1.lt
    have hC2 := bel_on hC1 hB2
    have k20 := t2.procs
    have k21 := t2.events
    have k2l := t2.lt
    clear t1 k10 k11 k1l hB2 hC1 h0
    go_wp2_with fail
    by_cases h5 : M.ccode P T ys = 0
    · obtain ⟨d, rfl, hDk⟩ := ccode_get h5
      have hld : d.length = m3 := by rw [ints_length] at hl3; exact hl3
      have hdP := hDk.len
      obtain rfl : m3 = m := by omega
      refine (cline_ok P T p n cap (ints d) q3 m3 cap3 _ hl (he.later hC2) hmax (hc.later hC2) hl3 hmax3 (hy.later hC2) h5).mono ?_
      rw [cof0_ints]
      rintro e w3 ⟨B, rfl, hrd, hBA, hB3⟩
      have t3 := t2.later hB3 t2.lt
      have hC3 := bel_on hC2 hB3
      have hrc := hrl.below hB3 hrl.lt
      have k30 := t3.procs
      have k31 := t3.events
      have k3l := t3.lt
      have hlk := M.line_ok (T := T) hCk.len
      have hdk := M.line_ok (T := T) hDk.len
      have hlw := M.line_whole hok hCk.len
      have hdw := M.line_whole hok hDk.len
      have hlX : (M.line T c).length = m3 := by rw [M.line_length, hlc]
      have hlY : (M.line T d).length = m3 := by rw [M.line_length, hld]
      have hPm : ((m3 : Int) != P) = false := by simp; omega
      clear t2 k20 k21 k2l hB3 hC2 hrl h5
      obtain ⟨X, hX⟩ : ∃ X, M.line T c = X := ⟨_, rfl⟩
      obtain ⟨Y, hY⟩ : ∃ Y, M.line T d = Y := ⟨_, rfl⟩
      rw [hX] at hrc hlk hlw hlX
      rw [hY] at hrd hdk hdw hlY
      clear hX hY
      have hml : (M.most X Y).length = m3 := by rw [M.most_length, hlX]
      have hll : (M.least X Y).length = m3 := by rw [M.least_length, hlX]
      unfold maxLen at hmax2
      go_wp2_with fail
      clear k30 k31 k3l
      go_loopw [12, 13, 14] (fun v u t wr => ∃ i : Nat, t = .int .i64 i ∧ i ≤ m3 ∧ wr.ownsRow w3.heap.size 3 1 v i (icells ((M.most X Y).take i)) ∧ wr.ownsRow w3.heap.size 3 1 u i (icells ((M.least X Y).take i)) ∧ Apart v u ∧ Below w3.heap.size w3 wr) (fun _ _ t _ => m3 - (intOf t).toNat)
      case atStart => exact ⟨0, rfl, Nat.zero_le _, World.ownsRow_nil _ _ _ _, World.ownsRow_nil _ _ _ _, (fun k h _ => by cases h), Below.refl _ _⟩
      case round =>
        obtain ⟨i, rfl, hi, hov, hou, hap, hB⟩ := hrel
        obtain ⟨qv, cv, rfl⟩ := owns_slice hov
        obtain ⟨qu, cu, rfl⟩ := owns_slice hou
        by_cases hlt : i < m3
        · have hcx := (hrc.below hB hrc.lt).cell (k := i) (by omega)
          have hcy := (hrd.below hB hrd.lt).cell (k := i) (by omega)
          have hlx := (hrc.below hB hrc.lt).lt
          have hly := (hrd.below hB hrd.lt).lt
          have hmr := M.most_row (c := X) (d := Y) (p := i) (by omega)
          have hlr := M.least_row (c := X) (d := Y) (p := i) (by omega)
          obtain ⟨x, hx⟩ : ∃ x, M.row X i = x := ⟨_, rfl⟩
          obtain ⟨y, hye⟩ : ∃ y, M.row Y i = y := ⟨_, rfl⟩
          rw [hx] at hcx hmr hlr
          rw [hye] at hcy hmr hlr
          have HX : Hid (M.row X i = x) := hx
          have HY : Hid (M.row Y i = y) := hye
          clear hx hye
          by_cases hxy : x < y
          · rw [if_pos hxy] at hmr hlr
            have HM : Hid (icells ((M.most X Y).take (i + 1)) = icells ((M.most X Y).take i) ++ [.int .i64 (y : Nat)]) := take_snoc (by omega) hmr
            have HL : Hid (icells ((M.least X Y).take (i + 1)) = icells ((M.least X Y).take i) ++ [.int .i64 (x : Nat)]) := take_snoc (by omega) hlr
            have hd : decide ((x : Int) < (y : Int)) = true := decide_eq_true (by omega)
            have hd' : decide (x < y) = true := decide_eq_true hxy
            clear hmr hlr hxy
            go_wp2_with fail
            go_big_quiet (fail)
            go_wp2_with (first | (at_builtin; refine wpList_append_lies _ rfl _ _ 25 rfl w3.heap.size 3 i0 (.int .i64 0) 1 8 Tryd.underlying25 hi0 hz0 hz1 hz2 rfl (by decide) _ _ _ rfl ((ownsRow_drN hov _).alloc _) _ 1 1 [.int .i64 (y : Nat)] rfl rfl (cell_one_new _ _ _) (by simp [Value.oneCell']) (by omega) (by unfold maxLen; omega) (by omega) (by have := hB.size; simp; omega) _ rfl ?_; intro g5 c5 w5 ho5 hg5 ha5 hl5; have hB5 : Below w3.heap.size w3 w5 := (bel_al (bel_drN hB _) _).grown hg5 (by have := hB.size; simp; omega) (fun j e => (hov.lt j e).1); have hou5 := ((ownsRow_drN hou _).alloc _).kept hg5 hap.symm.ne; have hap5 : Apart (.slice (some ⟨g5, 0, none⟩) (i + 1) c5) (.slice qu i cu) := ap_step hap (fun k e => (hou.lt k e).2) (Nat.le_of_lt (by simp)) ha5; have hc5 := (hrc.below hB5 hrc.lt).cell (k := i) (by omega); rw [HX.out] at hc5; have hl5' := (hrc.below hB5 hrc.lt).lt) | (at_builtin; refine wpList_append_lies _ rfl _ _ 25 rfl w3.heap.size 3 i0 (.int .i64 0) 1 8 Tryd.underlying25 hi0 hz0 hz1 hz2 rfl (by decide) _ _ _ rfl (hou5.alloc _) _ 1 1 [.int .i64 (x : Nat)] rfl rfl (cell_one_new _ _ _) (by simp [Value.oneCell']) (by omega) (by unfold maxLen; omega) (by omega) (by have := hB5.size; simp; omega) _ rfl ?_; intro g7 c7 w7 ho7 hg7 ha7 hl7))
            have hB7 : Below w3.heap.size w3 w7 := (bel_al hB5 _).grown hg7 (by have := hB5.size; simp; omega) (fun j e => (hou5.lt j e).1)
            have ho57 := (ho5.alloc _).kept hg7 hap5.ne
            have hap7 : Apart (.slice (some ⟨g7, 0, none⟩) (i + 1) c7) (.slice (some ⟨g5, 0, none⟩) (i + 1) c5) := ap_step hap5.symm (fun k e => (ho5.lt k e).2) (Nat.le_of_lt (by simp)) ha7
            first | go_roundw | skip
            case rel => exact ⟨i + 1, by go_num, by omega, by rw [HM.out]; exact ho57, by rw [HL.out]; exact ho7, hap7.symm, hB7⟩
            case measure => simp [intOf]; omega
          · rw [if_neg hxy] at hmr hlr
            have HM : Hid (icells ((M.most X Y).take (i + 1)) = icells ((M.most X Y).take i) ++ [.int .i64 (x : Nat)]) := take_snoc (by omega) hmr
            have HL : Hid (icells ((M.least X Y).take (i + 1)) = icells ((M.least X Y).take i) ++ [.int .i64 (y : Nat)]) := take_snoc (by omega) hlr
            have hd : decide ((x : Int) < (y : Int)) = false := decide_eq_false (by omega)
            have hd' : decide (x < y) = false := decide_eq_false hxy
            clear hmr hlr hxy
            go_wp2_with fail
            go_big_quiet (fail)
            go_wp2_with (first | (at_builtin; refine wpList_append_lies _ rfl _ _ 25 rfl w3.heap.size 3 i0 (.int .i64 0) 1 8 Tryd.underlying25 hi0 hz0 hz1 hz2 rfl (by decide) _ _ _ rfl ((ownsRow_drN hov _).alloc _) _ 1 1 [.int .i64 (x : Nat)] rfl rfl (cell_one_new _ _ _) (by simp [Value.oneCell']) (by omega) (by unfold maxLen; omega) (by omega) (by have := hB.size; simp; omega) _ rfl ?_; intro g5 c5 w5 ho5 hg5 ha5 hl5; have hB5 : Below w3.heap.size w3 w5 := (bel_al (bel_drN hB _) _).grown hg5 (by have := hB.size; simp; omega) (fun j e => (hov.lt j e).1); have hou5 := ((ownsRow_drN hou _).alloc _).kept hg5 hap.symm.ne; have hap5 : Apart (.slice (some ⟨g5, 0, none⟩) (i + 1) c5) (.slice qu i cu) := ap_step hap (fun k e => (hou.lt k e).2) (Nat.le_of_lt (by simp)) ha5; have hc5 := (hrd.below hB5 hrd.lt).cell (k := i) (by omega); rw [HY.out] at hc5; have hl5' := (hrd.below hB5 hrd.lt).lt) | (at_builtin; refine wpList_append_lies _ rfl _ _ 25 rfl w3.heap.size 3 i0 (.int .i64 0) 1 8 Tryd.underlying25 hi0 hz0 hz1 hz2 rfl (by decide) _ _ _ rfl (hou5.alloc _) _ 1 1 [.int .i64 (y : Nat)] rfl rfl (cell_one_new _ _ _) (by simp [Value.oneCell']) (by omega) (by unfold maxLen; omega) (by omega) (by have := hB5.size; simp; omega) _ rfl ?_; intro g7 c7 w7 ho7 hg7 ha7 hl7))
            have hB7 : Below w3.heap.size w3 w7 := (bel_al hB5 _).grown hg7 (by have := hB5.size; simp; omega) (fun j e => (hou5.lt j e).1)
            have ho57 := (ho5.alloc _).kept hg7 hap5.ne
            have hap7 : Apart (.slice (some ⟨g7, 0, none⟩) (i + 1) c7) (.slice (some ⟨g5, 0, none⟩) (i + 1) c5) := ap_step hap5.symm (fun k e => (ho5.lt k e).2) (Nat.le_of_lt (by simp)) ha7
            first | go_roundw | skip
            case rel => exact ⟨i + 1, by go_num, by omega, by rw [HM.out]; exact ho57, by rw [HL.out]; exact ho7, hap7.symm, hB7⟩
            case measure => simp [intOf]; omega
        · obtain rfl : m3 = i := by omega
          rw [List.take_of_length_le (by omega)] at hov hou
          have hIm := hasI_of_owns hml hov
          have hIl := hasI_of_owns hll hou
          have hMk := M.most_ok hlk hdk
          have hLk := M.least_ok (d := Y) hlk
          have hMw := M.most_whole hok hlk.len hlw hdw
          have hLw := M.least_whole hok hlk.len hlw hdw
          have t4 := t3.later hB t3.lt
          have hC4 := bel_on hC3 hB
          have k40 := t4.procs
          have k41 := t4.events
          have k4l := t4.lt
          clear hov hou hap hB hC3 t3 hlt hlk hdk hlw hdw hrc hrd
          go_wp2_with fail
          refine (cis_ok P T p n cap (ints (M.most X Y)) _ m3 _ _ hl (he.later hC4) hmax (hc.later hC4) (by rw [ints_length, hml]) hmax3 hIm (ccode_ints hok hMk)).mono ?_
          rw [cof0_ints, hMw]
          rintro e w5 ⟨rfl, hB5⟩
          have t5 := t4.later hB5 t4.lt
          have hC5 := bel_on hC4 hB5
          have hIl5 := hIl.later hB5
          have k50 := t5.procs
          have k51 := t5.events
          have k5l := t5.lt
          clear t4 k40 k41 k4l hB5 hC4 hIl hIm hMk hMw
          go_wp2_with fail
          refine (cis_ok P T p n cap (ints (M.least X Y)) _ m3 _ _ hl (he.later hC5) hmax (hc.later hC5) (by rw [ints_length, hll]) hmax3 hIl5 (ccode_ints hok hLk)).mono ?_
          rw [cof0_ints, hLw]
          rintro e w6 ⟨rfl, hB6⟩
          have HC : Hid (Below _ _ _) := bel_on hC5 hB6
          clear t5 k50 k51 k5l hB6 hC5 hIl5 hLk hLw
          go_wp2_with fail
          go_ret
          exact ⟨rfl, HC.out⟩
    · obtain ⟨d, hd⟩ : ∃ d, M.ccode P T ys = d := ⟨_, rfl⟩
      rw [hd] at h5
      refine (cline_err P T p n cap ys q3 m3 cap3 _ hl hmax (hc.later hC2) hl3 hmax3 (hy.later hC2) d hd h5).mono ?_
      rintro e w3 ⟨rfl, hB3⟩
      have HC : Hid (Below _ _ _) := bel_on hC2 hB3
      clear t2 k20 k21 k2l hB3 hC2 h5 hd
      have hm0 : ((m : Int) == 0) = false := by have := hok.p1; simp; omega
      go_wp2_with fail
      go_ret
      exact ⟨rfl, HC.out⟩
  · obtain ⟨d, hd⟩ : ∃ d, M.ccode P T zs = d := ⟨_, rfl⟩
    rw [hd] at h0
    refine (cline_err P T p n cap zs q m cap2 _ hl hmax (hc.later hC1) hl2 hmax2 (hz.later hC1) d hd h0).mono ?_
    rintro e w2 ⟨rfl, hB2⟩
    have t2 := t1.later hB2 t1.lt
    have hC2 := bel_on hC1 hB2
    have k20 := t2.procs
    have k21 := t2.events
    have k2l := t2.lt
    clear t1 k10 k11 k1l hB2 hC1 h0 hd
    go_wp2_with fail
    by_cases h5 : M.ccode P T ys = 0
    · refine (cline_ok P T p n cap ys q3 m3 cap3 _ hl (he.later hC2) hmax (hc.later hC2) hl3 hmax3 (hy.later hC2) h5).mono ?_
      rintro e w3 ⟨B, rfl, hrd, hBA, hB3⟩
      have HC : Hid (Below _ _ _) := bel_on hC2 hB3
      clear t2 k20 k21 k2l hB3 hC2 h5 hrd
      go_wp2_with fail
      go_ret
      exact ⟨rfl, HC.out⟩
    · obtain ⟨d2, hd2⟩ : ∃ d, M.ccode P T ys = d := ⟨_, rfl⟩
      rw [hd2] at h5
      refine (cline_err P T p n cap ys q3 m3 cap3 _ hl hmax (hc.later hC2) hl3 hmax3 (hy.later hC2) d2 hd2 h5).mono ?_
      rintro e w3 ⟨rfl, hB3⟩
      have HC : Hid (Below _ _ _) := bel_on hC2 hB3
      clear t2 k20 k21 k2l hB3 hC2 h5 hd2
      go_wp2_with fail
      go_ret
      exact ⟨rfl, HC.out⟩
end Go.Proofs.YtlhpkpjcfjdgaaaDoor
