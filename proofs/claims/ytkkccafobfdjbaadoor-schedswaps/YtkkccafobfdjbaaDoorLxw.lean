/- WHAT DOES NOT CLASH MAY CHANGE PLACES (law SchedSwaps), the walk. -/
import Derived.Test.YtkkccafobfdjbaaDoorScb
import Derived.Test.YtkkccafobfdjbaaDoorAppAny
import Derived.BigQuiet
import Derived.Deep.CutRange
namespace Go.Proofs.YtkkccafobfdjbaaDoor
open Go.RowKit

set_option maxRecDepth 100000 in
set_option maxHeartbeats 8000000 in
theorem xw_walk (zs : List Az) (p : Option Addr) (n cap : Nat) (iz : Int) (w : World) (he : Env w) (hl : zs.length = n) (hmax : n ≤ maxLen) (hcap : n ≤ cap) (hc : HasAc zs p w) (hiz : (Lit.int .i64 iz).wf = true) :
    Calls Tryd.prog 6 #[.slice p n cap, .int .i64 iz] w fun e w' => e = .returned (.bool true) ∧ Below w.heap.size w w' := by
  obtain ⟨i0, hi0, hz0, hz1, hz2⟩ := infoAct_parts infoAct
  go_enter Tryd.func6, Tryd.ntmps6
  go_wp2_with fail
  refine (schedFact_ok _ he).mono ?_
  rintro e w1 ⟨rfl, hB1⟩
  have hc1 := hc.later hB1
  by_cases h0 : acd zs = 0
  · obtain ⟨s, rfl, hk⟩ := acd_get h0
    rw [az_len] at hl
    have hn24 : n ≤ 24 := hl ▸ hk.len
    clear hmax h0
    go_wp2_with fail
    refine (edges_ok s p n cap w1 hl hk hcap hc1).mono ?_
    rintro e w2 ⟨A, rfl, hrow, hA, hB2⟩
    have hc2 := hc1.later hB2
    have hC2 := bel_on hB1 hB2
    have hI2 : HasI (ints (M.edR s)) (some ⟨A, 0, none⟩) w2 := RowAt.hasI hrow
    clear hc hc1 hB1 hB2 hrow hA
    go_wp2_with fail
    go_cut [74] from 24 to 74 (fun u w' => u = .bool (swSk s iz) ∧ Below w2.heap.size w2 w')
    case first =>
      have hB0 : ∀ m, Below w2.heap.size w2 (w2.drewN m) := fun m => below_drewN w2 m
      by_cases h1 : iz < 1
      · have d1 : decide (iz < 1) = true := decide_eq_true h1
        have HQ : Hid (swSk s iz = true) := by show _ = _; unfold swSk; rw [d1]; rfl
        clear h1 hiz
        go_wp2_with fail
        go_big_quiet (fail)
        go_wp2_with fail
        go_meet
        exact ⟨by rw [HQ.out], hB0 _⟩
      · have d1 : decide (iz < 1) = false := decide_eq_false h1
        by_cases h2 : (n : Int) ≤ iz
        · have d2 : decide ((n : Int) ≤ iz) = true := decide_eq_true h2
          have HQ : Hid (swSk s iz = true) := by show _ = _; unfold swSk; rw [hl, d1, d2]; rfl
          clear h1 h2 hiz
          go_wp2_with fail
          go_big_quiet (fail)
          go_wp2_with fail
          go_meet
          exact ⟨by rw [HQ.out], hB0 _⟩
        · obtain ⟨i, rfl⟩ : ∃ i : Nat, iz = i := ⟨iz.toNat, by omega⟩
          have d2 : decide ((n : Int) ≤ (i : Int)) = false := decide_eq_false h2
          have d3 : decide (n ≤ i) = false := decide_eq_false (by omega)
          have d1' : decide (i < 1) = false := decide_eq_false (by omega)
          obtain ⟨i1, hi1⟩ : ∃ i1 : Nat, i = i1 + 1 := ⟨i - 1, by omega⟩
          have hin : i < n := by omega
          have hi1' : (i : Int) - 1 = (i1 : Int) := by omega
          have hsk : swSk s (i : Int) = ((M.sat s i).tx == (M.sat s i1).tx || M.clash (M.sat s i1) (M.sat s i)) := by
            unfold swSk; rw [hl, d1, d2, Int.toNat_natCast, show i - 1 = i1 by omega]; rfl
          obtain ⟨b, off, rfl, hop⟩ := hc2 i (by rw [az_len]; omega)
          obtain ⟨_, _, e0, hop1⟩ := hc2 i1 (by rw [az_len]; omega)
          cases e0
          rw [aAt_az] at hop hop1
          have w1b := hk.wr i
          have w2b := hk.wr i1
          obtain ⟨⟨T, I, W⟩, ha⟩ : ∃ a, M.sat s i = a := ⟨_, rfl⟩
          obtain ⟨⟨T1, I1, W1⟩, ha1⟩ : ∃ a, M.sat s i1 = a := ⟨_, rfl⟩
          rw [ha] at hop hsk w1b
          rw [ha1] at hop1 hsk w2b
          obtain ⟨hb, k0, k1, k2⟩ := hop
          obtain ⟨_, f0, f1, f2⟩ := hop1
          simp only [azN] at k0 k1 k2 f0 f1 f2
          simp only [M.clash] at hsk w1b w2b
          have hii : (i : Int) < (n : Int) := by omega
          have hii1 : (i1 : Int) < (n : Int) := by omega
          clear ha ha1 h1 h2 hiz hc2 hI2
          by_cases g1 : T = T1
          · have e1 : ((T : Int) == (T1 : Int)) = true := by rw [g1]; exact beq_self_eq_true _
            have HQ : Hid (swSk s (i : Int) = true) := by show _ = _; rw [hsk, g1]; simp
            clear hsk g1 hi1
            go_wp2_with fail
            go_big_quiet (fail)
            go_wp2_with fail
            go_meet
            exact ⟨by rw [HQ.out], hB0 _⟩
          · have e1 : ((T : Int) == (T1 : Int)) = false := by simpa using (by omega : ¬ (T : Int) = (T1 : Int))
            by_cases g2 : I = I1
            · have e2 : ((I : Int) == (I1 : Int)) = true := by rw [g2]; exact beq_self_eq_true _
              by_cases g3 : 0 < W + W1
              · have e3 : decide ((0 : Int) < (W : Int) + (W1 : Int)) = true := decide_eq_true (by omega)
                have e3' : decide (0 < W + W1) = true := decide_eq_true g3
                have HQ : Hid (swSk s (i : Int) = true) := by
                  show _ = _; rw [hsk, g2]; simp; omega
                clear hsk g1 g2 g3 hi1
                go_wp2_with fail
                go_big_quiet (fail)
                go_wp2_with fail
                go_meet
                exact ⟨by rw [HQ.out], hB0 _⟩
              · have e3 : decide ((0 : Int) < (W : Int) + (W1 : Int)) = false := decide_eq_false (by omega)
                have e3' : decide (0 < W + W1) = false := decide_eq_false g3
                have HQ : Hid (swSk s (i : Int) = false) := by
                  show _ = _; rw [hsk]; simp [g1]; omega
                clear hsk g1 g2 g3 hi1
                go_wp2_with fail
                go_big_quiet (fail)
                go_wp2_with fail
                go_meet
                exact ⟨by rw [HQ.out], hB0 _⟩
            · have e2 : ((I : Int) == (I1 : Int)) = false := by simpa using (by omega : ¬ (I : Int) = (I1 : Int))
              have HQ : Hid (swSk s (i : Int) = false) := by
                show _ = _; rw [hsk]; simp [g1]; omega
              clear hsk g1 g2 hi1
              go_wp2_with fail
              go_big_quiet (fail)
              go_wp2_with fail
              go_meet
              exact ⟨by rw [HQ.out], hB0 _⟩
    case rest =>
      obtain ⟨rfl, hBc⟩ := hcut
      have hcc := hc2.later hBc
      have hIc := hI2.later hBc
      have hCc := bel_on hC2 hBc
      clear hc2 hI2 hBc hC2
      cases hsk : swSk s iz with
      | true =>
        clear hsk hiz
        go_wp2_with fail
        go_ret
        exact ⟨rfl, hCc⟩
      | false =>
        obtain ⟨h1, h2, hcl⟩ := swSk_no hsk
        obtain ⟨i, rfl⟩ : ∃ i : Nat, iz = i := ⟨iz.toNat, by omega⟩
        obtain ⟨i1, hi1⟩ : ∃ i1 : Nat, i = i1 + 1 := ⟨i - 1, by omega⟩
        have hin : i < n := by omega
        have hi1' : (i : Int) - 1 = (i1 : Int) := by omega
        have hii : (i : Int) < (n : Int) := by omega
        have hii1 : (i1 : Int) < (n : Int) := by omega
        rw [Int.toNat_natCast] at hcl
        have HED : Hid (M.edR (M.swK s i) = M.edR s) := M.edR_congr (M.swap_edges (by omega) (by omega) hcl)
        have HKO : Hid (M.AOk (M.swK s i)) := swK_aok hk (by omega) (by omega)
        have HLN : Hid ((M.swK s i).length = n) := by show _ = _; rw [M.swK_length]; exact hl
        have hsw : M.swK s i = (s.set i (M.sat s i1)).set i1 (M.sat s i) := by unfold M.swK; rw [show i - 1 = i1 by omega]
        obtain ⟨b, off, rfl, hop⟩ := hcc i (by rw [az_len]; omega)
        obtain ⟨_, _, e0, hop1⟩ := hcc i1 (by rw [az_len]; omega)
        cases e0
        rw [aAt_az] at hop hop1
        have HNW : Hid (∀ (j : Nat) (v : Value), (acells s)[j]? = some v → wc.cell? ((⟨b, off, none⟩ : Addr).add j) = some v) := hasAc_cells hcc
        obtain ⟨x, hx⟩ : ∃ a, M.sat s i = a := ⟨_, rfl⟩
        obtain ⟨y, hy⟩ : ∃ a, M.sat s i1 = a := ⟨_, rfl⟩
        rw [hx] at hop hsw
        rw [hy] at hop1 hsw
        have HSW : Hid (M.swK s i = (s.set i y).set i1 x) := hsw
        have HX : Hid (AcAt (azN x) b (off + i * 3) wc) := hop
        have HY : Hid (AcAt (azN y) b (off + i1 * 3) wc) := hop1
        have HCL : Hid ((acells s).length = n * 3) := by show _ = _; rw [acells_len, hl]
        have H1C : Hid (∀ v ∈ acells s, v.oneCell' = true) := acells_one s
        have HHC : Hid (HasAc (az s) (some ⟨b, off, none⟩) wc) := hcc
        have HI : Hid (HasI (ints (M.edR s)) (some ⟨A, 0, none⟩) wc) := hIc
        have HC : Hid (Below w.heap.size w wc) := hCc
        clear hsk h1 h2 hcl hi1 hsw hx hy hop hop1 hcc hIc hCc hiz
        go_wp2_with (at_builtin; refine wpList_append_own _ rfl _ _ 22 rfl wc.heap.size 45 i0 (.agg #[.int .i64 0, .int .i64 0, .int .i64 0]) 3 24 Tryd.underlying22 hi0 hz0 hz1 hz2 rfl (by decide) _ _ _ rfl (World.ownsRow_nil _ _ _ _) ⟨b, off, none⟩ n cap (acells s) rfl HCL.out HNW.out H1C.out (by unfold maxLen; omega) (by omega) (by omega) ?_; intro v' w3 hown' hgrow _; have hB3 : Below wc.heap.size wc w3 := (Below.refl _ _).grown hgrow (Nat.le_refl _) (fun j e => by cases e); have ho3 : w3.ownsRow wc.heap.size 45 3 v' n (acells s) := (by simpa using hown'); obtain ⟨g, cp, e3, hg1, hg2, hgc, hg3, hg4⟩ := owns_openA hl ho3 (by omega); subst e3; obtain ⟨⟨_, q0, q1, q2⟩, r0, r1, r2⟩ := hg3 i hin; have ho4 := hg4 i y hin; obtain ⟨g', cp', e4, hg1', hg2', _, hg3', hg4'⟩ := owns_openA (by rw [List.length_set]; exact hl) ho4 (by omega); cases e4; obtain ⟨⟨_, q3, q4, q5⟩, r3, r4, r5⟩ := hg3' i1 (by omega); have ho5 := hg4' i1 x (by omega); have hB4 : Below wc.heap.size wc (setA w3 g i y) := setA_below hB3 hg1 i y; have HB5 : Hid (Below wc.heap.size wc (setA (setA w3 g i y) g i1 x)) := setA_below hB4 hg1 i1 x; obtain ⟨hb3, s0, s1, s2⟩ := HY.out.later hB3 HY.out.lt; obtain ⟨_, s3, s4, s5⟩ := HX.out.later hB4 HX.out.lt; rw [← HSW.out] at ho5; have HO5 : Hid (World.ownsRow _ _ _ _ _ _ _) := ho5; have HC3 : Hid (n ≤ cp) := hgc; simp only [azN] at s0 s1 s2 s3 s4 s5; clear hown' hgrow ho3 hg3 hg4 ho4 hg3' hg4' ho5 hB3 hB4)
        clear q0 q1 q2 q3 q4 q5 r0 r1 r2 r3 r4 r5 s0 s1 s2 s3 s4 s5
        have hB5 := HB5.out
        have hA5 := hasAc_of_owns HLN.out HO5.out
        have hI5 := HI.out.later hB5
        have hC5 := bel_on HC.out hB5
        obtain ⟨w5, hw5⟩ : ∃ w5, setA (setA w3 g i y) g i1 x = w5 := ⟨_, rfl⟩
        rw [hw5] at hB5 hA5 hI5 hC5
        unfold setA at hw5
        rw [hw5]
        clear HB5 HO5
        refine (edges_ok (M.swK s i) _ n cp w5 HLN.out HKO.out HC3.out hA5).mono ?_
        rw [HED.out]
        rintro e w6 ⟨A6, rfl, hrow6, hA6, hB6⟩
        have hI6 := hI5.later hB6
        have hC6 := bel_on hC5 hB6
        have hJ6 : HasI (ints (M.edR s)) (some ⟨A6, 0, none⟩) w6 := RowAt.hasI hrow6
        clear hw5 hB5 hA5 hI5 hC5 hrow6 hA6 hB6
        go_wp2_with fail
        refine (same_intsI (ints (M.edR s)) _ _ 5 5 5 _ (by rw [ints_length, M.edR_len]) (by unfold maxLen; omega) hI6 hJ6).mono ?_
        rintro e w7 ⟨rfl, hB7⟩
        have HB : Hid (Below w.heap.size w w7) := bel_on hC6 hB7
        clear hI6 hJ6 hC6 hB7
        go_wp2_with fail
        go_ret
        exact ⟨rfl, HB.out⟩
  · have hne := h0
    refine ?_
    have hcall := edges_err zs p n cap w1 hl hmax hc1 hne
    rw [terr_ne hne] at hcall
    clear h0 hne hiz
    go_wp2_with fail
    refine hcall.mono ?_
    rintro e w2 ⟨rfl, hB2⟩
    have HB : Hid (Below w.heap.size w w2) := bel_on hB1 hB2
    clear hcall hB1 hB2
    go_wp2_with fail
    go_ret
    exact ⟨rfl, HB.out⟩
end Go.Proofs.YtkkccafobfdjbaaDoor
