/- NEIGHBOURS THAT MAY CHANGE PLACES DO (law FoldSwaps), the walk. -/
import Derived.Test.YtbacngbcnkikiaaDoorFofc
import Derived.Test.YtbacngbcnkikiaaDoorAppAny
import Derived.Test.YtbacngbcnkikiaaDoorRefBig
namespace Go.Proofs.YtbacngbcnkikiaaDoor
open Go.RowKit
theorem swp_same {F u : List Nat} (hF : FOk F) (hU : WOk F u) {i : Nat} (h1 : 1 ≤ i) (h : i < u.length) (hV : WOk F (M.swp u i)) : sameW F u (M.swp u i) = (M.row u i == M.row u (i - 1) || M.fr F (M.row u i) (M.row u (i - 1))) := by
  rw [Bool.eq_iff_iff, sameW_iff hF hU hV, M.swp_iff hF.fr h1 h, Bool.or_eq_true, beq_iff_eq]
theorem swp_ok {F u : List Nat} (hU : WOk F u) {i : Nat} (h1 : 1 ≤ i) (h : i < u.length) : WOk F (M.swp u i) := by
  refine ⟨by rw [M.swp_length]; exact hU.len, fun x hx => ?_⟩
  rw [M.swp_is h1 h] at hx
  simp only [List.mem_append, List.mem_cons, List.not_mem_nil, or_false] at hx
  rcases hx with (hx | hx | hx) | hx
  · exact hU.lt x (List.mem_of_mem_take hx)
  · rw [hx]; exact hU.row h
  · rw [hx]; exact hU.row (by omega)
  · exact hU.lt x (List.mem_of_mem_drop hx)
theorem sameW_self (F u : List Nat) : sameW F u u = true := by unfold sameW; simp
set_option maxRecDepth 100000 in
set_option maxHeartbeats 4000000 in
theorem fw_walk (zs : List Int) (p : Option Addr) (n cap : Nat) (ws : List Int) (q : Option Addr) (m cap2 : Nat) (iz : Int) (w : World) (he : Env w) (hl : zs.length = n) (hmax : n ≤ maxLen) (hc : HasI zs p w) (_ : ∀ k : Nat, zs[k]?.getD 0 < 9223372036854775808) (hl2 : ws.length = m) (hmax2 : m ≤ maxLen) (hd : HasI ws q w) (_ : ∀ k : Nat, ws[k]?.getD 0 < 9223372036854775808) (hiz : (Lit.int .i64 iz).wf = true) :
    Calls Tryd.prog 4 #[.slice p n cap, .slice q m cap2, .int .i64 iz] w fun e w' => e = .returned (.bool true) ∧ Below w.heap.size w w' := by
  obtain ⟨i0, hi0, hzz⟩ := Option.map_eq_some_iff.1 infoInt
  simp only [Prod.mk.injEq] at hzz
  obtain ⟨hz0, hz1, hz2⟩ := hzz
  go_enter Tryd.func4, Tryd.ntmps4
  go_wp2_with fail
  refine (foldFact_ok _ he).mono ?_
  rintro e w1 ⟨rfl, hB1⟩
  go_wp2_with fail
  by_cases h0 : wcode zs ws = 0
  · obtain ⟨F, u, rfl, rfl, hF, hU⟩ := wcode_get h0
    rw [ints_length] at hl hl2
    refine (fsame_ok F u u p n cap q m cap2 q m cap2 _ hl (he.later hB1) hF (hc.later hB1) hl2 hU (hd.later hB1) hl2 hU (hd.later hB1)).mono ?_
    rw [sameW_self]
    rintro e w2 ⟨rfl, hB2⟩
    have hC2 := bel_on hB1 hB2
    have hm : m ≤ 24 := hl2 ▸ hU.len
    have hn6 := hF.len
    clear hmax hmax2 h0
    by_cases h1 : iz < 1
    · have d1 : decide (iz < 1) = true := decide_eq_true h1
      clear hiz
      go_wp2_with fail
      go_ret
      exact ⟨rfl, hC2⟩
    · have d1 : decide (iz < 1) = false := decide_eq_false h1
      by_cases h2 : (m : Int) ≤ iz
      · have d2 : decide ((m : Int) ≤ iz) = true := decide_eq_true h2
        clear hiz
        go_wp2_with fail
        go_ret
        exact ⟨rfl, hC2⟩
      · obtain ⟨i, rfl⟩ : ∃ i : Nat, iz = i := ⟨iz.toNat, by omega⟩
        have d2 : decide ((m : Int) ≤ (i : Int)) = false := decide_eq_false h2
        have d3 : decide (m ≤ i) = false := decide_eq_false (by omega)
        have d1' : decide (i < 1) = false := decide_eq_false (by omega)
        obtain ⟨i1, hi1⟩ : ∃ i1 : Nat, i = i1 + 1 := ⟨i - 1, by omega⟩
        have hin : i < m := by omega
        have hi1' : (i : Int) - 1 = (i1 : Int) := by omega
        have hsam := swp_same hF hU (i := i) (by omega) (by omega) (swp_ok hU (by omega) (by omega))
        have hsok := swp_ok hU (i := i) (by omega) (by omega)
        have hsl : (M.swp u i).length = m := by rw [M.swp_length, hl2]
        have hsw : M.swp u i = (u.set i (M.row u i1)).set i1 (M.row u i) := by unfold M.swp; rw [hi1, Nat.add_sub_cancel]
        rw [show i - 1 = i1 by omega] at hsam
        have hri := hU.row (i := i) (by omega)
        have hri1 := hU.row (i := i1) (by omega)
        obtain ⟨b, off, rfl, hb, hci⟩ := (hd.later hC2) i (by rw [ints_length]; omega)
        obtain ⟨b', off', e', hb', hci1⟩ := (hd.later hC2) i1 (by rw [ints_length]; omega)
        cases e'
        rw [ints_get] at hci hci1
        have hnews : ∀ (j : Nat) (v : Value), (icells u)[j]? = some v → w2.cell? ((⟨b, off, none⟩ : Addr).add j) = some v := fun j v hj => by
          have hjm : j < u.length := by have := (List.getElem?_eq_some_iff.1 hj).1; simpa [icells] using this
          obtain ⟨_, _, e', _, hcj⟩ := (hd.later hC2) j (by rw [ints_length]; exact hjm)
          cases e'
          rw [ints_get] at hcj
          rw [addr_add, hcj, ← hj]
          unfold icells M.row
          rw [List.getElem?_map, List.getElem?_eq_getElem hjm]
          rfl
        obtain ⟨c, hcc⟩ : ∃ c, M.row u i = c := ⟨_, rfl⟩
        obtain ⟨d, hdd⟩ : ∃ d, M.row u i1 = d := ⟨_, rfl⟩
        rw [hcc] at hri hci hsam hsw
        rw [hdd] at hri1 hci1 hsam hsw
        have HSW : Hid (M.swp u i = (u.set i d).set i1 c) := hsw
        have HSM : Hid (sameW F u (M.swp u i) = (c == d || M.fr F c d)) := hsam
        have HNW : Hid (∀ (j : Nat) (v : Value), (icells u)[j]? = some v → w2.cell? ((⟨b, off, none⟩ : Addr).add j) = some v) := hnews
        have hii : (i : Int) < (m : Int) := by omega
        have hii1 : (i1 : Int) < (m : Int) := by omega
        have hcln : (icells u).length = m * 1 := by simp [icells, hl2]
        have h1c : ∀ v ∈ icells u, v.oneCell' = true := by simp [icells, Value.oneCell']
        have HRC : Hid (M.row u i = c) := hcc
        have HRD : Hid (M.row u i1 = d) := hdd
        clear hsw hsam hnews hcc hdd h1 h2 hi1 hiz
        have H1C : Hid (∀ v ∈ icells u, v.oneCell' = true) := h1c
        clear h1c
        go_wp2_with (at_builtin; refine wpList_append_own _ rfl _ _ 22 rfl w2.heap.size 3 i0 (.int .i64 0) 1 8 Tryd.underlying22 hi0 hz0 hz1 hz2 rfl (by decide) _ _ _ rfl (World.ownsRow_nil _ _ _ _) ⟨b, off, none⟩ m cap2 (icells u) rfl hcln HNW.out H1C.out (by unfold maxLen; omega) (by omega) (by omega) ?_; intro v' w3 hown' hgrow _; have hB3 : Below w2.heap.size w2 w3 := (Below.refl _ _).grown hgrow (Nat.le_refl _) (fun j e => by cases e); have ho3 : w3.ownsRow w2.heap.size 3 1 v' m (icells u) := (by simpa using hown'); obtain ⟨g, cp, e3, hg1, hg2, hg3, hg4⟩ := owns_open hl2 ho3 (by omega); subst e3; obtain ⟨k1, k2⟩ := hg3 i hin; have ho4 := hg4 i d hin; obtain ⟨g', cp', e4, hg1', hg2', hg3', hg4'⟩ := owns_open (by rw [List.length_set]; exact hl2) ho4 (by omega); cases e4; obtain ⟨k3, k4⟩ := hg3' i1 (by omega); have ho5 := hg4' i1 c (by omega); have hC3 := bel_on hC2 hB3; have hB4 : Below w2.heap.size w2 (w3.setCell ⟨g, i, none⟩ (.int .i64 (d : Nat))) := hB3.setCell (p := ⟨g, i, none⟩) hg1 _; have hB5 : Below w2.heap.size w2 ((w3.setCell ⟨g, i, none⟩ (.int .i64 (d : Nat))).setCell ⟨g, i1, none⟩ (.int .i64 (c : Nat))) := hB4.setCell (p := ⟨g, i1, none⟩) hg1 _; have kci3 := (hB3.cell (p := ⟨b, off + i1, none⟩) hb).trans hci1; have kci4 := (hB4.cell (p := ⟨b, off + i, none⟩) hb).trans hci; have kb3 : b < w3.heap.size := (by omega); rw [← HSW.out] at ho5; have HO5 : Hid (World.ownsRow _ _ _ _ _ _ _) := ho5; have HB5 : Hid (Below _ _ _) := hB5; have HC3 : Hid (Below _ _ _) := hC3; clear hown' hgrow ho3 hg3 hg4 ho4 hg3' hg4' ho5 hB3 hB4 hB5 hC3)
        have hC5 := bel_on hC2 HB5.out
        have hu5 := hasI_of_owns hsl HO5.out
        have hdw := hd.later hC5
        refine (fsame_ok F u (M.swp u i) p n cap _ m cap2 _ m cp _ hl (he.later hC5) hF (hc.later hC5) hl2 hU hdw hsl hsok hu5).mono ?_
        rw [HSM.out]
        rintro e w6 ⟨rfl, hB6⟩
        have hC6 := bel_on hC5 hB6
        obtain ⟨_, _, e', hb6, hci6⟩ := (hd.later hC6) i (by rw [ints_length]; omega)
        cases e'
        obtain ⟨_, _, e', hb7, hcj6⟩ := (hd.later hC6) i1 (by rw [ints_length]; omega)
        cases e'
        obtain ⟨bf, of, rfl, hbf, hcf⟩ := (hc.later hC6) c (by rw [ints_length]; omega)
        rw [ints_get] at hci6 hcj6 hcf
        rw [HRC.out] at hci6
        rw [HRD.out] at hcj6
        have hfl := hF.lt c
        have hbit := fun W => bit_big (M.row F c) d W (by omega) (by omega)
        have hbf2 : (M.row F c).testBit d = M.fr F c d := rfl
        rw [hbf2] at hbit
        obtain ⟨x, hx⟩ : ∃ x, M.row F c = x := ⟨_, rfl⟩
        rw [hx] at hcf hbit
        obtain ⟨t2, ht2⟩ : ∃ t, M.fr F c d = t := ⟨_, rfl⟩
        rw [ht2] at hbit
        obtain ⟨t1, ht1⟩ : ∃ t, (c == d) = t := ⟨_, rfl⟩
        have ht1' : ((c : Int) == (d : Int)) = t1 := by rw [← ht1, Bool.eq_iff_iff]; simp; omega
        rw [ht1, ht2]
        have hcn : (c : Int) < (n : Int) := by omega
        have HC6 : Hid (Below w.heap.size w w6) := hC6
        clear hx hbf2 hfl ht1 ht2 hdw hu5 HO5 HB5 HC3 hC5 hC6 hB6 hci hci1 k1 k2 k3 k4 kci3 kci4 HNW H1C hcln
        cases t1 with
        | true =>
          go_wp2_with fail
          go_big_quiet (fail)
          go_wp2_with fail
          go_ret
          exact ⟨rfl, bel_drN HC6.out _⟩
        | false =>
          go_wp2_with fail
          go_big_quiet ((go_at_call 23; exact Calls.quiet_of_same ((hbit _).mono (fun e w' h => ⟨h.1, h.2.symm⟩))))
          go_wp2_with fail
          go_ret
          exact ⟨by cases t2 <;> rfl, bel_drN HC6.out _⟩
  · obtain ⟨c, hcc⟩ : ∃ c, wcode zs ws = c := ⟨_, rfl⟩
    have hne : c ≠ 0 := by rw [← hcc]; exact h0
    refine (fsame_err zs p n cap ws q m cap2 ws q m cap2 _ hl (he.later hB1) hmax (hc.later hB1) hl2 hmax2 (hd.later hB1) hl2 hmax2 (hd.later hB1) c (by unfold scode; rw [if_neg h0]; exact hcc) hne).mono ?_
    rintro e w2 ⟨rfl, hB2⟩
    have HB : Hid (Below _ _ _) := bel_on hB1 hB2
    clear h0 hne hcc hiz
    unfold errC
    go_wp2_with fail
    go_ret
    exact ⟨rfl, HB.out⟩
end Go.Proofs.YtbacngbcnkikiaaDoor
