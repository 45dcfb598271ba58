/- Whether two lists of numbers are the same (package slices, Equal, and package whensteadsame, Ints, at integers); the least word, and whether two words are the same (package fold, Least, Same); what lay in memory lies as it lay. -/
import Derived.Test.YtejnjokjkinpkaaDoorFo3
namespace Go.Proofs.YtejnjokjkinpkaaDoor
open Go.RowKit

theorem lists_eq {zs ys : List Int} (hl : zs.length = ys.length) (h : ∀ j, j < zs.length → zs[j]?.getD 0 = ys[j]?.getD 0) : zs = ys := by
  apply List.ext_getElem hl
  intro i h1 h2
  have := h i h1
  rwa [List.getElem?_eq_getElem h1, List.getElem?_eq_getElem h2] at this
theorem beq_no {zs ys : List Int} (h : zs ≠ ys) : (zs == ys) = false := by
  cases e : zs == ys with
  | false => rfl
  | true => exact absurd (by simpa using e) h
theorem beq_yes {zs ys : List Int} (h : zs = ys) : (zs == ys) = true := by subst h; simp
set_option maxRecDepth 100000 in
set_option maxHeartbeats 2000000 in
theorem equal_any (zs ys : List Int) (p q : Option Addr) (n m cap cap' : Nat) (w : World) (hl : zs.length = n) (hl2 : ys.length = m) (hmax : n ≤ maxLen) (hmax2 : m ≤ maxLen) (hp : HasI zs p w) (hq : HasI ys q w) :
    Calls Tryd.prog 50 #[.slice p n cap, .slice q m cap'] w fun e w' => e = .returned (.bool (zs == ys)) ∧ Below w.heap.size w w' := by
  unfold maxLen at hmax hmax2
  by_cases hnm : n = m
  · subst hnm
    have g1 : ((n : Int) != (n : Int)) = false := by simp
    go_enter Tryd.func50, Tryd.ntmps50
    go_wp2_with fail
    go_loopw [13] (fun i wr => ∃ k : Nat, k ≤ n ∧ i = .int .i64 k ∧ Hid (∀ j, j < k → zs[j]?.getD 0 = ys[j]?.getD 0) ∧ Below w.heap.size w wr) (fun i _ => n - (intOf i).toNat)
    case atStart => exact ⟨0, Nat.zero_le _, rfl, show ∀ j, j < 0 → _ from fun j hj => absurd hj (Nat.not_lt_zero _), Below.refl _ _⟩
    case round =>
      obtain ⟨k, hk, rfl, hJ, hB⟩ := hrel
      by_cases hlt : k < n
      · obtain ⟨b, off, rfl, hb, hcell⟩ := hp.later hB k (by omega)
        obtain ⟨b', off', rfl, hb', hcell'⟩ := hq.later hB k (by omega)
        obtain ⟨z, hz⟩ : ∃ z, zs[k]?.getD 0 = z := ⟨_, rfl⟩
        obtain ⟨y, hy⟩ : ∃ y, ys[k]?.getD 0 = y := ⟨_, rfl⟩
        rw [hz] at hcell
        rw [hy] at hcell'
        by_cases hzy : z = y
        · have HJ : Hid (∀ j, j < k + 1 → zs[j]?.getD 0 = ys[j]?.getD 0) := fun j hj => by
            by_cases e : j = k
            · subst e; rw [hz, hy]; exact hzy
            · exact hJ.out j (by omega)
          have g2 : (z != y) = false := by simp [hzy]
          clear hz hy hp hq hzy
          go_wp2_with fail
          go_quiet (fail)
          go_wp2_with fail
          go_roundw
          case rel => exact ⟨k + 1, by omega, by go_num, HJ, hB.trans ((below_drewN _ _).mono hB.size)⟩
          case measure => simp [intOf]; omega
        · have HN : Hid ((zs == ys) = false) := beq_no (fun e => hzy (by rw [← hz, ← hy, e]))
          have g2 : (z != y) = true := by simpa using hzy
          have HB : Hid (Below _ _ _) := hB
          clear hz hy hp hq hzy hB
          go_wp2_with fail
          go_quiet (fail)
          go_wp2_with fail
          go_ret
          exact ⟨by rw [HN.out]; rfl, bel_drN HB.out _⟩
      · obtain rfl : k = n := by omega
        have HN : Hid ((zs == ys) = true) := beq_yes (lists_eq (by omega) (by rw [hl]; exact hJ.out))
        clear hp hq
        go_wp2_with fail
        go_ret
        exact ⟨by rw [HN.out]; rfl, hB⟩
  · have HN : Hid ((zs == ys) = false) := beq_no (fun e => hnm (by rw [← hl, ← hl2, e]))
    have g1 : ((n : Int) != (m : Int)) = true := by simp; omega
    have g1' : (n != m) = true := by simpa using hnm
    clear hp hq hnm
    go_enter Tryd.func50, Tryd.ntmps50
    go_wp2_with fail
    go_ret
    exact ⟨by rw [HN.out]; rfl, Below.refl _ _⟩
set_option maxRecDepth 100000 in
set_option maxHeartbeats 2000000 in
theorem eints_any (zs ys : List Int) (p q : Option Addr) (n m cap cap' : Nat) (w : World) (hl : zs.length = n) (hl2 : ys.length = m) (hmax : n ≤ maxLen) (hmax2 : m ≤ maxLen) (hp : HasI zs p w) (hq : HasI ys q w) :
    Calls Tryd.prog 29 #[.slice p n cap, .slice q m cap'] w fun e w' => e = .returned (.bool (zs == ys)) ∧ Below w.heap.size w w' := by
  unfold maxLen at hmax hmax2
  by_cases hnm : n = m
  · subst hnm
    have g1 : ((n : Int) != (n : Int)) = false := by simp
    go_enter Tryd.func29, Tryd.ntmps29
    go_wp2_with fail
    go_loopw [5] (fun i wr => ∃ k : Nat, k ≤ n ∧ i = .int .i64 k ∧ Hid (∀ j, j < k → zs[j]?.getD 0 = ys[j]?.getD 0) ∧ Below w.heap.size w wr) (fun i _ => n - (intOf i).toNat)
    case atStart => exact ⟨0, Nat.zero_le _, rfl, show ∀ j, j < 0 → _ from fun j hj => absurd hj (Nat.not_lt_zero _), Below.refl _ _⟩
    case round =>
      obtain ⟨k, hk, rfl, hJ, hB⟩ := hrel
      by_cases hlt : k < n
      · obtain ⟨b, off, rfl, hb, hcell⟩ := hp.later hB k (by omega)
        obtain ⟨b', off', rfl, hb', hcell'⟩ := hq.later hB k (by omega)
        obtain ⟨z, hz⟩ : ∃ z, zs[k]?.getD 0 = z := ⟨_, rfl⟩
        obtain ⟨y, hy⟩ : ∃ y, ys[k]?.getD 0 = y := ⟨_, rfl⟩
        rw [hz] at hcell
        rw [hy] at hcell'
        by_cases hzy : z = y
        · have HJ : Hid (∀ j, j < k + 1 → zs[j]?.getD 0 = ys[j]?.getD 0) := fun j hj => by
            by_cases e : j = k
            · subst e; rw [hz, hy]; exact hzy
            · exact hJ.out j (by omega)
          have g2 : (z != y) = false := by simp [hzy]
          clear hz hy hp hq hzy
          go_wp2_with fail
          go_quiet (fail)
          go_wp2_with fail
          go_roundw
          case rel => exact ⟨k + 1, by omega, by go_num, HJ, hB.trans ((below_drewN _ _).mono hB.size)⟩
          case measure => simp [intOf]; omega
        · have HN : Hid ((zs == ys) = false) := beq_no (fun e => hzy (by rw [← hz, ← hy, e]))
          have g2 : (z != y) = true := by simpa using hzy
          have HB : Hid (Below _ _ _) := hB
          clear hz hy hp hq hzy hB
          go_wp2_with fail
          go_quiet (fail)
          go_wp2_with fail
          go_ret
          exact ⟨by rw [HN.out]; rfl, bel_drN HB.out _⟩
      · obtain rfl : k = n := by omega
        have HN : Hid ((zs == ys) = true) := beq_yes (lists_eq (by omega) (by rw [hl]; exact hJ.out))
        clear hp hq
        go_wp2_with fail
        go_ret
        exact ⟨by rw [HN.out]; rfl, hB⟩
  · have HN : Hid ((zs == ys) = false) := beq_no (fun e => hnm (by rw [← hl, ← hl2, e]))
    have g1 : ((n : Int) != (m : Int)) = true := by simp; omega
    have g1' : (n != m) = true := by simpa using hnm
    clear hp hq hnm
    go_enter Tryd.func29, Tryd.ntmps29
    go_wp2_with fail
    go_ret
    exact ⟨by rw [HN.out]; rfl, Below.refl _ _⟩

set_option maxHeartbeats 1000000 in
theorem fsame_err (zs : List Int) (p : Option Addr) (n cap : Nat) (vs : List Int) (q : Option Addr) (m cap2 : Nat) (ws : List Int) (q3 : Option Addr) (m3 cap3 : Nat) (w : World) (hl : zs.length = n) (he : Env w) (hmax : n ≤ maxLen) (hc : HasI zs p w) (hl2 : vs.length = m) (hmax2 : m ≤ maxLen) (hd : HasI vs q w) (hl3 : ws.length = m3) (hmax3 : m3 ≤ maxLen) (hf : HasI ws q3 w) (c : Nat) (hcc : scode zs vs ws = c) (hne : c ≠ 0) :
    Calls Tryd.prog 34 #[.slice p n cap, .slice q m cap2, .slice q3 m3 cap3] w fun e w' => e = .returned (.tuple #[.bool false, errC c]) ∧ Below w.heap.size w w' := by
  have HN : Hid (c ≠ 0) := hne
  go_enter Tryd.func34, Tryd.ntmps34
  go_wp2_with fail
  refine (cword_any zs p n cap vs q m cap2 _ hl he hmax hc hl2 hmax2 hd).mono ?_
  rintro e w1 ⟨rfl, hB1⟩
  by_cases h0 : wcode zs vs = 0
  · rw [h0, terr_zero]
    have h2 : wcode zs ws = c := by unfold scode at hcc; rw [if_pos h0] at hcc; exact hcc
    clear hne h0 hcc
    go_wp2_with fail
    refine (cword_any zs p n cap ws q3 m3 cap3 _ hl (he.later hB1) hmax (hc.later hB1) hl3 hmax3 (hf.later hB1)).mono ?_
    rw [h2, terr_ne HN.out]
    rintro e w2 ⟨rfl, hB2⟩
    clear h2
    go_wp2_with fail
    go_ret2
    exact ⟨rfl, bel_on hB1 hB2⟩
  · have h2 : wcode zs vs = c := by unfold scode at hcc; rw [if_neg h0] at hcc; exact hcc
    rw [h2, terr_ne HN.out]
    clear hne h0 hcc h2
    go_wp2_with fail
    go_ret2
    exact ⟨rfl, hB1⟩
theorem ints_beq (a b : List Nat) : (ints a == ints b) = (a == b) := by
  rw [Bool.eq_iff_iff]
  simp only [beq_iff_eq]
  exact ⟨ints_inj, fun h => by rw [h]⟩
/-- are two words the same? -/
def sameW (F v u : List Nat) : Bool := M.lword (M.fr F) F.length v == M.lword (M.fr F) F.length u
theorem sameW_iff {F v u : List Nat} (hF : FOk F) (hV : WOk F v) (hU : WOk F u) : sameW F v u = true ↔ M.Eqv (M.fr F) v u := by
  unfold sameW
  rw [beq_iff_eq]
  exact (M.lword_iff hF.fr hV.lt hU.lt).symm
set_option maxHeartbeats 1000000 in
theorem fsame_ok (F v u : List Nat) (p : Option Addr) (n cap : Nat) (q : Option Addr) (m cap2 : Nat) (q3 : Option Addr) (m3 cap3 : Nat) (w : World) (hl : F.length = n) (he : Env w) (hF : FOk F) (hc : HasI (ints F) p w) (hl2 : v.length = m) (hV : WOk F v) (hd : HasI (ints v) q w) (hl3 : u.length = m3) (hU : WOk F u) (hf : HasI (ints u) q3 w) :
    Calls Tryd.prog 34 #[.slice p n cap, .slice q m cap2, .slice q3 m3 cap3] w fun e w' => e = .returned (.tuple #[.bool (sameW F v u), .nilIface]) ∧ Below w.heap.size w w' := by
  have hm : m ≤ 24 := hl2 ▸ hV.len
  have hm3 : m3 ≤ 24 := hl3 ▸ hU.len
  have hn6 := hF.len
  go_enter Tryd.func34, Tryd.ntmps34
  go_wp2_with fail
  refine (cword_any (ints F) p n cap (ints v) q m cap2 _ (by rw [ints_length]; exact hl) he (by unfold maxLen; omega) hc (by rw [ints_length]; exact hl2) (by unfold maxLen; omega) hd).mono ?_
  rw [wcode_ints hF hV, terr_zero]
  rintro e w1 ⟨rfl, hB1⟩
  go_wp2_with fail
  refine (cword_any (ints F) p n cap (ints u) q3 m3 cap3 _ (by rw [ints_length]; exact hl) (he.later hB1) (by unfold maxLen; omega) (hc.later hB1) (by rw [ints_length]; exact hl3) (by unfold maxLen; omega) (hf.later hB1)).mono ?_
  rw [wcode_ints hF hU, terr_zero]
  rintro e w2 ⟨rfl, hB2⟩
  have hC2 := bel_on hB1 hB2
  go_wp2_with fail
  refine (lof_ok F v p n cap q m cap2 _ hl hF (hc.later hC2) hl2 hV (hd.later hC2)).mono ?_
  rintro e w3 ⟨A, rfl, hr3, hA, hB3⟩
  have hC3 := bel_on hC2 hB3
  go_wp2_with fail
  refine (lof_ok F u p n cap q3 m3 cap3 _ hl hF (hc.later hC3) hl3 hU (hf.later hC3)).mono ?_
  rintro e w4 ⟨B, rfl, hr4, hBA, hB4⟩
  have hC4 := bel_on hC3 hB4
  have hr3' := hr3.below hB4 hr3.lt
  have e1 : (ints (M.lword (M.fr F) n v)).length = m := by rw [ints_length, M.lword_length hF.fr (by rw [← hl]; exact hV.lt), hl2]
  have e2 : (ints (M.lword (M.fr F) n u)).length = m3 := by rw [ints_length, M.lword_length hF.fr (by rw [← hl]; exact hU.lt), hl3]
  go_wp2_with fail
  refine (equal_any _ _ _ _ m m3 m m3 _ e1 e2 (by unfold maxLen; omega) (by unfold maxLen; omega) hr3'.hasI hr4.hasI).mono ?_
  rw [ints_beq]
  have hsw : (M.lword (M.fr F) n v == M.lword (M.fr F) n u) = sameW F v u := by unfold sameW; rw [hl]
  rw [hsw]
  rintro e w5 ⟨rfl, hB5⟩
  have HB : Hid (Below _ _ _) := bel_on hC4 hB5
  clear e1 e2 hsw
  go_wp2_with fail
  go_ret2
  exact ⟨rfl, HB.out⟩
end Go.Proofs.YtejnjokjkinpkaaDoor
