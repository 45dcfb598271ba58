/- What is wrong with any history, and whether there is a row (law HistSays), the walk. -/
import Derived.Test.YtcmlkioaclkgnaaDoorRefH7
import Derived.Test.YtcmlkioaclkgnaaDoorRefH1
import Derived.Test.YtcmlkioaclkgnaaDoorHi11
import Derived.Test.YtcmlkioaclkgnaaDoorErr
namespace Go.Proofs.YtcmlkioaclkgnaaDoor
open Go.RowKit

/-- the row that is told -/
def rowZ : Option (List Nat) → List Int
  | some l => ints l
  | none => []
theorem hok_of2 {h : List M.HOp} (h0 : hcd (hz h) = 0) : HOk h := by
  obtain ⟨h2, e, hk⟩ := hcd_get h0
  have hh : ∀ h : List M.HOp, hn (hz h) = h := fun h => by
    induction h with
    | nil => rfl
    | cons a r ih => exact congrArg (a :: ·) ih
  have e2 := congrArg hn e
  rw [hh, hh] at e2
  rwa [e2]
theorem rowZ_len {all : Bool} {h : List M.HOp} {n : Nat} {l : List Nat} (e : M.best all h n 0 (fun _ => 0) = some l) : l.length = n := (M.best_sound e).1
theorem has_nil (w : World) : HasI [] none w := fun _ hj => absurd hj (Nat.not_lt_zero _)
theorem rowZ_le (all : Bool) (h : List M.HOp) (n : Nat) : (rowZ (M.best all h n 0 (fun _ => 0))).length ≤ n := by
  cases hb : M.best all h n 0 (fun _ => 0) with
  | some l => show (ints l).length ≤ n; rw [ints_length, rowZ_len hb]; exact Nat.le_refl _
  | none => exact Nat.zero_le _
theorem goodRow_u (all : Bool) (h : List M.HOp) (p : Option Addr) (n cap : Nat) (w : World) (hl : h.length = n) (hk : HOk h) (hc : HasO (hz h) p w) :
    Calls Tryd.prog 7 #[.slice p n cap, .bool all] w fun e w' => ∃ q m cq, e = .returned (.tuple #[.slice q m cq, .bool (M.best all h n 0 (fun _ => 0)).isSome]) ∧ (rowZ (M.best all h n 0 (fun _ => 0))).length = m ∧ HasI (rowZ (M.best all h n 0 (fun _ => 0))) q w' ∧ Below w.heap.size w w' := by
  have key : ∀ (e : Ending) (w' : World), (∀ l, M.best all h n 0 (fun _ => 0) = some l → ∃ q cq, e = .returned (.tuple #[.slice q n cq, .bool true]) ∧ HasI (ints l) q w') ∧ (M.best all h n 0 (fun _ => 0) = none → e = .returned (.tuple #[.slice none 0 0, .bool false])) ∧ Below w.heap.size w w' →
      ∃ q m cq, e = .returned (.tuple #[.slice q m cq, .bool (M.best all h n 0 (fun _ => 0)).isSome]) ∧ (rowZ (M.best all h n 0 (fun _ => 0))).length = m ∧ HasI (rowZ (M.best all h n 0 (fun _ => 0))) q w' ∧ Below w.heap.size w w' := by
    rintro e w' ⟨h1, h2, h3⟩
    cases hb : M.best all h n 0 (fun _ => 0) with
    | some l =>
      obtain ⟨q, cq, e1, hi⟩ := h1 l hb
      exact ⟨q, n, cq, e1, by show (ints l).length = n; rw [ints_length, rowZ_len hb], hi, h3⟩
    | none => exact ⟨none, 0, 0, h2 hb, rfl, has_nil w', h3⟩
  cases all
  · exact (goodRow_there h p n cap w hl hk hc).mono key
  · exact (goodRow_over h p n cap w hl hk hc).mono key
theorem ans_u {all : Bool} {h : List M.HOp} {n : Nat} {e : Ending} {w w' : World} (a : AnsOk all h n e w w') : ∃ q m cq, e = .returned (.tuple #[.bool (M.best all h n 0 (fun _ => 0)).isSome, .slice q m cq, .nilIface]) ∧ (rowZ (M.best all h n 0 (fun _ => 0))).length = m ∧ HasI (rowZ (M.best all h n 0 (fun _ => 0))) q w' ∧ Below w.heap.size w w' := by
  obtain ⟨v, e1, h1, h2, h3⟩ := a
  cases hb : M.best all h n 0 (fun _ => 0) with
  | some l =>
    obtain ⟨q, cq, rfl, hi⟩ := h1 l hb
    rw [hb] at e1
    exact ⟨q, n, cq, e1, by show (ints l).length = n; rw [ints_length, rowZ_len hb], hi, h3⟩
  | none =>
    obtain rfl := h2 hb
    rw [hb] at e1
    exact ⟨none, 0, 0, e1, rfl, has_nil w', h3⟩
set_option maxRecDepth 100000 in
set_option maxHeartbeats 8000000 in
theorem hy_walk (zs : List Oz) (p : Option Addr) (n cap : Nat) (w : World) (hty : Ety w) (hl : zs.length = n) (hmax : n ≤ maxLen) (hcap : n ≤ cap) (hc : HasO zs p w) :
    Calls Tryd.prog 3 #[.slice p n cap] w fun e w' => e = .returned (.bool true) ∧ Below w.heap.size w w' := by
  have hhist := refHist_ok zs p n cap w hl hmax hc
  by_cases h0 : hcd zs = 0
  · rw [h0] at hhist
    obtain ⟨h, rfl, hk⟩ := hcd_get h0
    rw [hz_len] at hl
    have hL1 := rowZ_le true h n
    have hL2 := rowZ_le false h n
    obtain ⟨R1, hR1⟩ : ∃ R, M.best true h n 0 (fun _ => 0) = R := ⟨_, rfl⟩
    obtain ⟨R2, hR2⟩ : ∃ R, M.best false h n 0 (fun _ => 0) = R := ⟨_, rfl⟩
    rw [hR1] at hL1
    rw [hR2] at hL2
    go_enter Tryd.func3, Tryd.ntmps3
    go_wp2_with fail
    refine hhist.mono ?_
    rintro e w1 ⟨rfl, hB1⟩
    have hc1 := hc.later hB1
    have hch := hcheck_ok (hz h) p n cap w1 (by rw [hz_len]; exact hl) hmax hcap hc1
    rw [h0, terr_zero] at hch
    go_wp2_with fail
    refine hch.mono ?_
    rintro e w2 ⟨rfl, hB2⟩
    have hc2 := hc1.later hB2
    have hC2 := bel_on hB1 hB2
    clear hhist hch hc hc1 hB1 hB2
    go_wp2_with fail
    refine (error_nil w2).mono ?_
    rintro e w3 ⟨rfl, rfl⟩
    go_wp2_with fail
    refine (goodRow_u true h p n cap w2 hl hk hc2).mono ?_
    rw [hR1]
    rintro e w3 ⟨q1, m1, c1, rfl, hm1, hi1, hB3⟩
    have hc3 := hc2.later hB3
    have hC3 := bel_on hC2 hB3
    clear hc2 hC2 hB3
    go_wp2_with fail
    refine (goodRow_u false h p n cap w3 hl hk hc3).mono ?_
    rw [hR2]
    rintro e w4 ⟨q2, m2, c2, rfl, hm2, hi2, hB4⟩
    have hc4 := hc3.later hB4
    have hC4 := bel_on hC3 hB4
    have hj1 := hi1.later hB4
    clear hc3 hC3 hB4 hi1
    go_wp2_with fail
    refine (atomic_ok h p n cap w4 hl hk h0 hcap hc4).mono ?_
    intro e w5 ha
    obtain ⟨q3, m3, c3, rfl, hm3, hi3, hB5⟩ := ans_u ha
    rw [hR1] at hm3 hi3 ⊢
    have hc5 := hc4.later hB5
    have hC5 := bel_on hC4 hB5
    have hk1 := hj1.later hB5
    have hk2 := hi2.later hB5
    obtain rfl : m3 = m1 := by omega
    obtain ⟨r1, hr1⟩ : ∃ r, R1.isSome = r := ⟨_, rfl⟩
    obtain ⟨r2, hr2⟩ : ∃ r, R2.isSome = r := ⟨_, rfl⟩
    obtain ⟨Z1, hZ1⟩ : ∃ Z, rowZ R1 = Z := ⟨_, rfl⟩
    obtain ⟨Z2, hZ2⟩ : ∃ Z, rowZ R2 = Z := ⟨_, rfl⟩
    rw [hZ1] at hm1 hm3 hi3 hk1
    rw [hZ2] at hm2 hk2
    rw [hr1]
    have HR2 : Hid (M.best false h n 0 (fun _ => 0) = R2) := hR2
    have HRR2 : Hid (R2.isSome = r2) := hr2
    have HZ2 : Hid (rowZ R2 = Z2) := hZ2
    have hmx1 : m3 ≤ maxLen := by rw [← hm3, ← hZ1]; omega
    have hmx2 : m2 ≤ maxLen := by rw [← hm2, ← hZ2]; omega
    rw [hr2]
    clear ha hc4 hC4 hB5 hj1 hi2 hR1 hR2 hr1 hr2 hZ1 hZ2 hm1 hL1 hL2
    go_wp2_with fail
    refine (error_nil w5).mono ?_
    rintro e w6 ⟨rfl, rfl⟩
    go_wp2_with fail
    refine (same_intsI Z1 q3 q1 m3 c3 c1 w5 hm3 hmx1 hi3 hk1).mono ?_
    rintro e w6 ⟨rfl, hB6⟩
    have hc6 := hc5.later hB6
    have hC6 := bel_on hC5 hB6
    have hn2 := hk2.later hB6
    clear hc5 hC5 hB6 hk1 hk2 hi3 hm3
    go_wp2_with fail
    refine (weak_ok h p n cap w6 hl hk h0 hcap hc6).mono ?_
    intro e w7 ha
    obtain ⟨q4, m4, c4, rfl, hm4, hi4, hB7⟩ := ans_u ha
    rw [HR2.out] at hm4 hi4 ⊢
    rw [HZ2.out] at hm4 hi4
    rw [HRR2.out]
    obtain rfl : m4 = m2 := by omega
    have hC7 := bel_on hC6 hB7
    have hn3 := hn2.later hB7
    clear ha hc6 hC6 hB7 hn2 hm2
    go_wp2_with fail
    refine (error_nil w7).mono ?_
    rintro e w8 ⟨rfl, rfl⟩
    go_wp2_with fail
    refine (same_intsI Z2 q4 q2 m4 c4 c2 w7 hm4 hmx2 hi4 hn3).mono ?_
    rintro e w8 ⟨rfl, hB8⟩
    have HB : Hid (Below w.heap.size w w8) := bel_on hC7 hB8
    clear hC7 hB8 hi4 hn3
    go_wp2_with fail
    go_ret
    exact ⟨rfl, HB.out⟩
  · obtain ⟨c, hcc⟩ : ∃ c, hcd zs = c := ⟨_, rfl⟩
    rw [hcc] at hhist h0
    have hd0 : ((c : Int) == 0) = false := by simp; omega
    go_enter Tryd.func3, Tryd.ntmps3
    go_wp2_with fail
    refine hhist.mono ?_
    rintro e w1 ⟨rfl, hB1⟩
    have hc1 := hc.later hB1
    have ht1 := hty.later hB1
    have hch := hcheck_ok zs p n cap w1 hl hmax hcap hc1
    rw [hcc, terr_ne h0] at hch
    go_wp2_with fail
    refine hch.mono ?_
    rintro e w2 ⟨rfl, hB2⟩
    have hc2 := hc1.later hB2
    have ht2 := ht1.later hB2
    have hC2 := bel_on hB1 hB2
    clear hhist hch hc hc1 hB1 hB2 hty ht1
    go_wp2_with fail
    refine (error_same (c : Int) w2 ht2).mono ?_
    rintro e w3 ⟨rfl, hB3⟩
    have hc3 := hc2.later hB3
    have ht3 := ht2.later hB3
    have hC3 := bel_on hC2 hB3
    have ha := atomic_err zs p n cap c w3 hl hmax hcap hc3 hcc h0
    rw [terr_ne h0] at ha
    clear hc2 ht2 hC2 hB3
    go_wp2_with fail
    refine ha.mono ?_
    rintro e w4 ⟨rfl, hB4⟩
    have hc4 := hc3.later hB4
    have ht4 := ht3.later hB4
    have hC4 := bel_on hC3 hB4
    clear hc3 ht3 hC3 hB4 ha
    go_wp2_with fail
    refine (error_same (c : Int) w4 ht4).mono ?_
    rintro e w5 ⟨rfl, hB5⟩
    have hc5 := hc4.later hB5
    have ht5 := ht4.later hB5
    have hC5 := bel_on hC4 hB5
    clear hc4 ht4 hC4 hB5
    go_wp2_with fail
    refine (same_intsI [] none none 0 0 0 w5 rfl (Nat.zero_le _) (has_nil _) (has_nil _)).mono ?_
    rintro e w6 ⟨rfl, hB6⟩
    have hc6 := hc5.later hB6
    have ht6 := ht5.later hB6
    have hC6 := bel_on hC5 hB6
    have hb := weak_err zs p n cap c w6 hl hmax hcap hc6 hcc h0
    rw [terr_ne h0] at hb
    clear hc5 ht5 hC5 hB6
    go_wp2_with fail
    refine hb.mono ?_
    rintro e w7 ⟨rfl, hB7⟩
    have ht7 := ht6.later hB7
    have hC7 := bel_on hC6 hB7
    clear hc6 ht6 hC6 hB7 hb
    go_wp2_with fail
    refine (error_same (c : Int) w7 ht7).mono ?_
    rintro e w8 ⟨rfl, hB8⟩
    have hC8 := bel_on hC7 hB8
    clear ht7 hC7 hB8
    go_wp2_with fail
    refine (same_intsI [] none none 0 0 0 w8 rfl (Nat.zero_le _) (has_nil _) (has_nil _)).mono ?_
    rintro e w9 ⟨rfl, hB9⟩
    have HB : Hid (Below w.heap.size w w9) := bel_on hC8 hB9
    clear hC8 hB9 h0 hcc
    go_wp2_with fail
    go_ret
    exact ⟨rfl, HB.out⟩
end Go.Proofs.YtcmlkioaclkgnaaDoor
