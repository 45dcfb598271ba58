/- The document's answer: what is wrong with a schedule (whensteadref3.Acts, Act, in). -/
import Derived.Test.YtkkccafobfdjbaaDoorSc1
namespace Go.Proofs.YtkkccafobfdjbaaDoor
open Go.RowKit

/-- does a number lie between two others? -/
def inY (n lo hi : Int) : Bool := decide (lo ≤ n ∧ n ≤ hi)
set_option maxHeartbeats 400000 in
theorem in3y_ok (n lo hi : Int) (w : World) :
    Calls Tryd.prog 28 #[.int .i64 n, .int .i64 lo, .int .i64 hi] w fun e w' => e = .returned (.bool (inY n lo hi)) ∧ w = w' := by
  by_cases hz : lo ≤ n
  · go_enter Tryd.func28, Tryd.ntmps28
    go_wp2
    go_ret
    exact ⟨bool_ret (by unfold inY; rw [Bool.eq_iff_iff]; simp [hz]), rfl⟩
  · go_enter Tryd.func28, Tryd.ntmps28
    go_wp2
    go_ret
    exact ⟨bool_ret (by unfold inY; rw [eq_comm, decide_eq_false_iff_not]; omega), rfl⟩
theorem iny_thing (n k : Int) : inY n 0 k = thingZ n (k + 1) := by
  unfold inY thingZ
  rw [Bool.eq_iff_iff, decide_eq_true_eq, decide_eq_true_eq]
  omega
theorem aIn_in (o : Az) : aIn o = (inY o.tx 0 4 && inY o.it 0 3 && inY o.wt 0 1) := by
  unfold aIn
  simp only [iny_thing]
  rfl
/-- what is wrong with one -/
def aCd (o : Az) : Nat := if aIn o then 0 else 1
theorem aCd_t {o : Az} (h : aIn o = true) : aCd o = 0 := if_pos h
theorem aCd_f {o : Az} (h : aIn o = false) : aCd o = 1 := if_neg (by rw [h]; simp)
set_option maxRecDepth 100000 in
set_option maxHeartbeats 1000000 in
theorem refAct_ok (o : Az) (w : World) :
    Calls Tryd.prog 23 #[acV o] w fun e w' => e = .returned (.int .i64 ((aCd o : Nat) : Int)) ∧ Below w.heap.size w w' := by
  have hB : Below w.heap.size w (w.alloc (.cells #[.int .i64 o.tx, .int .i64 o.it, .int .i64 o.wt] 45)) := bel_al (Below.refl _ _) _
  have hq := aIn_in o
  cases h1 : inY o.tx 0 4 with
  | false =>
    have HQ : Hid (aCd o = 1) := by refine aCd_f ?_; rw [hq, h1]; rfl
    clear hq
    go_enter Tryd.func23, Tryd.ntmps23
    go_wp2_with (go_at_call 28; refine (in3y_ok _ _ _ _).mono ?_; rintro e w' ⟨rfl, rfl⟩)
    go_ret
    exact ⟨by rw [HQ.out]; rfl, hB⟩
  | true =>
  cases h2 : inY o.it 0 3 with
  | false =>
    have HQ : Hid (aCd o = 1) := by refine aCd_f ?_; rw [hq, h1, h2]; rfl
    clear hq
    go_enter Tryd.func23, Tryd.ntmps23
    go_wp2_with (go_at_call 28; refine (in3y_ok _ _ _ _).mono ?_; rintro e w' ⟨rfl, rfl⟩)
    go_ret
    exact ⟨by rw [HQ.out]; rfl, hB⟩
  | true =>
  cases h3 : inY o.wt 0 1 with
  | false =>
    have HQ : Hid (aCd o = 1) := by refine aCd_f ?_; rw [hq, h1, h2, h3]; rfl
    clear hq
    go_enter Tryd.func23, Tryd.ntmps23
    go_wp2_with (go_at_call 28; refine (in3y_ok _ _ _ _).mono ?_; rintro e w' ⟨rfl, rfl⟩)
    go_ret
    exact ⟨by rw [HQ.out]; rfl, hB⟩
  | true =>
    have HQ : Hid (aCd o = 0) := by refine aCd_t ?_; rw [hq, h1, h2, h3]; rfl
    clear hq
    go_enter Tryd.func23, Tryd.ntmps23
    go_wp2_with (go_at_call 28; refine (in3y_ok _ _ _ _).mono ?_; rintro e w' ⟨rfl, rfl⟩)
    go_ret
    exact ⟨by rw [HQ.out]; rfl, hB⟩
set_option maxRecDepth 100000 in
set_option maxHeartbeats 2000000 in
theorem refActs_ok (zs : List Az) (p : Option Addr) (n cap : Nat) (w : World) (hl : zs.length = n) (hmax : n ≤ maxLen) (hc : HasAc zs p w) :
    Calls Tryd.prog 7 #[.slice p n cap] w fun e w' => e = .returned (.int .i64 ((acd zs : Nat) : Int)) ∧ Below w.heap.size w w' := by
  unfold maxLen at hmax
  by_cases h24 : 24 < n
  · rw [acd_full (by omega)]
    go_enter Tryd.func7, Tryd.ntmps7
    go_wp2_with fail
    go_ret
    exact ⟨rfl, Below.refl _ _⟩
  have hn24 : decide ((24 : Int) < (n : Int)) = false := decide_eq_false (by omega)
  have hl24 : ¬ 24 < zs.length := by omega
  go_enter Tryd.func7, Tryd.ntmps7
  go_wp2_with fail
  go_loopw [3] (fun v wr => ∃ i : Nat, v = .int .i64 i ∧ i ≤ n ∧ Hid (∀ j, j < i → aIn (aAt zs j) = true) ∧ Below w.heap.size w wr) (fun v _ => n - (intOf v).toNat)
  case atStart => exact ⟨0, rfl, Nat.zero_le _, fun j h => absurd h (Nat.not_lt_zero _), Below.refl _ _⟩
  case round =>
    obtain ⟨i, rfl, hi, hz, hB⟩ := hrel
    by_cases hlt : i < n
    · obtain ⟨b, off, rfl, hop⟩ := (hc.later hB) i (by omega)
      obtain ⟨o, ho⟩ : ∃ o, aAt zs i = o := ⟨_, rfl⟩
      rw [ho] at hop
      have HO : Hid (aAt zs i = o) := ho
      obtain ⟨hb, k0, k1, k2⟩ := hop
      have hin : (i : Int) < (n : Int) := by omega
      clear ho hc
      have ha := refAct_ok o wr
      cases hi2 : aIn o with
      | false =>
        have HC : Hid (acd zs = 1) := acd_bad (i := i) hl24 (by omega) (by rw [HO.out]; exact hi2)
        rw [aCd_f hi2] at ha
        clear hi2
        go_wp2_with fail
        refine ha.mono ?_
        rintro e w2 ⟨rfl, hB2⟩
        have hC2 := bel_on hB hB2
        go_wp2_with fail
        go_ret
        exact ⟨by rw [HC.out]; rfl, hC2⟩
      | true =>
        have HN : Hid (∀ j, j < i + 1 → aIn (aAt zs j) = true) := fun j hj => by
          by_cases ej : j = i
          · subst ej; rw [HO.out]; exact hi2
          · exact hz.out j (by omega)
        rw [aCd_t hi2] at ha
        clear hi2
        go_wp2_with fail
        refine ha.mono ?_
        rintro e w2 ⟨rfl, hB2⟩
        have hC2 := bel_on hB hB2
        go_wp2_with fail
        go_roundw
        case rel => exact ⟨i + 1, by go_num, by omega, HN, hC2⟩
        case measure => simp [intOf]; omega
    · obtain rfl : i = n := by omega
      have HC : Hid (acd zs = 0) := acd_good hl24 (fun j hj => hz.out j (by omega))
      go_wp2_with fail
      go_ret
      exact ⟨by rw [HC.out]; rfl, hB⟩
end Go.Proofs.YtkkccafobfdjbaaDoor
