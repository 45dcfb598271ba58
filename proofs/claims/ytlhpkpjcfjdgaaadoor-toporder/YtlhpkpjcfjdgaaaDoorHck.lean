/- What is wrong with a trace and the times at its events (package hybrid, Check); what lay in memory lies as it lay. -/
import Derived.Test.YtlhpkpjcfjdgaaaDoorRwz
namespace Go.Proofs.YtlhpkpjcfjdgaaaDoor
open Go.RowKit
namespace M
/-- all of the first k times may be -/
def tmTo (zs : List Int) : Nat → Bool
  | 0 => true
  | k + 1 => tmTo zs k && decide (0 ≤ zs[k]?.getD 0 ∧ zs[k]?.getD 0 ≤ 1000000)
theorem tmTo_iff (zs : List Int) (n : Nat) : tmTo zs n = true ↔ ∀ k, k < n → 0 ≤ zs[k]?.getD 0 ∧ zs[k]?.getD 0 ≤ 1000000 := by
  induction n with
  | zero => simp [tmTo]
  | succ n ih =>
    simp only [tmTo, Bool.and_eq_true, decide_eq_true_eq, ih]
    constructor
    · rintro ⟨h1, h2⟩ k hk
      by_cases e : k = n
      · subst e; exact h2
      · exact h1 k (by omega)
    · exact fun h => ⟨fun k hk => h k (by omega), h n (by omega)⟩
/-- what is wrong with a trace and times -/
def hcode (P : Int) (T : List (Int × Int)) (zs : List Int) : Nat := if tcode P T ≠ 0 then tcode P T else if zs.length ≠ T.length then 3 else if tmTo zs zs.length = true then 0 else 1
structure HOk (P : Int) (T : List (Int × Int)) (zs : List Int) : Prop where
  tr : TOk P T
  len : zs.length = T.length
  rng : ∀ k, k < T.length → 0 ≤ zs[k]?.getD 0 ∧ zs[k]?.getD 0 ≤ 1000000
theorem hcode_zero {P : Int} {T : List (Int × Int)} {zs : List Int} : hcode P T zs = 0 ↔ HOk P T zs := by
  unfold hcode
  constructor
  · intro h
    split at h
    · rename_i h1; exact absurd h h1
    · rename_i h1
      split at h
      · omega
      · rename_i h2
        split at h
        · rename_i h3
          exact ⟨tcode_zero.1 (by simpa using h1), by simpa using h2, fun k hk => (tmTo_iff zs _).1 h3 k (by omega)⟩
        · omega
  · intro h
    rw [if_neg (fun e => e (tcode_zero.2 h.tr)), if_neg (fun e => e h.len), if_pos ((tmTo_iff zs _).2 (fun k hk => h.rng k (by have := h.len; omega)))]
theorem tmTo_false {zs : List Int} {k n : Nat} (hk : k < n) (h : ¬ (0 ≤ zs[k]?.getD 0 ∧ zs[k]?.getD 0 ≤ 1000000)) : ¬ tmTo zs n = true := fun e => h ((tmTo_iff zs n).1 e k hk)
theorem HOk.tm {P : Int} {T : List (Int × Int)} {zs : List Int} (h : HOk P T zs) {k : Nat} (hk : k < T.length) : zs[k]?.getD 0 = (tm zs k : Nat) := by
  unfold M.tm
  have := h.rng k hk
  omega
theorem HOk.tmB {P : Int} {T : List (Int × Int)} {zs : List Int} (h : HOk P T zs) : ∀ k, k < T.length → M.tm zs k ≤ 1000000 := fun k hk => by
  unfold M.tm
  have := h.rng k hk
  omega
end M
set_option maxRecDepth 100000 in
set_option maxHeartbeats 2000000 in
theorem hcheck_ok (P : Int) (T : List (Int × Int)) (p : Option Addr) (n cap : Nat) (zs : List Int) (q : Option Addr) (m cap2 : Nat) (w : World) (hl : T.length = n) (hmax : n ≤ maxLen) (hc : HasE T p w) (hl2 : zs.length = m) (hmax2 : m ≤ maxLen) (hz : HasI zs q w) :
    Calls Tryd.prog 66 #[trV P p n cap, .slice q m cap2] w fun e w' => e = .returned (terr (M.hcode P T zs)) ∧ Below w.heap.size w w' := by
  have hB0 : Below w.heap.size w (w.alloc (.cells #[.int .i64 P, .slice p n cap] 24)) := (Below.refl _ _).alloc (Nat.le_refl _) _
  have hcb := hc.later hB0
  by_cases h1 : M.tcode P T ≠ 0
  · have e : M.hcode P T zs = M.tcode P T := if_pos h1
    rw [e]
    obtain ⟨c, hcc⟩ : ∃ c, M.tcode P T = c := ⟨_, rfl⟩
    rw [hcc] at h1 ⊢
    go_enter Tryd.func66, Tryd.ntmps66
    go_wp2_with fail
    refine (check_tr P T p n cap _ hl hmax hcb).mono ?_
    rw [hcc, terr_ne h1]
    rintro e w1 ⟨rfl, hB1⟩
    go_wp2_with fail
    go_ret
    exact ⟨by rw [terr_ne h1]; rfl, bel_on hB0 hB1⟩
  have h1 : M.tcode P T = 0 := Decidable.not_not.1 h1
  have hbox := tbox_new w P p n cap
  by_cases h2 : m ≠ n
  · have e : M.hcode P T zs = 3 := by unfold M.hcode; rw [if_neg (fun e => e h1), if_pos (by omega)]
    rw [e]
    have hmn : ((m : Int) != (n : Int)) = true := by simp; omega
    go_enter Tryd.func66, Tryd.ntmps66
    go_wp2_with fail
    refine (check_tr P T p n cap _ hl hmax hcb).mono ?_
    rw [h1, terr_zero]
    rintro e w1 ⟨rfl, hB1⟩
    have hk2 := (hbox.later hB1 (by simp)).events
    go_wp2_with fail
    go_ret
    exact ⟨rfl, bel_on hB0 hB1⟩
  obtain rfl : m = n := Decidable.not_not.1 h2
  clear h2
  have e : M.hcode P T zs = if M.tmTo zs m = true then 0 else 1 := by unfold M.hcode; rw [if_neg (fun e => e h1), if_neg (by omega), hl2]
  have HC : Hid (M.hcode P T zs = if M.tmTo zs m = true then 0 else 1) := e
  clear e
  unfold maxLen at hmax2
  go_enter Tryd.func66, Tryd.ntmps66
  go_wp2_with fail
  refine (check_tr P T p m cap _ hl hmax hcb).mono ?_
  rw [h1, terr_zero]
  rintro e w1 ⟨rfl, hB1⟩
  have hk2 := (hbox.later hB1 (by simp)).events
  have hB2 := bel_on hB0 hB1
  have hz2 := hz.later hB2
  clear hB0 hB1 hbox hcb hc hz
  go_wp2_with fail
  go_loopw [22] (fun v wr => ∃ i : Nat, v = .int .i64 i ∧ i ≤ m ∧ Hid (M.tmTo zs i = true) ∧ Below w1.heap.size w1 wr) (fun v _ => m - (intOf v).toNat)
  case atStart => exact ⟨0, rfl, Nat.zero_le _, show M.tmTo zs 0 = true from rfl, Below.refl _ _⟩
  case round =>
    clear hk2
    obtain ⟨i, rfl, hi, hz, hB⟩ := hrel
    by_cases hlt : i < m
    · obtain ⟨z, hze⟩ : ∃ z, zs[i]?.getD 0 = z := ⟨_, rfl⟩
      obtain ⟨b, off, rfl, hb, hc1⟩ := (hz2.later hB).at_ (show i < zs.length by omega) hze
      have HZ : Hid (zs[i]?.getD 0 = z) := hze
      clear hze
      by_cases hz0 : z < 0
      · have hne : ¬ M.tmTo zs m = true := M.tmTo_false hlt (by rw [HZ.out]; omega)
        have HE : Hid (M.hcode P T zs = 1) := by show _ = _; rw [HC.out, if_neg hne]
        have hd : decide (z < 0) = true := decide_eq_true hz0
        clear hne
        go_wp2_with fail
        go_ret
        exact ⟨by rw [HE.out]; rfl, bel_on hB2 hB⟩
      · by_cases hzm : z > 1000000
        · have hne : ¬ M.tmTo zs m = true := M.tmTo_false hlt (by rw [HZ.out]; omega)
          have HE : Hid (M.hcode P T zs = 1) := by show _ = _; rw [HC.out, if_neg hne]
          have hd : decide (z < 0) = false := decide_eq_false hz0
          have hd2 : decide (1000000 < z) = true := decide_eq_true hzm
          clear hne
          go_wp2_with fail
          go_ret
          exact ⟨by rw [HE.out]; rfl, bel_on hB2 hB⟩
        · have hd : decide (z < 0) = false := decide_eq_false hz0
          have hd2 : decide (1000000 < z) = false := decide_eq_false hzm
          have HN : Hid (M.tmTo zs (i + 1) = true) := by
            show M.tmTo zs (i + 1) = true
            simp only [M.tmTo, hz.out, Bool.true_and, HZ.out, decide_eq_true_eq]
            omega
          go_wp2_with fail
          go_roundw
          case rel => exact ⟨i + 1, by go_num, by omega, HN, hB⟩
          case measure => simp [intOf]; omega
    · obtain rfl : i = m := by omega
      go_wp2_with fail
      go_ret
      exact ⟨by rw [HC.out, if_pos hz.out]; rfl, bel_on hB2 hB⟩
end Go.Proofs.YtlhpkpjcfjdgaaaDoor
