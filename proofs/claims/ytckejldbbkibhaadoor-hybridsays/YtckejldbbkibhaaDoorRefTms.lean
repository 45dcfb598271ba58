/- The document's own answer on what is wrong with a trace and times (package whensteadref2, Times); what lay in memory lies as it lay. -/
import Derived.Test.YtckejldbbkibhaaDoorRefTrc
import Derived.Test.YtckejldbbkibhaaDoorHck
namespace Go.Proofs.YtckejldbbkibhaaDoor
open Go.RowKit

theorem hcode_tr {P : Int} {T : List (Int × Int)} {zs : List Int} {c : Nat} (h : M.tcode P T = c) (hne : c ≠ 0) : M.hcode P T zs = c := by unfold M.hcode; rw [h, if_pos hne]
theorem hcode_len {P : Int} {T : List (Int × Int)} {zs : List Int} (h : M.tcode P T = 0) (hne : zs.length ≠ T.length) : M.hcode P T zs = 3 := by unfold M.hcode; rw [if_neg (fun e => e h), if_pos hne]
theorem hcode_one {P : Int} {T : List (Int × Int)} {zs : List Int} (h : M.tcode P T = 0) (hl : zs.length = T.length) (hne : ¬ M.tmTo zs zs.length = true) : M.hcode P T zs = 1 := by unfold M.hcode; rw [if_neg (fun e => e h), if_neg (fun e => e hl), if_neg hne]
theorem hcode_none {P : Int} {T : List (Int × Int)} {zs : List Int} (h : M.tcode P T = 0) (hl : zs.length = T.length) (hne : M.tmTo zs zs.length = true) : M.hcode P T zs = 0 := by unfold M.hcode; rw [if_neg (fun e => e h), if_neg (fun e => e hl), if_pos hne]
set_option maxRecDepth 100000 in
set_option maxHeartbeats 2000000 in
theorem refTimes_ok (P : Int) (T : List (Int × Int)) (p : Option Addr) (n cap : Nat) (zs : List Int) (q : Option Addr) (m cap2 : Nat) (w : World) (hl : T.length = n) (hmax : n ≤ maxLen) (hc : HasE T p w) (hl2 : zs.length = m) (hmax2 : m ≤ maxLen) (hz : HasI zs q w) :
    Calls Tryd.prog 4 #[trV P p n cap, .slice q m cap2] w fun e w' => e = .returned (.int .i64 (M.hcode P T zs : Nat)) ∧ Below w.heap.size w w' := by
  have hB0 : Below w.heap.size w (w.alloc (.cells #[.int .i64 P, .slice p n cap] 24)) := (Below.refl _ _).alloc (Nat.le_refl _) _
  have hcb := hc.later hB0
  have hbox := tbox_new w P p n cap
  have hmm : m ≤ 2 ^ 63 - 1 := hmax2
  go_enter Tryd.func4, Tryd.ntmps4
  go_wp2_with fail
  refine (refTrace_ok P T p n cap _ hl hmax hcb).mono ?_
  obtain ⟨c, hcc⟩ : ∃ c, M.tcode P T = c := ⟨_, rfl⟩
  rw [hcc]
  rintro e w1 ⟨rfl, hB1⟩
  have hk2 := (hbox.later hB1 (by simp)).events
  have hB2 := bel_on hB0 hB1
  have hz2 := hz.later hB2
  clear hB0 hB1 hbox hcb hc hz
  by_cases hne : c ≠ 0
  · have HC : Hid (M.hcode P T zs = c) := hcode_tr hcc hne
    have g1 : ((c : Int) == 0) = false := by simp; omega
    have g2 : (c == 0) = false := by simpa using hne
    clear hcc hne
    go_wp2_with fail
    go_loopw [5, 6] (fun u v wr => u = .int .i64 c ∧ v = .int .i64 0 ∧ wr = w1) (fun _ _ _ => 0)
    case atStart => exact ⟨rfl, rfl, rfl⟩
    case round =>
      obtain ⟨rfl, rfl, rfl⟩ := hrel
      by_cases h0 : 0 < m
      · have f1 : decide ((0 : Int) < (m : Int)) = true := decide_eq_true (by omega)
        go_wp2_with fail
        go_ret
        exact ⟨by rw [HC.out]; rfl, hB2⟩
      · have f1 : decide ((0 : Int) < (m : Int)) = false := decide_eq_false (by omega)
        go_wp2_with fail
        go_ret
        exact ⟨by rw [HC.out]; rfl, hB2⟩
  obtain rfl : c = 0 := Decidable.not_not.1 hne
  by_cases hmn : m ≠ n
  · have HC : Hid (M.hcode P T zs = 3) := hcode_len hcc (by omega)
    have hmn1 : ((m : Int) != (n : Int)) = true := by simp; omega
    have hmn2 : (m != n) = true := by simpa using hmn
    clear hcc hmn hne
    go_wp2_with fail
    go_loopw [5, 6] (fun u v wr => u = .int .i64 3 ∧ v = .int .i64 0 ∧ wr = w1) (fun _ _ _ => 0)
    case atStart => exact ⟨rfl, rfl, rfl⟩
    case round =>
      obtain ⟨rfl, rfl, rfl⟩ := hrel
      by_cases h0 : 0 < m
      · have f1 : decide ((0 : Int) < (m : Int)) = true := decide_eq_true (by omega)
        go_wp2_with fail
        go_ret
        exact ⟨by rw [HC.out]; rfl, hB2⟩
      · have f1 : decide ((0 : Int) < (m : Int)) = false := decide_eq_false (by omega)
        go_wp2_with fail
        go_ret
        exact ⟨by rw [HC.out]; rfl, hB2⟩
  obtain rfl : m = n := Decidable.not_not.1 hmn
  have HT : Hid (M.tcode P T = 0) := hcc
  have l1 : ((m : Int) != (m : Int)) = false := by simp
  have l2 : (m != m) = false := by simp
  clear hcc hmn hne
  go_wp2_with fail
  go_loopw [5, 6] (fun u v wr => ∃ (i c : Nat), u = .int .i64 c ∧ v = .int .i64 i ∧ i ≤ m ∧ Hid ((c = 0 ∧ M.tmTo zs i = true) ∨ (c = 1 ∧ ¬ M.tmTo zs m = true)) ∧ Below w1.heap.size w1 wr) (fun _ v _ => m - (intOf v).toNat)
  case atStart => exact ⟨0, 0, rfl, rfl, Nat.zero_le _, show (0 = 0 ∧ M.tmTo zs 0 = true) ∨ _ from .inl ⟨rfl, rfl⟩, Below.refl _ _⟩
  case round =>
    clear hk2 l1 l2
    obtain ⟨i, c, rfl, rfl, hi, HD, hB⟩ := hrel
    by_cases hlt : i < m
    · have f1 : decide ((i : Int) < (m : Int)) = true := decide_eq_true (by omega)
      have f2 : decide (i < m) = true := decide_eq_true hlt
      rcases HD.out with ⟨rfl, h2⟩ | ⟨rfl, h2⟩
      · obtain ⟨z, hze⟩ : ∃ z, zs[i]?.getD 0 = z := ⟨_, rfl⟩
        obtain ⟨b, off, rfl, hb, hc1⟩ := (hz2.later hB).at_ (show i < zs.length by omega) hze
        have hiI : (i : Int) < (m : Int) := by omega
        obtain ⟨t, ht⟩ : ∃ t, inB z 0 1000000 = t := ⟨_, rfl⟩
        have hin := fun W => in_is z 0 1000000 t W ht
        cases t with
        | true =>
          have HN : Hid (M.tmTo zs (i + 1) = true) := by
            show M.tmTo zs (i + 1) = true
            simp only [M.tmTo, h2, Bool.true_and, hze]
            exact ht
          clear HD h2 hze ht
          go_wp2_with (go_at_call 12; refine (hin _).mono ?_; rintro e w' ⟨rfl, rfl⟩)
          go_roundw
          case rel => exact ⟨i + 1, 0, rfl, by go_num, by omega, show (0 = 0 ∧ M.tmTo zs (i + 1) = true) ∨ _ from .inl ⟨rfl, HN.out⟩, hB⟩
          case measure => simp [intOf]; omega
        | false =>
          have HN : Hid (¬ M.tmTo zs m = true) := M.tmTo_false hlt (fun h => by rw [hze] at h; rw [inB_true h.1 h.2] at ht; cases ht)
          clear HD h2 hze ht
          go_wp2_with (go_at_call 12; refine (hin _).mono ?_; rintro e w' ⟨rfl, rfl⟩)
          go_roundw
          case rel => exact ⟨i + 1, 1, rfl, by go_num, by omega, show _ ∨ (1 = 1 ∧ ¬ M.tmTo zs m = true) from .inr ⟨rfl, HN.out⟩, hB⟩
          case measure => simp [intOf]; omega
      · have HE : Hid (M.hcode P T zs = 1) := hcode_one HT.out (by omega) (by rw [hl2]; exact h2)
        clear HD h2
        go_wp2_with fail
        go_ret
        exact ⟨by rw [HE.out]; rfl, bel_on hB2 hB⟩
    · obtain rfl : m = i := by omega
      have f1 : decide ((m : Int) < (m : Int)) = false := decide_eq_false (by omega)
      have f2 : decide (m < m) = false := decide_eq_false (by omega)
      rcases HD.out with ⟨rfl, h2⟩ | ⟨rfl, h2⟩
      · have HE : Hid (M.hcode P T zs = 0) := hcode_none HT.out (by omega) (by rw [hl2]; exact h2)
        clear HD h2
        go_wp2_with fail
        go_ret
        exact ⟨by rw [HE.out]; rfl, bel_on hB2 hB⟩
      · have HE : Hid (M.hcode P T zs = 1) := hcode_one HT.out (by omega) (by rw [hl2]; exact h2)
        clear HD h2
        go_wp2_with fail
        go_ret
        exact ⟨by rw [HE.out]; rfl, bel_on hB2 hB⟩
end Go.Proofs.YtckejldbbkibhaaDoor
