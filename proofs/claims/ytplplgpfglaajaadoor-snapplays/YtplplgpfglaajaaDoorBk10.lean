/- Whether all noted, and on each way a mark came (package snap, allNoted). -/
import Derived.Test.YtplplgpfglaajaaDoorBk9
namespace Go.Proofs.YtplplgpfglaajaaDoor
open Go.RowKit
namespace M
/-- process i noted, and on all ways to it a mark came -/
def Nt1 (n : Nat) (b : Bk) (i : Nat) : Prop := 0 ≤ b.no i ∧ ∀ j, j < n → j ≠ i → b.he i j = true
theorem allN_iff (n : Nat) (b : Bk) : AllN n b ↔ ∀ i, i < n → Nt1 n b i :=
  ⟨fun h i hi => ⟨h.1 i hi, fun j hj e => h.2 j i hj hi e⟩, fun h => ⟨fun p hp => (h p hp).1, fun p q hp hq e => (h q hq).2 p hp e⟩⟩
end M
set_option maxRecDepth 100000 in
set_option maxHeartbeats 2000000 in
theorem allNoted_ok {O : Nat → Prop} {S n : Nat} {b : M.Bk} (w : World) (h : BV O S n b w) (hn5 : n ≤ 5) (r : Bool) (hr : r = true ↔ M.AllN n b) :
    Calls Tryd.prog 25 #[.pointer (some ⟨S, 0, none⟩)] w fun e w' => e = .returned (.bool r) ∧ Below w.heap.size w w' := by
  obtain ⟨Pb, v, h1, _⟩ := h
  have hc := h1.procs
  have H1 : Hid (BVr w S Pb v n b) := h1
  have HR : Hid (r = true ↔ M.AllN n b) := hr
  clear h1 hr
  have NO : Hid (∀ i, i < n → ¬ M.Nt1 n b i → r = false) := fun i hi e => by
    cases hh : r with
    | false => rfl
    | true => exact absurd ((M.allN_iff n b).1 (HR.out.1 hh) i hi) e
  have YES : Hid ((∀ i, i < n → M.Nt1 n b i) → r = true) := fun e => HR.out.2 ((M.allN_iff n b).2 e)
  clear HR
  go_enter Tryd.func25, Tryd.ntmps25
  go_wp2_with fail
  go_loopw [11] (fun v wr => ∃ k : Nat, v = .int .i64 k ∧ k ≤ n ∧ Hid (∀ i, i < k → M.Nt1 n b i) ∧ Below w.heap.size w wr) (fun v _ => n - (intOf v).toNat)
  case atStart => exact ⟨0, rfl, Nat.zero_le _, show ∀ j, j < 0 → _ from fun j hj => absurd hj (Nat.not_lt_zero _), Below.refl _ _⟩
  case round =>
    clear hc
    obtain ⟨k, rfl, hk, hJ, hB⟩ := hrel
    by_cases hlt : k < n
    · have hr := H1.out.below hB
      have c0 := hr.mo hlt
      have c1 := hr.no hlt
      have c2 := hr.had hlt
      have hP := hr.ltP
      have hS := hr.ltS
      have hpr := hr.procs
      have hki : (k : Int) < n := by omega
      obtain ⟨z0, hz0⟩ : ∃ z, b.mo k = z := ⟨_, rfl⟩
      obtain ⟨z2, hz2⟩ : ∃ z, (if 0 ≤ b.no k then b.no k else 0) = z := ⟨_, rfl⟩
      rw [hz0] at c0
      rw [hz2] at c2
      clear hr hz0 hz2
      by_cases e : 0 ≤ b.no k
      · rw [decide_eq_true e] at c1
        have HE : Hid (0 ≤ b.no k) := e
        have HB2 : Hid (∀ o, Below w.heap.size w (wr.alloc o)) := fun o => bel_al hB o
        clear e hB
        obtain ⟨wo, hwo⟩ : ∃ wo, wo = wr := ⟨_, rfl⟩
        subst hwo
        go_wp2_with fail
        go_loopw [24] (fun v wr => ∃ j : Nat, v = .int .i64 j ∧ j ≤ n ∧ Hid (∀ i, i < j → i ≠ k → b.he k i = true) ∧ Below w.heap.size w wr) (fun v _ => n - (intOf v).toNat)
        case atStart => exact ⟨0, rfl, Nat.zero_le _, show ∀ j, j < 0 → _ from fun j hj => absurd hj (Nat.not_lt_zero _), HB2.out _⟩
        case round =>
          clear c0 c1 c2 hP hS hpr HB2
          obtain ⟨j, rfl, hj, hI, hB⟩ := hrel
          by_cases hltj : j < n
          · have hji : (j : Int) < n := by omega
            by_cases ejk : j = k
            · subst ejk
              have HI : Hid (∀ i, i < j + 1 → i ≠ j → b.he j i = true) := fun i hi e => hI.out i (by omega) e
              clear hI
              go_wp2_with fail
              go_roundw
              case rel => exact ⟨j + 1, by go_num, by omega, HI, hB⟩
              case measure => simp [intOf]; omega
            · have hc := (H1.out.below hB).marked (q := k) (p := j) (by omega) (by omega)
              have hd : ((j : Int) != (k : Int)) = true := by simp; omega
              have hd' : (j != k) = true := by simp; omega
              have hk5 : (k : Int) < 5 := by omega
              have hj5 : (j : Int) < 5 := by omega
              have EJ : Hid (j ≠ k) := ejk
              clear ejk
              cases hh : b.he k j with
              | true =>
                rw [hh] at hc
                have HI : Hid (∀ i, i < j + 1 → i ≠ k → b.he k i = true) := fun i hi e => by
                  by_cases x : i = j
                  · subst x; exact hh
                  · exact hI.out i (by omega) e
                clear hI hh
                go_wp2_with fail
                go_roundw
                case rel => exact ⟨j + 1, by go_num, by omega, HI, hB⟩
                case measure => simp [intOf]; omega
              | false =>
                rw [hh] at hc
                obtain rfl : r = false := NO.out k hlt (fun x => by have := x.2 j hltj EJ.out; rw [hh] at this; cases this)
                clear hI hh
                go_wp2_with fail
                go_ret
                exact ⟨rfl, hB⟩
          · obtain rfl : n = j := by omega
            have HJ : Hid (∀ i, i < k + 1 → M.Nt1 n b i) := fun i hi => by
              by_cases x : i = k
              · subst x; exact ⟨HE.out, fun j hj e => hI.out j hj e⟩
              · exact hJ.out i (by omega)
            clear hI hJ
            go_wp2_with fail
            go_roundw
            case rel => exact ⟨k + 1, by go_num, by omega, HJ, hB⟩
            case measure => simp [intOf]; omega
      · rw [decide_eq_false e] at c1
        obtain rfl : r = false := NO.out k hlt (fun x => e x.1)
        clear e
        go_wp2_with fail
        go_ret
        exact ⟨rfl, bel_al hB _⟩
    · obtain rfl : n = k := by omega
      obtain rfl : r = true := YES.out hJ.out
      clear hJ
      go_wp2_with fail
      go_ret
      exact ⟨rfl, hB⟩
end Go.Proofs.YtplplgpfglaajaaDoor
