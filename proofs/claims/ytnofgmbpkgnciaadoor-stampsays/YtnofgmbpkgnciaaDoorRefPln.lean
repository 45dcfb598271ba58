/- The document's own plain clocks (package whensteadref2, Plain), at a trace with no fault: the longest row of what happened before; what lay in memory lies as it lay. -/
import Derived.Test.YtnofgmbpkgnciaaDoorRefTbf
import Derived.Test.YtnofgmbpkgnciaaDoorStp
namespace Go.Proofs.YtnofgmbpkgnciaaDoor
open Go.RowKit

theorem mxb_step_yes {x : Nat} {f : Nat → Nat} {j s y : Nat} (hs : s = M.mxb x f j) (hy : f j = y) (hb : x.testBit j = true) (h : s < y) : y = M.mxb x f (j + 1) := by
  simp only [M.mxb]; rw [← hs, hy, if_pos ⟨hb, h⟩]
theorem mxb_step_no {x : Nat} {f : Nat → Nat} {j s y : Nat} (hs : s = M.mxb x f j) (hy : f j = y) (h : ¬ (x.testBit j = true ∧ s < y)) : s = M.mxb x f (j + 1) := by
  simp only [M.mxb]; rw [← hs, hy, if_neg h]
set_option maxRecDepth 100000 in
set_option maxHeartbeats 4000000 in
theorem refPlain_ok (P : Int) (T : List (Int × Int)) (p : Option Addr) (n cap : Nat) (w : World) (hl : T.length = n) (hc : HasE T p w) (hok : M.TOk P T) :
    Calls Tryd.prog 15 #[trV P p n cap] w fun e w' => ∃ q c, e = .returned (.slice q n c) ∧ HasI (ints (M.clocks T)) q w' ∧ Below w.heap.size w w' := by
  have hn : n ≤ 24 := hl ▸ hok.len
  have hB0 : Below w.heap.size w (w.alloc (.cells #[.int .i64 P, .slice p n cap] 24)) := (Below.refl _ _).alloc (Nat.le_refl _) _
  have hcb := hc.later hB0
  obtain ⟨i0, hi0, hz0, hz1, hz2⟩ := info_parts infoInt
  go_enter Tryd.func15, Tryd.ntmps15
  go_wp2_with fail
  refine (refBefore_ok P T p n cap _ hl hcb hok).mono ?_
  rintro e w1 ⟨qb, cb, rfl, hb0, hB1⟩
  have hC1 := bel_on hB0 hB1
  clear hB0 hB1 hcb
  go_wp2_with fail
  go_loopw [4, 5] (fun v c wr => ∃ i : Nat, i ≤ n ∧ c = .int .i64 i ∧ wr.ownsRow w1.heap.size 3 1 v i (icells (M.cks T i)) ∧ Below w1.heap.size w1 wr) (fun _ c _ => n - (intOf c).toNat)
  case atStart => exact ⟨0, Nat.zero_le _, rfl, World.ownsRow_nil _ _ _ _, Below.refl _ _⟩
  case round =>
    obtain ⟨wo, hwo⟩ : ∃ wo, wo = wr := ⟨_, rfl⟩
    subst hwo
    obtain ⟨i, hi, rfl, hown, hB⟩ := hrel
    by_cases hlt : i < n
    · obtain ⟨q, c, rfl⟩ := owns_slice hown
      have hhas := hasI_of_owns (M.cks_length T i) hown
      go_wp2_with fail
      go_loopw [6, 7] (fun u v wr2 => ∃ (j s : Nat), u = .int .i64 s ∧ v = .int .i64 j ∧ j ≤ i ∧ Hid (s = M.mxb (M.bs T i) (M.row (M.cks T i)) j) ∧ s ≤ 24 ∧ Below wo.heap.size wo wr2) (fun _ v _ => i - (intOf v).toNat)
      case atStart => exact ⟨0, 0, rfl, rfl, Nat.zero_le _, show 0 = M.mxb (M.bs T i) (M.row (M.cks T i)) 0 from rfl, by omega, Below.refl _ _⟩
      case round =>
        obtain ⟨j, s, rfl, rfl, hj, hs, hs24, hBs⟩ := hrel
        have hBw := bel_on hB hBs
        by_cases hji : j < i
        · obtain ⟨b1, o1, rfl, hb1l, hcx⟩ := (hb0.later hBw) i (by rw [ints_length, M.before_length]; omega)
          rw [ints_get, M.before_row T (by omega)] at hcx
          obtain ⟨b2, o2, rfl, hb2l, hcy⟩ := (hhas.later hBs) j (by rw [ints_length, M.cks_length]; exact hji)
          rw [ints_get] at hcy
          have hxb : M.bs T i < 16777216 := by have h1 := M.bs_lt T i; have h2 := pow_24 i (by omega); omega
          have hyb : M.row (M.cks T i) j ≤ 24 := by rw [M.cks_row T hji]; have := M.ck_le T j; omega
          have hin : (i : Int) < (n : Int) := by omega
          have hjiI : (j : Int) < (i : Int) := by omega
          obtain ⟨x, hx⟩ : ∃ x, M.bs T i = x := ⟨_, rfl⟩
          obtain ⟨y, hy⟩ : ∃ y, M.row (M.cks T i) j = y := ⟨_, rfl⟩
          have HX : Hid (M.bs T i = x) := hx
          have HY : Hid (M.row (M.cks T i) j = y) := hy
          rw [hx] at hcx hxb
          rw [hy] at hcy hyb
          obtain ⟨t, ht⟩ : ∃ t, x.testBit j = t := ⟨_, rfl⟩
          have hbit : ∀ W, Calls Tryd.prog 31 #[.int .i64 x, .int .i64 j] W fun e w' => e = .returned (.bool t) ∧ W = w' := fun W => by rw [← ht]; exact bit_big x j W (by omega) (by omega)
          have HT : Hid (x.testBit j = t) := ht
          clear hx hy ht
          cases t with
          | true =>
            by_cases hgt : s < y
            · have g1 : decide ((s : Int) < (y : Int)) = true := decide_eq_true (by omega)
              have g2 : decide (s < y) = true := decide_eq_true hgt
              have HS : Hid (y = M.mxb (M.bs T i) (M.row (M.cks T i)) (j + 1)) := mxb_step_yes hs.out HY.out (by rw [HX.out]; exact HT.out) hgt
              clear hgt
              go_wp2_with (go_at_call 31; refine (hbit _).mono ?_; rintro e w' ⟨rfl, rfl⟩)
              go_roundw
              case rel => exact ⟨j + 1, y, rfl, by go_num, by omega, HS, hyb, hBs⟩
              case measure => simp [intOf]; omega
            · have g1 : decide ((s : Int) < (y : Int)) = false := decide_eq_false (by omega)
              have g2 : decide (s < y) = false := decide_eq_false hgt
              have HS : Hid (s = M.mxb (M.bs T i) (M.row (M.cks T i)) (j + 1)) := mxb_step_no hs.out HY.out (fun h => hgt h.2)
              clear hgt
              go_wp2_with (go_at_call 31; refine (hbit _).mono ?_; rintro e w' ⟨rfl, rfl⟩)
              go_roundw
              case rel => exact ⟨j + 1, s, rfl, by go_num, by omega, HS, hs24, hBs⟩
              case measure => simp [intOf]; omega
          | false =>
            have HS : Hid (s = M.mxb (M.bs T i) (M.row (M.cks T i)) (j + 1)) := mxb_step_no hs.out HY.out (fun h => by rw [HX.out, HT.out] at h; cases h.1)
            go_wp2_with (go_at_call 31; refine (hbit _).mono ?_; rintro e w' ⟨rfl, rfl⟩)
            go_roundw
            case rel => exact ⟨j + 1, s, rfl, by go_num, by omega, HS, hs24, hBs⟩
            case measure => simp [intOf]; omega
        · obtain rfl : j = i := by omega
          have hown2 := owns_below hown hBs
          obtain ⟨s1, hs1⟩ : ∃ s1, s + 1 = s1 := ⟨_, rfl⟩
          have hsi : (s : Int) + 1 = (s1 : Int) := by omega
          have HE : Hid (icells (M.cks T (j + 1)) = icells (M.cks T j) ++ [.int .i64 (s1 : Nat)]) := by
            show _ = _
            simp only [M.cks]
            rw [icells_snoc, ← hs.out, hs1]
          clear hs1
          go_wp2_with (at_builtin; refine wpList_append_own _ rfl _ _ 30 rfl w1.heap.size 3 i0 (.int .i64 0) 1 8 Tryd.underlying30 hi0 hz0 hz1 hz2 rfl (by decide) _ _ _ rfl (hown2.alloc _) ⟨wr.heap.size, 0, none⟩ 1 1 [.int .i64 (s1 : Nat)] rfl rfl (cell_one_new _ _ _) (by simp [Value.oneCell']) (by unfold maxLen; omega) (by omega) (by have := hBw.size; simp; omega) ?_; intro v' w5 hown' hgrow _)
          have hB1 : Below w1.heap.size w1 w5 := (hBw.alloc hBw.size _).grown hgrow (by have := hBw.size; simp; omega) (fun j e => (hown2.lt j e).1)
          first | go_roundw | skip
          case rel => exact ⟨j + 1, by omega, by go_num, by rw [HE.out]; exact hown', hB1⟩
          case measure => simp [intOf]; omega
    · obtain rfl : i = n := by omega
      obtain ⟨q, c, rfl⟩ := owns_slice hown
      have hhas := hasI_of_owns (M.cks_length T i) hown
      go_wp2_with fail
      go_ret
      exact ⟨q, c, rfl, by rw [show M.clocks T = M.cks T i by unfold M.clocks; rw [hl]]; exact hhas, bel_on hC1 hB⟩
end Go.Proofs.YtnofgmbpkgnciaaDoor
