/- ALL IN ONE ROW (law StampRow): whatever the trace, the call returns true; what lay in memory lies as it lay. -/
import Derived.Test.YtnofgmbpkgnciabSfc
import Derived.Test.YtnofgmbpkgnciabSrw
import Derived.Test.YtnofgmbpkgnciabRefBig
namespace Go.Proofs.Ytnofgmbpkgnciab
open Go.RowKit

set_option maxRecDepth 100000 in
set_option maxHeartbeats 4000000 in
theorem srw_walk (P : Int) (T : List (Int × Int)) (p : Option Addr) (n cap : Nat) (w : World) (hl : T.length = n) (hmax : n ≤ maxLen) (hc : HasE T p w) :
    Calls Try.prog 3 #[trV P p n cap] w fun e w' => e = .returned (.bool true) ∧ Below w.heap.size w w' := by
  have hB0 : Below w.heap.size w (w.alloc (.cells #[.int .i64 P, .slice p n cap] 24)) := (Below.refl _ _).alloc (Nat.le_refl _) _
  have hbox := tbox_new w P p n cap
  obtain ⟨wb, hwb⟩ : ∃ wb, w.alloc (.cells #[.int .i64 P, .slice p n cap] 24) = wb := ⟨_, rfl⟩
  rw [hwb] at hB0 hbox
  go_enter Try.func3, Try.ntmps3
  go_wp2_with fail
  refine (stampFact_ok _).mono ?_
  rintro e w1 ⟨rfl, hB1⟩
  have hC1 := bel_on hB0 hB1
  have hb1 := hbox.later hB1 hbox.lt
  have hk1 := hb1.procs
  have hk2 := hb1.events
  clear hwb
  go_wp2_with fail
  by_cases h0 : M.tcode P T = 0
  · refine (row_ok P T p n cap _ hl hmax (hc.later hC1) h0).mono ?_
    rintro e w2 ⟨A, L, rfl, hL, hI, hA, hB2⟩
    have hC2 := bel_on hC1 hB2
    have hb2 := hb1.later hB2 hb1.lt
    clear hk1 hk2
    have hk1 := hb2.procs
    have hk2 := hb2.events
    go_wp2_with fail
    refine (before_ok P T p n cap _ hl hmax (hc.later hC2) h0).mono ?_
    rintro e w3 ⟨A3, rfl, hr3, hA3, hB3⟩
    have hC3 := bel_on hC2 hB3
    have hI3 := hI.later hB3
    have hok := M.tcode_zero.1 h0
    have hn : n ≤ 24 := hl ▸ hok.len
    clear hk1 hk2 hI
    have hlb : (M.before T).length = n := by rw [M.before_length, hl]
    have hlL : L.length = n := hL.length
    go_wp2_with fail
    go_loopw [8, 9] (fun u v wr => ∃ (k s : Nat), u = .int .i64 s ∧ v = .int .i64 k ∧ k ≤ n ∧ Hid (M.tk L k = s) ∧ Below w3.heap.size w3 wr) (fun _ v _ => n - (intOf v).toNat)
    case atStart => exact ⟨0, 0, rfl, rfl, Nat.zero_le _, (by rfl : M.tk L 0 = 0), Below.refl _ _⟩
    case round =>
      obtain ⟨k, s, rfl, rfl, hk, hS, hBr⟩ := hrel
      by_cases hlt : k < n
      · obtain ⟨_, _, e0, hb, hcx⟩ := (hI3.later hBr) k (by rw [ints_length]; omega)
        cases e0
        rw [ints_get, Nat.zero_add] at hcx
        obtain ⟨hx1, hx2, hx3⟩ := hL.at (k := k) (by omega)
        have hsb := M.tk_lt hL k
        have hp4 := pow_24 n hn
        rw [hS.out] at hsb
        have hnext := M.tk_succ (L := L) (k := k) (by omega)
        rw [hS.out] at hnext
        have hnb : (s.testBit (M.row L k)) = false := by
          cases e : s.testBit (M.row L k) with
          | false => rfl
          | true => exact absurd ((M.tk_bit L k _).1 (by rw [hS.out]; exact e)) hx2
        have hsub : M.subB (M.bs T (M.row L k)) s = true := M.subB_iff.2 (fun j hj => by rw [← hS.out]; exact (M.tk_bit L k j).2 (hx3 j hj))
        obtain ⟨x, hx⟩ : ∃ x, M.row L k = x := ⟨_, rfl⟩
        rw [hx] at hcx hx1 hnext hnb hsub
        have hcy := (hr3.below hBr hr3.lt).cell (k := x) (by omega)
        rw [M.before_row T (by omega)] at hcy
        have hyb : M.bs T x < 16777216 := by have h1 := M.bs_lt T x; have h2 := pow_24 x (by omega); omega
        obtain ⟨y, hy⟩ : ∃ y, M.bs T x = y := ⟨_, rfl⟩
        rw [hy] at hcy hyb hsub
        have hbit : ∀ W, Calls Try.prog 7 #[.int .i64 s, .int .i64 x] W fun e w' => e = .returned (.bool false) ∧ W = w' := fun W => by rw [← hnb]; exact bit_big s x W (by omega) (by omega)
        have hwin : ∀ W, Calls Try.prog 8 #[.int .i64 y, .int .i64 s] W fun e w' => e = .returned (.bool true) ∧ W = w' := fun W => by rw [← hsub]; exact within_big y s W (by omega) (by omega)
        have hwith : ∀ W, Calls Try.prog 9 #[.int .i64 s, .int .i64 x] W fun e w' => e = .returned (.int .i64 ((s ||| 1 <<< x : Nat) : Int)) ∧ W = w' := fun W => with_big s x W (by omega) (by omega)
        obtain ⟨s2, hs2⟩ : ∃ s2, s ||| 1 <<< x = s2 := ⟨_, rfl⟩
        rw [hs2] at hwith hnext
        have HN : Hid (M.tk L (k + 1) = s2) := hnext
        have g1 : decide ((n : Int) ≤ (x : Int)) = false := decide_eq_false (by omega)
        have g2 : decide (n ≤ x) = false := decide_eq_false (by omega)
        have hxn : (x : Int) < (n : Int) := by omega
        have hkn : (k : Int) < (n : Int) := by omega
        clear hs2 hnext hx hy hx2 hx3 hnb hsub
        go_wp2_with (first | (go_at_call 7; refine (hbit _).mono ?_; rintro e w' ⟨rfl, rfl⟩) | (go_at_call 8; refine (hwin _).mono ?_; rintro e w' ⟨rfl, rfl⟩) | (go_at_call 9; refine (hwith _).mono ?_; rintro e w' ⟨rfl, rfl⟩))
        go_roundw
        case rel => exact ⟨k + 1, s2, rfl, by go_num, by omega, HN, hBr⟩
        case measure => simp [intOf]; omega
      · go_wp2_with fail
        go_ret
        exact ⟨rfl, bel_on hC3 hBr⟩
  · obtain ⟨d, hd⟩ : ∃ d, M.tcode P T = d := ⟨_, rfl⟩
    have hd0 : d ≠ 0 := by rw [← hd]; exact h0
    refine (row_err P T p n cap d _ hl hmax (hc.later hC1) hd hd0).mono ?_
    rintro e w2 ⟨rfl, hB2⟩
    have hC2 := bel_on hC1 hB2
    have hb2 := hb1.later hB2 hb1.lt
    clear hk1 hk2
    have hk1 := hb2.procs
    have hk2 := hb2.events
    go_wp2_with fail
    refine (before_err P T p n cap d _ hl hmax (hc.later hC2) hd hd0).mono ?_
    rintro e w3 ⟨rfl, hB3⟩
    go_wp2_with fail
    go_ret
    exact ⟨rfl, bel_on hC2 hB3⟩
end Go.Proofs.Ytnofgmbpkgnciab
