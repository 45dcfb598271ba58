/- WHERE CLOCKS ARE RIGHT IT IS THE TIME (law HybridTrue): whatever the trace and the times, the call returns true; what lay in memory lies as it lay. -/
import Derived.Test.YtckejldbbkibhaaHfc
import Derived.Test.YtckejldbbkibhaaRefBig
import Derived.Deep.CutRange
namespace Go.Proofs.Ytckejldbbkibhaa
open Go.RowKit
namespace M
/-- the times of all that is in x below k are below c -/
def rgt (x : Nat) (f : Nat → Nat) (c : Nat) : Nat → Bool
  | 0 => true
  | k + 1 => rgt x f c k && (!x.testBit k || decide (f k < c))
theorem rgt_iff {x : Nat} {f : Nat → Nat} {c : Nat} (n : Nat) : rgt x f c n = true ↔ ∀ k, k < n → x.testBit k = true → f k < c := by
  induction n with
  | zero => simp [rgt]
  | succ n ih =>
    simp only [rgt, Bool.and_eq_true, Bool.or_eq_true, Bool.not_eq_true', decide_eq_true_eq, ih]
    constructor
    · rintro ⟨h1, h2⟩ k hk hb
      by_cases e : k = n
      · subst e
        rcases h2 with h2 | h2
        · rw [hb] at h2; cases h2
        · exact h2
      · exact h1 k (by omega) hb
    · intro h
      refine ⟨fun k hk => h k (by omega), ?_⟩
      cases e : x.testBit n with
      | false => exact .inl rfl
      | true => exact .inr (h n (by omega) e)
end M
set_option maxRecDepth 100000 in
set_option maxHeartbeats 8000000 in
theorem ht_walk (P : Int) (T : List (Int × Int)) (p : Option Addr) (n cap : Nat) (zs : List Int) (q : Option Addr) (m cap2 : Nat) (w : World) (hl : T.length = n) (hmax : n ≤ maxLen) (hc : HasE T p w) (hl2 : zs.length = m) (hmax2 : m ≤ maxLen) (hz : HasI zs q w) (_hwf : ∀ k : Nat, zs[k]?.getD 0 < 9223372036854775808) :
    Calls Try.prog 4 #[trV P p n cap, .slice q m cap2] w fun e w' => e = .returned (.bool true) ∧ Below w.heap.size w w' := by
  have hB0 : Below w.heap.size w (w.alloc (.cells #[.int .i64 P, .slice p n cap] 24)) := (Below.refl _ _).alloc (Nat.le_refl _) _
  have hbox := tbox_new w P p n cap
  obtain ⟨wb, hwb⟩ : ∃ wb, w.alloc (.cells #[.int .i64 P, .slice p n cap] 24) = wb := ⟨_, rfl⟩
  rw [hwb] at hB0 hbox
  go_enter Try.func4, Try.ntmps4
  go_wp2_with fail
  refine (hybridFact_ok _).mono ?_
  rintro e w1 ⟨rfl, hB1⟩
  have hC1 := bel_on hB0 hB1
  have hb1 := hbox.later hB1 hbox.lt
  have hk1 := hb1.procs
  have hk2 := hb1.events
  clear hwb
  go_wp2_with fail
  by_cases h0 : M.hcode P T zs ≠ 0
  · obtain ⟨c, hcc⟩ : ∃ c, M.hcode P T zs = c := ⟨_, rfl⟩
    rw [hcc] at h0
    refine (stamps_err P T p n cap zs q m cap2 c _ hl hmax (hc.later hC1) hl2 hmax2 (hz.later hC1) hcc h0).mono ?_
    rintro e w2 ⟨rfl, hB2⟩
    have hC2 := bel_on hC1 hB2
    have hb2 := hb1.later hB2 hb1.lt
    clear hk1 hk2
    have hk1 := hb2.procs
    have hk2 := hb2.events
    go_wp2_with fail
    by_cases h1 : M.tcode P T = 0
    · refine (before_ok P T p n cap _ hl hmax (hc.later hC2) h1).mono ?_
      rintro e w3 ⟨A3, rfl, hr3, hA3, hB3⟩
      go_wp2_with fail
      go_ret
      exact ⟨rfl, bel_on hC2 hB3⟩
    · refine (before_err P T p n cap _ _ hl hmax (hc.later hC2) rfl h1).mono ?_
      rintro e w3 ⟨rfl, hB3⟩
      go_wp2_with fail
      go_ret
      exact ⟨rfl, bel_on hC2 hB3⟩
  have hok := M.hcode_zero.1 (Decidable.not_not.1 h0)
  have h1 := M.tcode_zero.2 hok.tr
  have hn : n ≤ 24 := hl ▸ hok.tr.len
  obtain rfl : m = n := by have := hok.len; omega
  refine (stamps_ok P T p m cap zs q cap2 _ hl hmax (hc.later hC1) (hz.later hC1) hok).mono ?_
  rintro e w2 ⟨A, rfl, hr, hA, hB2⟩
  have hC2 := bel_on hC1 hB2
  have hb2 := hb1.later hB2 hb1.lt
  clear hk1 hk2
  have hk1 := hb2.procs
  have hk2 := hb2.events
  go_wp2_with fail
  refine (before_ok P T p m cap _ hl hmax (hc.later hC2) h1).mono ?_
  rintro e w3 ⟨A3, rfl, hr3, hA3, hB3⟩
  have hC3 := bel_on hC2 hB3
  have hL := hr.below hB3 hr.lt
  have hz3 := hz.later hC3
  have hlb : (M.before T).length = m := by rw [M.before_length, hl]
  clear hk1 hk2 hr
  go_wp2_with fail
  go_loopw [10] (fun v wr => ∃ i : Nat, v = .int .i64 i ∧ i ≤ m ∧ Below w3.heap.size w3 wr) (fun v _ => m - (intOf v).toNat)
  case atStart => exact ⟨0, rfl, Nat.zero_le _, Below.refl _ _⟩
  case round =>
    obtain ⟨i, rfl, hi, hBr⟩ := hrel
    by_cases hlt : i < m
    · have hT : i < T.length := by omega
      have hxb : M.bs T i < 16777216 := by have h1 := M.bs_lt T i; have h2 := pow_24 i (by omega); omega
      obtain ⟨x, hx⟩ : ∃ x, M.bs T i = x := ⟨_, rfl⟩
      have HX : Hid (M.bs T i = x) := hx
      rw [hx] at hxb
      obtain ⟨ti, hti⟩ : ∃ t, M.tm zs i = t := ⟨_, rfl⟩
      have HTI : Hid (M.tm zs i = ti) := hti
      clear hx hti
      go_wp2_with fail
      go_loopw [11, 12] (fun u v wr2 => ∃ (k : Nat) (r : Bool), u = .bool r ∧ v = .int .i64 k ∧ k ≤ i ∧ Hid (r = M.rgt x (M.tm zs) ti k) ∧ Below w3.heap.size w3 wr2) (fun _ v _ => i - (intOf v).toNat)
      case atStart => exact ⟨0, true, rfl, rfl, Nat.zero_le _, show true = M.rgt x (M.tm zs) ti 0 from rfl, hBr⟩
      case round =>
        obtain ⟨k, r, rfl, rfl, hk, HR, hBs⟩ := hrel
        by_cases hki : k < i
        · have hrr := hr3.below hBs hr3.lt
          have hrl := hrr.lt
          have hcx := hrr.cell (k := i) (by omega)
          rw [M.before_row T hT, HX.out] at hcx
          obtain ⟨tk, htk⟩ : ∃ t, M.tm zs k = t := ⟨_, rfl⟩
          have HTK : Hid (M.tm zs k = tk) := htk
          have hzi := hok.tm hT
          have hzk := hok.tm (show k < T.length by omega)
          rw [HTI.out] at hzi
          rw [htk] at hzk
          obtain ⟨bz, oz, rfl, hbz, hci⟩ := (hz3.later hBs).at_ (show i < zs.length by omega) hzi
          obtain ⟨_, _, e0, _, hck⟩ := (hz3.later hBs).at_ (show k < zs.length by omega) hzk
          cases e0
          obtain ⟨tb, htb⟩ : ∃ t, x.testBit k = t := ⟨_, rfl⟩
          have HTB : Hid (x.testBit k = tb) := htb
          have hbit : ∀ W, Calls Try.prog 9 #[.int .i64 x, .int .i64 k] W fun e w' => e = .returned (.bool tb) ∧ W = w' := fun W => by rw [← htb]; exact bit_big x k W (by omega) (by omega)
          obtain ⟨d, hd⟩ : ∃ t, decide (tk < ti) = t := ⟨_, rfl⟩
          have hd2 : decide ((tk : Int) < (ti : Int)) = d := by rw [← hd]; simp
          have HD : Hid (decide (tk < ti) = d) := hd
          have hkm : k < m := by omega
          have hkI : (k : Int) < (m : Int) := by omega
          have hiI : (i : Int) < (m : Int) := by omega
          clear htk htb hzi hzk
          cases r with
          | false =>
            have HN : Hid (false = M.rgt x (M.tm zs) ti (k + 1)) := by show _ = _; simp only [M.rgt]; rw [← HR.out]; rfl
            go_wp2_with fail
            go_big_quiet ((go_at_call 9; exact Calls.quiet_of_same ((hbit _).mono (fun e w' h => ⟨h.1, h.2.symm⟩))))
            go_wp2_with fail
            go_roundw
            case rel => exact ⟨k + 1, _, rfl, by go_num, by omega, HN, bel_drN hBs _⟩
            case measure => simp [intOf]; omega
          | true =>
            cases tb with
            | false =>
              have HN : Hid (true = M.rgt x (M.tm zs) ti (k + 1)) := by show _ = _; simp only [M.rgt]; rw [← HR.out, HTB.out]; rfl
              go_wp2_with fail
              go_big_quiet ((go_at_call 9; exact Calls.quiet_of_same ((hbit _).mono (fun e w' h => ⟨h.1, h.2.symm⟩))))
              go_wp2_with fail
              go_roundw
              case rel => exact ⟨k + 1, _, rfl, by go_num, by omega, HN, bel_drN hBs _⟩
              case measure => simp [intOf]; omega
            | true =>
              have HN : Hid (d = M.rgt x (M.tm zs) ti (k + 1)) := by show _ = _; simp only [M.rgt]; rw [← HR.out, HTB.out, HTK.out, HD.out]; rfl
              go_wp2_with fail
              go_big_quiet ((go_at_call 9; exact Calls.quiet_of_same ((hbit _).mono (fun e w' h => ⟨h.1, h.2.symm⟩))))
              go_wp2_with fail
              go_roundw
              case rel => exact ⟨k + 1, d, rfl, by go_num, by omega, HN, bel_drN hBs _⟩
              case measure => simp [intOf]; omega
        · obtain rfl : k = i := by omega
          have hLr := hL.below hBs hL.lt
          have hLl := hLr.lt
          have hcT := hLr.cell (k := k * 2) (by rw [M.stl_length]; omega)
          have hcC := hLr.cell (k := k * 2 + 1) (by rw [M.stl_length]; omega)
          rw [M.stl_T T _ hlt hlt] at hcT
          rw [M.stl_C T _ hlt hlt] at hcC
          have hzi := hok.tm hT
          rw [HTI.out] at hzi
          obtain ⟨bz, oz, rfl, hbz, hci⟩ := (hz3.later hBs).at_ (show k < zs.length by omega) hzi
          have hiI : (k : Int) < (m : Int) := by omega
          cases r with
          | false =>
            obtain ⟨v0, hv0⟩ : ∃ t, M.hT T (M.tm zs) k = t := ⟨_, rfl⟩
            obtain ⟨v1, hv1⟩ : ∃ t, M.hC T (M.tm zs) k = t := ⟨_, rfl⟩
            rw [hv0] at hcT
            rw [hv1] at hcC
            clear hv0 hv1 hzi
            go_wp2_with fail
            go_big_quiet (fail)
            go_wp2_with fail
            go_roundw
            case rel => exact ⟨k + 1, by go_num, by omega, bel_drN hBs _⟩
            case measure => simp [intOf]; omega
          | true =>
            have hh := M.hyb_true hok.tr (t := M.tm zs) hT (fun j hj => by
              rw [HX.out] at hj
              rw [HTI.out]
              exact (M.rgt_iff k).1 HR.out.symm j (by have := M.bs_in T k j (by rw [HX.out]; exact hj); exact this) hj)
            rw [hh.1, HTI.out] at hcT
            rw [hh.2] at hcC
            have l1 : ((ti : Int) != (ti : Int)) = false := by simp
            have l2 : (ti != ti) = false := by simp
            clear hzi hh
            go_wp2_with fail
            go_big_quiet (fail)
            go_wp2_with fail
            go_roundw
            case rel => exact ⟨k + 1, by go_num, by omega, bel_drN hBs _⟩
            case measure => simp [intOf]; omega
    · obtain rfl : i = m := by omega
      go_wp2_with fail
      go_ret
      exact ⟨rfl, bel_on hC3 hBr⟩
end Go.Proofs.Ytckejldbbkibhaa
