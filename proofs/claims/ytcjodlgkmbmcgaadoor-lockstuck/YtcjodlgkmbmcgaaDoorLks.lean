/- Who is stuck stays stuck (law LockStuck), the walk. -/
import Derived.Test.YtcjodlgkmbmcgaaDoorLkf
import Derived.Test.YtcjodlgkmbmcgaaDoorBRf
import Derived.Deep.CutBlock
import Derived.Deep.CutRange
namespace Go.Proofs.YtcjodlgkmbmcgaaDoor
open Go.RowKit
theorem M.Stk.z {r : List Nat} {s : M.Lk} (h : M.Stk r s) (k t o x : Int) (ht : ¬ (0 ≤ t ∧ t ≤ 4 ∧ M.Clo r t.toNat t.toNat)) : M.Stk r (lkZ s k t o x).1 := by
  unfold lkZ
  by_cases e : dIn k t o x = true
  · rw [if_pos e]
    have := dIn_true e
    exact h.step k.toNat o.toNat x.toNat (fun c => ht ⟨by omega, by omega, c⟩)
  · rw [if_neg e]; exact h
theorem M.stS_lt (s : M.Lk) : M.stS s < 32 := M.c5_lt _
theorem M.wtR_row (s : M.Lk) (x : Nat) : M.row (M.wtR s) x < 32 := by have := M.wtR_ok s x; rw [M.wtR_len] at this; exact this
theorem M.st_meets {s : M.Lk} {x : Nat} (h : (M.stS s).testBit x = true) : M.row (M.wtR s) x &&& M.stS s ≠ 0 := fun e => by
  obtain ⟨y, h1, h2⟩ := M.ring_next (M.wtR_ok s) ((M.stS_bit s x).1 h)
  have : (M.row (M.wtR s) x &&& M.stS s).testBit y = true := by rw [Nat.testBit_and, h1, (M.stS_bit s y).2 h2]; rfl
  rw [e] at this
  simp at this
set_option maxRecDepth 100000 in
set_option maxHeartbeats 8000000 in
theorem ks_walk (zs : List Dz) (p : Option Addr) (n cap : Nat) (zs2 : List Dz) (p2 : Option Addr) (n2 cap2 : Nat) (w : World) (he : Env w) (hty : Ety w) (hl : zs.length = n) (_ : n ≤ maxLen) (hc : HasD zs p w) (hl2 : zs2.length = n2) (_ : n2 ≤ maxLen) (hc2 : HasD zs2 p2 w) :
    Calls Tryd.prog 5 #[.slice p n cap, .slice p2 n2 cap2] w fun e w' => e = .returned (.bool true) ∧ Below w.heap.size w w' := by
  have hf := lockFact_ok w hty
  have HE : Hid (Env w) := he
  have HC : Hid (HasD zs p w) := hc
  have HC2 : Hid (HasD zs2 p2 w) := hc2
  clear he hc hty hc2
  go_enter Tryd.func5, Tryd.ntmps5
  go_wp2_with fail
  refine hf.mono ?_
  rintro e w1 ⟨rfl, hB1⟩
  have H1 : Hid (Below w.heap.size w w1) := hB1
  clear hf hB1
  go_wp2_with fail
  refine (lnew_ok (O := fun k => w.heap.size ≤ k) w1 H1.out.size).mono ?_
  rintro e w2 ⟨S, hS, rfl, hT2, hB2⟩
  have H2 : Hid (TV (fun k => w.heap.size ≤ k) S M.lk0 w2 ∧ Below w.heap.size w w2) := ⟨hT2, H1.out.trans (hB2.mono H1.out.size)⟩
  clear hT2 hB2 hS H1
  go_upto_block 0 with fail
  go_cut [7] from 17 to 32 (fun u7 w' => ∃ s : M.Lk, Hid (TV (fun k => w.heap.size ≤ k) S s w' ∧ M.LG s ∧ Below w.heap.size w w'))
  case first =>
    go_wp2_with fail
    go_loopw [7] (fun u wr => ∃ (i : Nat) (s : M.Lk), u = .int .i64 (i : Nat) ∧ i ≤ n ∧ i ≤ 60 ∧ Hid (TV (fun k => w.heap.size ≤ k) S s wr ∧ M.LG s ∧ Below w.heap.size w wr)) (fun u _ => 60 - (intOf u).toNat)
    case atStart => exact ⟨0, _, rfl, Nat.zero_le _, Nat.zero_le _, ⟨H2.out.1, M.LG.zero, H2.out.2⟩⟩
    case round =>
      clear H2
      obtain ⟨i, s, rfl, hi, hi2, HP⟩ := hrel
      by_cases h1 : i < n
      case neg =>
        obtain rfl : n = i := by omega
        go_wp2_with fail
        go_meet
        case rel => exact ⟨s, HP⟩
      by_cases h2 : i < 60
      case neg =>
        obtain rfl : i = 60 := by omega
        have hii : (60 : Int) < n := by omega
        go_wp2_with fail
        go_meet
        case rel => exact ⟨s, HP⟩
      have h1i : (i : Int) < n := by omega
      have h2i : (i : Int) < 60 := by omega
      obtain ⟨b, off, rfl, hd⟩ := (HC.out.later HP.out.2.2) i (by omega)
      obtain ⟨⟨k, t, o, x⟩, hz⟩ : ∃ d, dAt zs i = d := ⟨_, rfl⟩
      rw [hz] at hd
      have c0 := hd.c0
      have c1 := hd.c1
      have c2 := hd.c2
      have c3 := hd.c3
      have hb := hd.lt
      simp only at c0 c1 c2 c3
      have dd := ldo_ok k t o x wr HP.out.1 (fun k hk => Nat.le_trans HP.out.2.2.size hk) HP.out.2.1
      have HN : Hid (∀ w', TV (fun k => w.heap.size ≤ k) S (lkZ s k t o x).1 w' → Frm (fun k => w.heap.size ≤ k) wr w' → TV (fun k => w.heap.size ≤ k) S (lkZ s k t o x).1 w' ∧ M.LG (lkZ s k t o x).1 ∧ Below w.heap.size w w') := fun w' h1 h2 => ⟨h1, HP.out.2.1.z k t o x, HP.out.2.2.trans (h2.below HP.out.2.2.size (fun k hk h => by omega))⟩
      clear hz hd HP
      go_wp2_with fail
      refine dd.mono ?_
      rintro e w3 ⟨rfl, h3, h4⟩
      have H3 : Hid _ := HN.out w3 h3 h4
      clear dd h3 h4 HN c0 c1 c2 c3
      go_wp2_with fail
      go_roundw
      case rel => exact ⟨i + 1, _, by go_num, by omega, by omega, H3⟩
      case measure => simp [intOf]; omega
  case rest =>
    clear H2
    obtain ⟨s, HP⟩ := hcut
    have hs := fun w' (hb : Below wc.heap.size wc w') => lstuck_ok w' (HE.out.later (HP.out.2.2.trans (hb.mono HP.out.2.2.size))) (HP.out.1.below hb) HP.out.2.1
    have hw := fun w' (hb : Below wc.heap.size wc w') => lwaits_ok w' (HP.out.1.below hb) HP.out.2.1
    have hst := M.stS_lt s
    obtain ⟨Z, hZ⟩ : ∃ Z, M.stS s = Z := ⟨_, rfl⟩
    have HZ : Hid (M.stS s = Z) := hZ
    rw [hZ] at hs hst
    have hZi : (Z : Int) ≤ 31 := by omega
    clear hZ
    go_wp2_with fail
    refine (hs wc (Below.refl _ _)).mono ?_
    rintro e w3 ⟨rfl, hB3⟩
    have hw3 := hw w3 hB3
    have H3 : Hid (Below wc.heap.size wc w3) := hB3
    clear hs hw hB3
    go_wp2_with fail
    refine hw3.mono ?_
    rintro e w4 ⟨A, rfl, hrow, hA, hB4⟩
    have H4 : Hid (TV (fun k => w.heap.size ≤ k) S s w4 ∧ M.LG s ∧ Below w.heap.size w w4 ∧ RowAt 3 w4 A (M.wtR s)) := by
      have h5 := H3.out.trans (hB4.mono H3.out.size)
      exact ⟨HP.out.1.below h5, HP.out.2.1, HP.out.2.2.trans (h5.mono HP.out.2.2.size), hrow⟩
    clear hw3 hrow hB4 H3 HP hA
    go_wp2_with fail
    go_loopw [10] (fun u wr => ∃ x : Nat, u = .int .i64 (x : Nat) ∧ x ≤ 5 ∧ wr = w4) (fun u _ => 5 - (intOf u).toNat)
    case atStart => exact ⟨0, rfl, Nat.zero_le _, rfl⟩
    case round =>
      obtain ⟨x, rfl, hx, rfl⟩ := hrel
      by_cases hlt : x < 5
      · have hxi : (x : Int) < 5 := by omega
        have hc := H4.out.2.2.2.cell (k := x) (by rw [M.wtR_len]; omega)
        have hl := H4.out.2.2.2.lt
        have hr := M.wtR_row s x
        have hself := M.wtR_self s x
        have hme := @M.st_meets s x
        rw [HZ.out] at hme
        obtain ⟨r, hrr⟩ : ∃ r, M.row (M.wtR s) x = r := ⟨_, rfl⟩
        rw [hrr] at hc hr hself hme
        have hri : (r : Int) ≤ 31 := by omega
        have hb1 := bit_any r x wr (by omega) (by omega)
        rw [hself] at hb1
        have hb2 := bit_any Z x wr (by omega) (by omega)
        have hbo := both_any r Z wr (by omega) (by omega)
        obtain ⟨m, hm⟩ : ∃ m, r &&& Z = m := ⟨_, rfl⟩
        rw [hm] at hbo hme
        clear hrr hself hm
        cases hbit : Z.testBit x with
        | false =>
          rw [hbit] at hb2
          clear hme hbo hbit
          go_wp2_with fail
          refine hb1.mono ?_
          rintro e w5 ⟨rfl, rfl⟩
          go_wp2_with fail
          refine hb2.mono ?_
          rintro e w5 ⟨rfl, rfl⟩
          go_wp2_with fail
          go_roundw
          case rel => exact ⟨x + 1, by go_num, by omega, trivial⟩
          case measure => simp [intOf]; omega
        | true =>
          have hm0 := hme hbit
          have hmb : ((m : Int) == 0) = false := by simpa using hm0
          rw [hbit] at hb2
          clear hme hbit hm0
          go_wp2_with fail
          refine hb1.mono ?_
          rintro e w5 ⟨rfl, rfl⟩
          go_wp2_with fail
          refine hb2.mono ?_
          rintro e w5 ⟨rfl, rfl⟩
          go_wp2_with fail
          refine hbo.mono ?_
          rintro e w5 ⟨rfl, rfl⟩
          go_wp2_with fail
          go_roundw
          case rel => exact ⟨x + 1, by go_num, by omega, trivial⟩
          case measure => simp [intOf]; omega
      obtain rfl : x = 5 := by omega
      go_upto_block 4 with fail
      go_cut [11] from 86 to 124 (fun u7 w' => ∃ s' : M.Lk, Hid (TV (fun k => w.heap.size ≤ k) S s' w' ∧ M.LG s' ∧ Below w.heap.size w w' ∧ M.Stk (M.wtR s) s'))
      case first =>
        have H5 : Hid (TV (fun k => w.heap.size ≤ k) S s wr ∧ M.LG s ∧ Below w.heap.size w wr ∧ M.Stk (M.wtR s) s) := ⟨H4.out.1, H4.out.2.1, H4.out.2.2.1, M.Stk.start s⟩
        clear H4
        go_wp2_with fail
        go_loopw [11] (fun u w7 => ∃ (i : Nat) (s' : M.Lk), u = .int .i64 (i : Nat) ∧ i ≤ n2 ∧ i ≤ 30 ∧ Hid (TV (fun k => w.heap.size ≤ k) S s' w7 ∧ M.LG s' ∧ Below w.heap.size w w7 ∧ M.Stk (M.wtR s) s')) (fun u _ => 30 - (intOf u).toNat)
        case atStart => exact ⟨0, s, rfl, Nat.zero_le _, Nat.zero_le _, H5⟩
        case round =>
          clear H5
          obtain ⟨i, s', rfl, hi, hi2, HP⟩ := hrel
          by_cases h1 : i < n2
          case neg =>
            obtain rfl : n2 = i := by omega
            go_wp2_with fail
            go_meet
            case rel => exact ⟨s', HP⟩
          by_cases h2 : i < 30
          case neg =>
            obtain rfl : i = 30 := by omega
            have hii : (30 : Int) < n2 := by omega
            go_wp2_with fail
            go_meet
            case rel => exact ⟨s', HP⟩
          have h1i : (i : Int) < n2 := by omega
          have h2i : (i : Int) < 30 := by omega
          obtain ⟨b, off, rfl, hd⟩ := (HC2.out.later HP.out.2.2.1) i (by omega)
          obtain ⟨⟨k, t, o, x⟩, hz⟩ : ∃ d, dAt zs2 i = d := ⟨_, rfl⟩
          rw [hz] at hd
          have c0 := hd.c0
          have c1 := hd.c1
          have c2 := hd.c2
          have c3 := hd.c3
          have hb := hd.lt
          simp only at c0 c1 c2 c3
          have dd := ldo_ok k t o x wr HP.out.1 (fun k hk => Nat.le_trans HP.out.2.2.1.size hk) HP.out.2.1
          have HN : Hid (¬ (0 ≤ t ∧ t ≤ 4 ∧ M.Clo (M.wtR s) t.toNat t.toNat) → ∀ w', TV (fun k => w.heap.size ≤ k) S (lkZ s' k t o x).1 w' → Frm (fun k => w.heap.size ≤ k) wr w' → TV (fun k => w.heap.size ≤ k) S (lkZ s' k t o x).1 w' ∧ M.LG (lkZ s' k t o x).1 ∧ Below w.heap.size w w' ∧ M.Stk (M.wtR s) (lkZ s' k t o x).1) := fun hn w' h1 h2 => ⟨h1, HP.out.2.1.z k t o x, HP.out.2.2.1.trans (h2.below HP.out.2.2.1.size (fun k hk h => by omega)), HP.out.2.2.2.z k t o x hn⟩
          clear hz hd
          by_cases ht0 : 0 ≤ t
          case neg =>
            have HN2 : Hid _ := HN.out (fun h => ht0 h.1)
            have ht0' : t < 0 := by omega
            clear HP HN ht0
            go_wp2_with fail
            refine dd.mono ?_
            rintro e w3 ⟨rfl, h3, h4⟩
            have H3 : Hid _ := HN2.out w3 h3 h4
            clear dd h3 h4 HN2 c0 c1 c2 c3
            go_wp2_with fail
            go_roundw
            case rel => (repeat apply Exists.intro); refine ⟨?_, rfl⟩; exact ⟨i + 1, _, by go_num, by omega, by omega, H3⟩
            case measure => simp [intOf]; omega
          by_cases ht4 : t ≤ 4
          case neg =>
            have HN2 : Hid _ := HN.out (fun h => ht4 h.2.1)
            have ht4' : 4 < t := by omega
            clear HP HN ht4
            go_wp2_with fail
            refine dd.mono ?_
            rintro e w3 ⟨rfl, h3, h4⟩
            have H3 : Hid _ := HN2.out w3 h3 h4
            clear dd h3 h4 HN2 c0 c1 c2 c3
            go_wp2_with fail
            go_roundw
            case rel => (repeat apply Exists.intro); refine ⟨?_, rfl⟩; exact ⟨i + 1, _, by go_num, by omega, by omega, H3⟩
            case measure => simp [intOf]; omega
          obtain ⟨t, rfl⟩ : ∃ n : Nat, t = n := ⟨t.toNat, by omega⟩
          have hb2 := fun w' => bit_any Z t w' (by omega) (by omega)
          cases hbit : Z.testBit t with
          | true =>
            rw [hbit] at hb2
            clear HN hbit dd
            go_wp2_with fail
            refine (hb2 _).mono ?_
            rintro e w5 ⟨rfl, rfl⟩
            go_wp2_with fail
            go_roundw
            case rel => (repeat apply Exists.intro); refine ⟨?_, rfl⟩; exact ⟨i + 1, s', by go_num, by omega, by omega, HP⟩
            case measure => simp [intOf]; omega
          | false =>
            rw [hbit] at hb2
            have HN2 : Hid _ := HN.out (fun h => by
              have h5 := (M.stS_bit s _).2 h.2.2
              rw [HZ.out, Int.toNat_natCast, hbit] at h5
              cases h5)
            clear HP HN hbit
            go_wp2_with fail
            refine (hb2 _).mono ?_
            rintro e w5 ⟨rfl, rfl⟩
            go_wp2_with fail
            refine dd.mono ?_
            rintro e w3 ⟨rfl, h3, h4⟩
            have H3 : Hid _ := HN2.out w3 h3 h4
            clear dd h3 h4 HN2 c0 c1 c2 c3
            go_wp2_with fail
            go_roundw
            case rel => (repeat apply Exists.intro); refine ⟨?_, rfl⟩; exact ⟨i + 1, _, by go_num, by omega, by omega, H3⟩
            case measure => simp [intOf]; omega
      case rest =>
        obtain ⟨s', HP⟩ := hcut
        have hs := lstuck_ok wc (HE.out.later HP.out.2.2.1) HP.out.1 HP.out.2.1
        have hlt2 := M.stS_lt s'
        have hwi := fun w' => within_true Z (M.stS s') w' (by omega) (by omega) (fun j hj => by
          rw [← HZ.out] at hj
          exact (M.stS_bit s' j).2 (HP.out.2.2.2.ring (M.wtR_ok s) ((M.stS_bit s j).1 hj)))
        obtain ⟨Y, hY⟩ : ∃ Y, M.stS s' = Y := ⟨_, rfl⟩
        rw [hY] at hs hlt2 hwi
        have hYi : (Y : Int) ≤ 31 := by omega
        have HB : Hid (Below w.heap.size w wc) := HP.out.2.2.1
        clear hY HP H4
        go_wp2_with fail
        refine hs.mono ?_
        rintro e w3 ⟨rfl, hB3⟩
        have HB3 : Hid (Below w.heap.size w w3) := HB.out.trans (hB3.mono HB.out.size)
        clear hs hB3
        go_wp2_with fail
        refine (hwi _).mono ?_
        rintro e w5 ⟨rfl, rfl⟩
        go_wp2_with fail
        go_ret
        exact ⟨rfl, HB3.out⟩
end Go.Proofs.YtcjodlgkmbmcgaaDoor
