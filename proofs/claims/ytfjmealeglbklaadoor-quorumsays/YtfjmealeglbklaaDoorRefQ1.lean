/- The document's own answers on sets of nodes (package whensteadref4: in, Sets, Has, Full); what lay in memory lies as it lay. -/
import Derived.Test.YtfjmealeglbklaaDoorQc4
import Derived.Test.YtfjmealeglbklaaDoorRefSet
import Derived.Test.YtfjmealeglbklaaDoorRefWit
import Derived.BigQuiet
namespace Go.Proofs.YtfjmealeglbklaaDoor
open Go.RowKit

set_option maxHeartbeats 400000 in
theorem rin4_ok (x lo hi : Int) (w : World) :
    Calls Tryd.prog 29 #[.int .i64 x, .int .i64 lo, .int .i64 hi] w fun e w' => e = .returned (.bool (decide (lo ≤ x ∧ x ≤ hi))) ∧ w = w' := by
  by_cases h1 : lo ≤ x
  · have g1 : decide (lo ≤ x) = true := decide_eq_true h1
    have HE : Hid (decide (lo ≤ x ∧ x ≤ hi) = decide (x ≤ hi)) := (by rw [Bool.eq_iff_iff]; simp [h1] : decide (lo ≤ x ∧ x ≤ hi) = decide (x ≤ hi))
    clear h1
    go_enter Tryd.func29, Tryd.ntmps29
    go_wp2_with fail
    go_ret
    exact ⟨by rw [HE.out]; rfl, rfl⟩
  · have g1 : decide (lo ≤ x) = false := decide_eq_false h1
    have HE : Hid (decide (lo ≤ x ∧ x ≤ hi) = false) := decide_eq_false (fun h => h1 h.1)
    clear h1
    go_enter Tryd.func29, Tryd.ntmps29
    go_wp2_with fail
    go_ret
    exact ⟨by rw [HE.out]; rfl, rfl⟩
theorem rin4_yes {x lo hi : Int} (w : World) (h : lo ≤ x) (h' : x ≤ hi) :
    Calls Tryd.prog 29 #[.int .i64 x, .int .i64 lo, .int .i64 hi] w fun e w' => e = .returned (.bool true) ∧ w = w' := by
  have := rin4_ok x lo hi w; rw [decide_eq_true (⟨h, h'⟩ : lo ≤ x ∧ x ≤ hi)] at this; exact this
theorem rin4_no {x lo hi : Int} (w : World) (h : ¬ (lo ≤ x ∧ x ≤ hi)) :
    Calls Tryd.prog 29 #[.int .i64 x, .int .i64 lo, .int .i64 hi] w fun e w' => e = .returned (.bool false) ∧ w = w' := by
  have := rin4_ok x lo hi w; rw [decide_eq_false h] at this; exact this
theorem qone_good {n i s : Nat} {zs : List Int} (hz : zs[i]?.getD 0 = (s : Int)) (hs : s < 2 ^ n) (h0 : s ≠ 0) (h : ∀ j, j < i → (zs[j]?.getD 0).toNat &&& s ≠ 0) : qone n zs i = 0 := by
  rw [qone_set hz hs h0, clashQ_no h]; rfl
theorem qone_clash {n i j s : Nat} {zs : List Int} (hz : zs[i]?.getD 0 = (s : Int)) (hs : s < 2 ^ n) (h0 : s ≠ 0) (hj : j < i) (h : (zs[j]?.getD 0).toNat &&& s = 0) : qone n zs i = 6 := by
  rw [qone_set hz hs h0, clashQ_hit hj h]; rfl
set_option maxRecDepth 100000 in
set_option maxHeartbeats 2000000 in
theorem rsets_ok (m : Int) (zs : List Int) (p : Option Addr) (n cap : Nat) (w : World) (hl : zs.length = n) (hmax : n ≤ maxLen) (hc : HasI zs p w) :
    Calls Tryd.prog 8 #[.int .i64 m, .slice p n cap] w fun e w' => e = .returned (.int .i64 (qcode m zs : Nat)) ∧ Below w.heap.size w w' := by
  unfold maxLen at hmax
  by_cases hm : m < 1 ∨ 8 < m
  · have HQ : Hid (qcode m zs = 1) := qcode_range hm
    have hin := fun W => rin4_no (x := m) (lo := 1) (hi := 8) W (by omega)
    clear hm hc
    go_enter Tryd.func8, Tryd.ntmps8
    go_wp2_with fail
    refine (hin _).mono ?_
    rintro e w2 ⟨rfl, rfl⟩
    go_wp2_with fail
    go_ret
    exact ⟨by rw [HQ.out]; rfl, Below.refl _ _⟩
  obtain ⟨N, rfl⟩ : ∃ N : Nat, m = N := ⟨m.toNat, by omega⟩
  have hN : N ≤ 8 := by omega
  have hin := fun W => rin4_yes (x := (N : Int)) (lo := 1) (hi := 8) W (by omega) (by omega)
  have HM : Hid (¬ ((N : Int) < 1 ∨ 8 < (N : Int))) := hm
  clear hm
  by_cases h0 : n = 0
  · subst h0
    have HQ : Hid (qcode N zs = 5) := qcode_none HM.out hl
    clear hc
    go_enter Tryd.func8, Tryd.ntmps8
    go_wp2_with fail
    refine (hin _).mono ?_
    rintro e w2 ⟨rfl, rfl⟩
    go_wp2_with fail
    go_ret
    exact ⟨by rw [HQ.out]; rfl, Below.refl _ _⟩
  have g3 : ((n : Int) == 0) = false := by simp; omega
  have hn0 : 0 < n := by omega
  clear h0
  by_cases h20 : 20 < n
  · have HQ : Hid (qcode N zs = 4) := qcode_full HM.out (by omega)
    have g4 : decide (20 < (n : Int)) = true := decide_eq_true (by omega)
    clear hc
    go_enter Tryd.func8, Tryd.ntmps8
    go_wp2_with fail
    refine (hin _).mono ?_
    rintro e w2 ⟨rfl, rfl⟩
    go_wp2_with fail
    go_ret
    exact ⟨by rw [HQ.out]; rfl, Below.refl _ _⟩
  have g4 : decide (20 < (n : Int)) = false := decide_eq_false (by omega)
  have hn20 : n ≤ 20 := by omega
  have h8 := pow8 hN
  clear h20
  have HC : Hid (HasI zs p w) := hc
  have HL : Hid (zs.length = n) := hl
  clear hc hl
  go_enter Tryd.func8, Tryd.ntmps8
  go_wp2_with fail
  refine (hin _).mono ?_
  rintro e w2 ⟨rfl, rfl⟩
  obtain ⟨wo, hwo⟩ : ∃ wo, wo = w := ⟨_, rfl⟩
  subst hwo
  go_wp2_with fail
  go_loopw [5] (fun v wr => ∃ i : Nat, v = .int .i64 (i : Nat) ∧ i ≤ n ∧ Hid (∀ j, j < i → qone N zs j = 0) ∧ Hid (Below wo.heap.size wo wr)) (fun v _ => n - (intOf v).toNat)
  case atStart => exact ⟨0, rfl, Nat.zero_le _, fun j h => absurd h (Nat.not_lt_zero _), Below.refl _ _⟩
  case round =>
    obtain ⟨i, rfl, hi, hz, hB⟩ := hrel
    by_cases hlt : i < n
    · obtain ⟨b, off, rfl, hb, hcell⟩ := (HC.out.later hB.out) i (by rw [HL.out]; exact hlt)
      obtain ⟨z, hzz⟩ : ∃ z, zs[i]?.getD 0 = z := ⟨_, rfl⟩
      have HZ : Hid (zs[i]?.getD 0 = z) := hzz
      rw [hzz] at hcell
      have hma := fun W => mask_any z N W (by omega)
      have hinn : (i : Int) < (n : Int) := by omega
      have hbad : qone N zs i ≠ 0 → qcode N zs = qone N zs i := fun h => qcode_bad HM.out (by rw [HL.out]; exact hn20) (by rw [HL.out]; exact hlt) hz.out h
      cases hs : setB z N with
      | false =>
        rw [hs] at hma
        have h1 : qone N zs i = 1 := qone_range hzz hs
        have HQ : Hid (qcode N zs = 1) := by rw [h1] at hbad; exact hbad (by decide)
        clear hbad h1 hs hzz
        go_wp2_with fail
        refine (hma _).mono ?_
        rintro e w2 ⟨rfl, rfl⟩
        go_wp2_with fail
        go_ret
        exact ⟨by rw [HQ.out]; rfl, hB.out⟩
      | true =>
        rw [hs] at hma
        obtain ⟨s, rfl, hsN⟩ := qset_get hs
        by_cases hs0 : s = 0
        · subst hs0
          have h1 : qone N zs i = 3 := qone_shape hzz
          have HQ : Hid (qcode N zs = 3) := by rw [h1] at hbad; exact hbad (by decide)
          clear hbad h1 hs hzz
          go_wp2_with fail
          refine (hma _).mono ?_
          rintro e w2 ⟨rfl, rfl⟩
          go_wp2_with fail
          go_ret
          exact ⟨by rw [HQ.out]; rfl, hB.out⟩
        · have g5 : ((s : Int) == 0) = false := by simp; omega
          have hs3 : 0 < s := by omega
          have HS0 : Hid (s ≠ 0) := hs0
          have hs8 : s < 256 := by omega
          obtain ⟨wp, hwp⟩ : ∃ wp, wp = wr := ⟨_, rfl⟩
          subst hwp
          have HBad : Hid (qone N zs i ≠ 0 → qcode N zs = qone N zs i) := hbad
          have HSN : Hid (s < 2 ^ N) := hsN
          clear hbad hs hzz hs0 hsN
          go_wp2_with fail
          refine (hma _).mono ?_
          rintro e w2 ⟨rfl, rfl⟩
          go_wp2_with fail
          go_loopw [6] (fun v wr => ∃ j : Nat, v = .int .i64 (j : Nat) ∧ j ≤ i ∧ Hid (∀ x, x < j → (zs[x]?.getD 0).toNat &&& s ≠ 0) ∧ Hid (Below wo.heap.size wo wr)) (fun v _ => i - (intOf v).toNat)
          case atStart => exact ⟨0, rfl, Nat.zero_le _, fun j h => absurd h (Nat.not_lt_zero _), hB⟩
          case round =>
            clear hB hcell hma
            obtain ⟨j, rfl, hj, hy, hB⟩ := hrel
            by_cases hji : j < i
            · obtain ⟨b', off', e', hb', hcz⟩ := (HC.out.later hB.out) i (by rw [HL.out]; exact hlt)
              cases e'
              obtain ⟨b', off', e', hb'', hcy⟩ := (HC.out.later hB.out) j (by rw [HL.out]; omega)
              cases e'
              obtain ⟨t, ht, htN, _⟩ := qone_zero (hz.out j hji)
              rw [HZ.out] at hcz
              have hty : (zs[j]?.getD 0).toNat = t := by rw [ht, Int.toNat_natCast]
              rw [ht] at hcy
              have ht8 : t < 256 := by omega
              have hbo := fun W => both_any s t W (by omega) (by omega)
              have hjil : (j : Int) < (i : Int) := by omega
              have hjnl : (j : Int) < (n : Int) := by omega
              obtain ⟨u, hu⟩ : ∃ u, s &&& t = u := ⟨_, rfl⟩
              rw [hu] at hbo
              have HU : Hid ((zs[j]?.getD 0).toNat &&& s = u) := (by rw [hty, Nat.and_comm]; exact hu : (zs[j]?.getD 0).toNat &&& s = u)
              obtain ⟨wq, hwq⟩ : ∃ wq, wq = wr := ⟨_, rfl⟩
              subst hwq
              clear hu hty ht htN
              by_cases hu0 : u = 0
              · subst hu0
                have h1 : qone N zs i = 6 := qone_clash HZ.out HSN.out HS0.out hji HU.out
                have HQ : Hid (qcode N zs = 6) := by have := HBad.out; rw [h1] at this; exact this (by decide)
                clear h1
                go_wp2_with fail
                go_big_quiet ((go_at_call 25; exact Calls.quiet_of_same ((hbo _).mono (fun e w' h => ⟨h.1, h.2.symm⟩))))
                go_wp2_with fail
                go_ret
                exact ⟨by rw [HQ.out]; rfl, bel_drN hB.out _⟩
              · have g6 : ((u : Int) == 0) = false := by simp; omega
                have HN : Hid (∀ x, x < j + 1 → (zs[x]?.getD 0).toNat &&& s ≠ 0) := fun x hx => by
                  by_cases e : x = j
                  · rw [e, HU.out]; exact hu0
                  · exact hy.out x (by omega)
                clear hu0
                go_wp2_with fail
                go_big_quiet ((go_at_call 25; exact Calls.quiet_of_same ((hbo _).mono (fun e w' h => ⟨h.1, h.2.symm⟩))))
                go_wp2_with fail
                go_roundw
                case rel => exact ⟨j + 1, by go_num, by omega, HN, bel_drN hB.out _⟩
                case measure => simp [intOf]; omega
            · obtain rfl : i = j := by omega
              have HN : Hid (∀ x, x < i + 1 → qone N zs x = 0) := fun x hx => by
                by_cases e : x = i
                · rw [e]; exact qone_good HZ.out HSN.out HS0.out hy.out
                · exact hz.out x (by omega)
              go_wp2_with fail
              go_roundw
              case rel => exact ⟨i + 1, by go_num, by omega, HN, hB⟩
              case measure => simp [intOf]; omega
    · obtain rfl : n = i := by omega
      have HQ : Hid (qcode N zs = 0) := qcode_good HM.out (by rw [HL.out]; exact hn0) (by rw [HL.out]; exact hn20) (fun j hj => hz.out j (by rw [← HL.out]; exact hj))
      go_wp2_with fail
      go_ret
      exact ⟨by rw [HQ.out]; rfl, hB.out⟩
set_option maxRecDepth 100000 in
set_option maxHeartbeats 1000000 in
theorem rhas_ok (S : List Nat) (s : Nat) (p : Option Addr) (n cap : Nat) (w : World) (hl : S.length = n) (hmax : n ≤ maxLen) (hS : ∀ j, M.row S j < 4096) (hs : s < 4096) (hc : HasI (ints S) p w) :
    Calls Tryd.prog 19 #[.slice p n cap, .int .i64 (s : Nat)] w fun e w' => e = .returned (.bool (M.hasQ S s)) ∧ w = w' := by
  unfold maxLen at hmax
  have HC : Hid (HasN (M.row S) n p w) := by have := hc.toN; rw [hl] at this; exact this
  have HL : Hid (S.length = n) := hl
  clear hc hl
  go_enter Tryd.func19, Tryd.ntmps19
  go_wp2_with fail
  go_loop [5] (fun v => ∃ i : Nat, v = .int .i64 (i : Nat) ∧ i ≤ n ∧ Hid (∀ j, j < i → M.subB (M.row S j) s = false)) (fun v => n - (intOf v).toNat)
  case atStart => exact ⟨0, rfl, Nat.zero_le _, fun j h => absurd h (Nat.not_lt_zero _)⟩
  case round =>
    obtain ⟨i, rfl, hi, hz⟩ := hrel
    by_cases hlt : i < n
    · obtain ⟨b, off, rfl, hb, hcell⟩ := HC.out i hlt
      have hri := hS i
      obtain ⟨x, hx⟩ : ∃ x, M.row S i = x := ⟨_, rfl⟩
      have HX : Hid (M.row S i = x) := hx
      rw [hx] at hcell hri
      have hwi := fun W => within_any x s W (by omega) (by omega)
      have hin : (i : Int) < (n : Int) := by omega
      clear hx
      cases hq : M.subB x s with
      | true =>
        rw [hq] at hwi
        have HG : Hid (M.hasQ S s = true) := M.hasQ_at (by rw [HL.out]; exact hlt) (by rw [HX.out]; exact hq)
        clear hq
        go_wp2_with fail
        refine (hwi _).mono ?_
        rintro e w2 ⟨rfl, rfl⟩
        go_wp2_with fail
        go_ret
        exact ⟨by rw [HG.out]; rfl, rfl⟩
      | false =>
        rw [hq] at hwi
        have HN : Hid (∀ j, j < i + 1 → M.subB (M.row S j) s = false) := fun j hj => by
          by_cases e : j = i
          · rw [e, HX.out]; exact hq
          · exact hz.out j (by omega)
        clear hq
        go_wp2_with fail
        refine (hwi _).mono ?_
        rintro e w2 ⟨rfl, rfl⟩
        go_wp2_with fail
        go_round
        case rel => exact ⟨i + 1, by go_num, by omega, HN⟩
        case measure => simp [intOf]; omega
    · obtain rfl : n = i := by omega
      have HG : Hid (M.hasQ S s = false) := M.hasQ_not (fun j hj => hz.out j (by rw [← HL.out]; exact hj))
      go_wp2_with fail
      go_ret
      exact ⟨by rw [HG.out]; rfl, rfl⟩
/-- what the document's Full tells -/
def fullI : Option Nat → Int
  | some s => (s : Int)
  | none => -1
set_option maxRecDepth 100000 in
set_option maxHeartbeats 2000000 in
theorem rfull_ok (N : Nat) (S : List Nat) (p : Option Addr) (n cap : Nat) (w : World) (hR : QR N S) (hl : S.length = n) (hc : HasI (ints S) p w) :
    Calls Tryd.prog 12 #[.int .i64 (N : Nat), .slice p n cap] w fun e w' => e = .returned (.int .i64 (fullI (M.fullQ N S))) ∧ w = w' := by
  have hn20 : n ≤ 20 := hl ▸ hR.len
  have hN8 := hR.hi
  have hh := fun s (hs : s < 256) => rhas_ok S s p n cap w hl (by unfold maxLen; omega) (fun j => by have := hR.row j; omega) (by omega) hc
  have h8 := pow8 hN8
  obtain ⟨q, hq⟩ : ∃ q : Nat, 2 ^ N = q := ⟨_, rfl⟩
  have hpo := fun W => pow2_any N q W (by omega) hq
  have HQ : Hid (2 ^ N = q) := hq
  rw [hq] at h8
  clear hc hR hl hq
  go_enter Tryd.func12, Tryd.ntmps12
  go_wp2_with fail
  go_loopw [5] (fun v wr => ∃ k : Nat, v = .int .i64 (k : Nat) ∧ k ≤ q ∧ Hid (∀ j, j < k → M.openQ N S j = false) ∧ wr = w) (fun v _ => q - (intOf v).toNat)
  case atStart => exact ⟨0, rfl, Nat.zero_le _, fun j h => absurd h (Nat.not_lt_zero _), rfl⟩
  case round =>
    obtain ⟨k, rfl, hk, hz, rfl⟩ := hrel
    by_cases hlt : k < q
    · have hkq : decide ((k : Int) < (q : Int)) = true := decide_eq_true (by omega)
      have hkN : k < 2 ^ N := by rw [HQ.out]; exact hlt
      have hcp : M.cpl N k < 256 := by have := @M.cpl_lt N k; rw [HQ.out] at this; omega
      have hha := hh k (by omega)
      have hhb := hh (M.cpl N k) hcp
      have hcq : (q : Int) - 1 - (k : Int) = (M.cpl N k : Nat) := by unfold M.cpl; rw [HQ.out]; omega
      have hop : M.openQ N S k = (!M.hasQ S k && !M.hasQ S (M.cpl N k)) := rfl
      obtain ⟨a, ha⟩ : ∃ a, M.hasQ S k = a := ⟨_, rfl⟩
      obtain ⟨b, hb⟩ : ∃ b, M.hasQ S (M.cpl N k) = b := ⟨_, rfl⟩
      rw [ha] at hha hop
      rw [hb] at hhb hop
      obtain ⟨c, hcc⟩ : ∃ c, M.cpl N k = c := ⟨_, rfl⟩
      rw [hcc] at hcq hhb
      obtain ⟨q1, hq1⟩ : ∃ q1 : Int, (q : Int) - 1 = q1 := ⟨_, rfl⟩
      rw [hq1] at hcq
      have hq10 : 0 ≤ q1 := by omega
      have hq18 : q1 ≤ 256 := by omega
      have hnext : M.openQ N S k = false → ∀ j, j < k + 1 → M.openQ N S j = false := fun h j hj => by
        by_cases e : j = k
        · rw [e]; exact h
        · exact hz.out j (by omega)
      clear ha hb hcc hcp hh
      cases a with
      | true =>
        have HN : Hid (∀ j, j < k + 1 → M.openQ N S j = false) := hnext (by rw [hop]; rfl)
        clear hnext hop hkN
        go_wp2_with fail
        refine (hpo _).mono ?_
        rintro e w2 ⟨rfl, rfl⟩
        go_wp2_with fail
        refine hha.mono ?_
        rintro e w2 ⟨rfl, rfl⟩
        go_wp2_with fail
        go_roundw
        case rel => exact ⟨k + 1, by go_num, by omega, HN, trivial⟩
        case measure => simp [intOf]; omega
      | false =>
        cases b with
        | true =>
          have HN : Hid (∀ j, j < k + 1 → M.openQ N S j = false) := hnext (by rw [hop]; rfl)
          clear hnext hop hkN
          go_wp2_with fail
          refine (hpo _).mono ?_
          rintro e w2 ⟨rfl, rfl⟩
          go_wp2_with fail
          refine hha.mono ?_
          rintro e w2 ⟨rfl, rfl⟩
          go_wp2_with fail
          refine (hpo _).mono ?_
          rintro e w2 ⟨rfl, rfl⟩
          go_wp2_with fail
          refine hhb.mono ?_
          rintro e w2 ⟨rfl, rfl⟩
          go_wp2_with fail
          go_roundw
          case rel => exact ⟨k + 1, by go_num, by omega, HN, trivial⟩
          case measure => simp [intOf]; omega
        | false =>
          have HF : Hid (M.fullQ N S = some k) := full_at hkN hz.out (by rw [hop]; rfl)
          clear hnext hop hkN
          go_wp2_with fail
          refine (hpo _).mono ?_
          rintro e w2 ⟨rfl, rfl⟩
          go_wp2_with fail
          refine hha.mono ?_
          rintro e w2 ⟨rfl, rfl⟩
          go_wp2_with fail
          refine (hpo _).mono ?_
          rintro e w2 ⟨rfl, rfl⟩
          go_wp2_with fail
          refine hhb.mono ?_
          rintro e w2 ⟨rfl, rfl⟩
          go_wp2_with fail
          go_ret
          exact ⟨by rw [HF.out]; rfl, rfl⟩
    · obtain rfl : q = k := by omega
      have hkq : decide ((q : Int) < (q : Int)) = false := decide_eq_false (by omega)
      have HF : Hid (M.fullQ N S = none) := full_all (by rw [HQ.out]; exact hz.out)
      clear hh
      go_wp2_with fail
      refine (hpo _).mono ?_
      rintro e w2 ⟨rfl, rfl⟩
      go_wp2_with fail
      go_ret
      exact ⟨by rw [HF.out]; rfl, rfl⟩
end Go.Proofs.YtfjmealeglbklaaDoor
