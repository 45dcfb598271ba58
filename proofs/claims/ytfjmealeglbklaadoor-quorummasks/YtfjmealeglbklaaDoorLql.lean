/- THE LEAST ONES ARE ENOUGH (law QuorumLeast), the walk. -/
import Derived.Test.YtfjmealeglbklaaDoorQfc
import Derived.Test.YtfjmealeglbklaaDoorRefWit
import Derived.BigQuiet
namespace Go.Proofs.YtfjmealeglbklaaDoor
open Go.RowKit

theorem qowns_cap {w : World} {base n size : Nat} {e : TypeId} {v : Value} {xs : List Value} (h : w.ownsRow base e size v n xs) : ∃ p c, v = .slice p n c ∧ n ≤ c := by
  rcases h.2 with ⟨rfl, e⟩ | ⟨g, cap, cur, rfl, _, _, h1, _⟩
  · exact ⟨none, 0, by rw [← e], by omega⟩
  · exact ⟨_, cap, rfl, h1⟩
theorem M.row_rise {L : List Nat} (h : L.Pairwise (· < ·)) {i j : Nat} (hij : i < j) (hj : j < L.length) : M.row L i < M.row L j := by
  have := List.pairwise_iff_getElem.1 h i j (by omega) hj hij
  unfold M.row
  rw [List.getElem?_eq_getElem (by omega), List.getElem?_eq_getElem hj]; exact this
theorem M.row_ne {L : List Nat} (h : L.Pairwise (· < ·)) {i j : Nat} (hij : i ≠ j) (hi : i < L.length) (hj : j < L.length) : M.row L i ≠ M.row L j := by
  rcases Nat.lt_or_gt_of_ne hij with h1 | h1
  · have := M.row_rise h h1 hj; omega
  · have := M.row_rise h h1 hi; omega
/-- what Has tells at any number -/
theorem qHas_any (N : Nat) (S : List Nat) (sz : Int) (p : Option Addr) (n cap : Nat) (w : World) (hR : QR N S) (hl : S.length = n) (hcap : n ≤ cap) (hc : HasI (ints S) p w) :
    Calls Tryd.prog 20 #[.int .i64 (N : Nat), .slice p n cap, .int .i64 sz] w fun e w' => e = .returned (.tuple #[.bool (setB sz N && M.hasQ S sz.toNat), if setB sz N then .nilIface else errP 1]) ∧ Below w.heap.size w w' := by
  cases hs : setB sz N with
  | true =>
    obtain ⟨s, rfl, hsN⟩ := qset_get hs
    rw [Int.toNat_natCast, Bool.true_and]
    exact qHas_ok N S s p n cap w hR hsN hl hcap hc
  | false =>
    refine (qHas_err N (ints S) sz 1 p n cap w (by rw [ints_length]; exact hl) hcap hc ?_ (by decide)).mono ?_
    · unfold hcodeQ
      rw [hR.code, if_pos rfl, Int.toNat_natCast, hs]; rfl
    · rintro e w' ⟨rfl, hB⟩
      exact ⟨rfl, hB⟩
set_option maxRecDepth 100000 in
set_option maxHeartbeats 4000000 in
theorem ql_walk (m : Int) (zs : List Int) (p : Option Addr) (n cap : Nat) (sz : Int) (w : World) (he : Env w) (_ : (Lit.int .i64 m).wf = true) (hl : zs.length = n) (_ : n ≤ maxLen) (hc : HasI zs p w) (_ : ∀ k : Nat, zs[k]?.getD 0 < 9223372036854775808) (hcap : n ≤ cap) (_ : cap ≤ maxLen) (_ : (Lit.int .i64 sz).wf = true) :
    Calls Tryd.prog 6 #[.int .i64 m, .slice p n cap, .int .i64 sz] w fun e w' => e = .returned (.bool true) ∧ Below w.heap.size w w' := by
  go_enter Tryd.func6, Tryd.ntmps6
  go_wp2_with fail
  refine (quorumFact_ok _ he).mono ?_
  rintro e w1 ⟨rfl, hB1⟩
  have hc1 := hc.later hB1
  go_wp2_with fail
  by_cases h0 : qcode m zs = 0
  · obtain ⟨N, S, rfl, rfl, hR⟩ := qcode_get h0
    rw [ints_length] at hl
    refine (qLeast_ok N S p n cap w1 hR hl hcap hc1).mono ?_
    rintro e w2 ⟨v, rfl, hown, hB2⟩
    have hC2 := bel_on hB1 hB2
    have hc2 := hc1.later hB2
    obtain ⟨pv, cv, rfl, hlc⟩ := qowns_cap hown
    have hI := hasI_of_owns rfl hown
    have hRL := hR.least
    have hlen := M.least_len hR.ok
    have hap := fun a b => @M.least_apart N S hR.ok a b
    have hlh := M.least_has hR.ok
    have hup := M.least_rise N S
    obtain ⟨L, hL⟩ : ∃ L, M.leastQ N S = L := ⟨_, rfl⟩
    rw [hL] at hown hI hRL hlen hap hlh hlc hup
    have HUP : Hid (L.Pairwise (· < ·)) := hup
    clear hup
    rw [hL]
    obtain ⟨l, hll⟩ : ∃ l, L.length = l := ⟨_, rfl⟩
    rw [hll] at hown hlen hlc
    rw [hll]
    have hl20 : l ≤ 20 := hll ▸ hRL.len
    have hn20 : n ≤ 20 := hl ▸ hR.len
    rw [hl] at hlen
    have HLL : Hid (L.length = l) := hll
    have HLH : Hid (∀ s, M.hasQ L s = M.hasQ S s) := hlh
    have HAP : Hid (∀ a b, a ∈ L → b ∈ L → M.subB a b = true → a = b) := hap
    have hck := qcheck_nil N L pv l cv w2 hRL hll hlc hI
    clear h0 hown hL hap hlh hll hc hc1 he
    go_wp2_with fail
    refine hck.mono ?_
    rintro e w3 ⟨rfl, hB3⟩
    have hC3 := bel_on hC2 hB3
    have hc3 := hc2.later hB3
    have hI3 := hI.later hB3
    have g1 : decide ((n : Int) < (l : Int)) = false := decide_eq_false (by omega)
    have g1' : decide (n < l) = false := decide_eq_false (by omega)
    have HC3 : Hid (Below w.heap.size w w3) := hC3
    have HS3 : Hid (HasI (ints S) p w3) := hc3
    have HI3 : Hid (HasI (ints L) pv w3) := hI3
    clear hck hB3 hB2 hB1 hC2 hC3 hI hI3 hc2 hc3
    go_wp2_with fail
    have H0 : Below w3.heap.size w3 w3 := Below.refl _ _
    go_loopw [10] (fun v wr => ∃ i : Nat, v = .int .i64 (i : Nat) ∧ i ≤ l ∧ Hid (Below w3.heap.size w3 wr)) (fun v _ => l - (intOf v).toNat)
    case atStart => exact ⟨0, rfl, Nat.zero_le _, H0⟩
    case round =>
      clear H0
      obtain ⟨i, rfl, hi, hB⟩ := hrel
      by_cases hlt : i < l
      · have hil : (i : Int) < (l : Int) := by omega
        obtain ⟨wo, hwo⟩ : ∃ wo, wo = wr := ⟨_, rfl⟩
        subst hwo
        go_wp2_with fail
        go_loopw [11] (fun v wr => ∃ j : Nat, v = .int .i64 (j : Nat) ∧ j ≤ l ∧ Hid (Below w3.heap.size w3 wr)) (fun v _ => l - (intOf v).toNat)
        case atStart => exact ⟨0, rfl, Nat.zero_le _, hB⟩
        case round =>
          clear hB
          obtain ⟨j, rfl, hj, hB⟩ := hrel
          by_cases hjl : j < l
          · have hjl' : (j : Int) < (l : Int) := by omega
            obtain ⟨b, off, rfl, hb, hcz⟩ := (HI3.out.later hB.out) i (by rw [ints_length, HLL.out]; exact hlt)
            obtain ⟨b', off', e', hb', hcy⟩ := (HI3.out.later hB.out) j (by rw [ints_length, HLL.out]; exact hjl)
            cases e'
            rw [ints_get] at hcz hcy
            have hri := hRL.row i
            have hrj := hRL.row j
            have hap := HAP.out (M.row L i) (M.row L j) (M.row_inS (by rw [HLL.out]; exact hlt)) (M.row_inS (by rw [HLL.out]; exact hjl))
            by_cases hij : i = j
            · have g2 : ((i : Int) != (j : Int)) = false := by simp [hij]
              have g2' : (i != j) = false := by simp [hij]
              clear hap hij
              go_wp2_with fail
              go_big_quiet (fail)
              go_wp2_with fail
              go_roundw
              case rel => exact ⟨j + 1, by go_num, by omega, bel_drN hB.out _⟩
              case measure => simp [intOf]; omega
            · have g2 : ((i : Int) != (j : Int)) = true := by simp; omega
              have g2' : (i != j) = true := by simpa using hij
              have hne : M.subB (M.row L i) (M.row L j) = false := by
                cases e : M.subB (M.row L i) (M.row L j) with
                | false => rfl
                | true => exact absurd (hap e) (M.row_ne HUP.out hij (by rw [HLL.out]; exact hlt) (by rw [HLL.out]; exact hjl))
              obtain ⟨x, hx⟩ : ∃ x, M.row L i = x := ⟨_, rfl⟩
              obtain ⟨y, hy⟩ : ∃ y, M.row L j = y := ⟨_, rfl⟩
              rw [hx] at hri hcz hne
              rw [hy] at hrj hcy hne
              have hwi := fun W => within_any x y W (by omega) (by omega)
              rw [hne] at hwi
              clear hap hij hx hy hne
              go_wp2_with fail
              go_big_quiet ((go_at_call 26; exact Calls.quiet_of_same ((hwi _).mono (fun e w' h => ⟨h.1, h.2.symm⟩))))
              go_wp2_with fail
              go_roundw
              case rel => exact ⟨j + 1, by go_num, by omega, bel_drN hB.out _⟩
              case measure => simp [intOf]; omega
          · obtain rfl : j = l := by omega
            go_wp2_with fail
            go_roundw
            case rel => exact ⟨i + 1, by go_num, by omega, hB⟩
            case measure => simp [intOf]; omega
      · obtain rfl : i = l := by omega
        have h1 := qHas_any N S sz p n cap wr hR hl hcap (HS3.out.later hB.out)
        have h2 := fun W h => qHas_any N L sz pv i cv W hRL HLL.out hlc h
        rw [HLH.out] at h2
        obtain ⟨q, hq⟩ : ∃ q, M.hasQ S sz.toNat = q := ⟨_, rfl⟩
        rw [hq] at h1 h2
        clear hq
        cases hs : setB sz N with
        | true =>
          rw [hs] at h1 h2
          simp only [Bool.true_and, if_true] at h1 h2
          clear hs
          go_wp2_with fail
          refine h1.mono ?_
          rintro e w4 ⟨rfl, hB4⟩
          have hC4 := bel_on hB.out hB4
          go_wp2_with fail
          refine (h2 _ (HI3.out.later hC4)).mono ?_
          rintro e w5 ⟨rfl, hB5⟩
          have HC5 : Hid (Below w.heap.size w w5) := bel_on (bel_on HC3.out hC4) hB5
          clear h1 h2 hB4 hC4 hB5
          go_wp2_with fail
          go_big_quiet (fail)
          go_wp2_with fail
          go_ret
          exact ⟨by simp, bel_drN HC5.out _⟩
        | false =>
          rw [hs] at h1 h2
          simp only [Bool.false_and, Bool.false_eq_true, if_false] at h1 h2
          unfold errP at h1 h2
          clear hs
          go_wp2_with fail
          refine h1.mono ?_
          rintro e w4 ⟨rfl, hB4⟩
          have hC4 := bel_on hB.out hB4
          go_wp2_with fail
          refine (h2 _ (HI3.out.later hC4)).mono ?_
          rintro e w5 ⟨rfl, hB5⟩
          have HC5 : Hid (Below w.heap.size w w5) := bel_on (bel_on HC3.out hC4) hB5
          clear h1 h2 hB4 hC4 hB5
          go_wp2_with fail
          go_big_quiet (fail)
          go_wp2_with fail
          go_ret
          exact ⟨rfl, bel_drN HC5.out _⟩
  · refine (qLeast_err m zs _ p n cap w1 hl hcap hc1 rfl h0).mono ?_
    rintro e w2 ⟨rfl, hB2⟩
    have hC2 := bel_on hB1 hB2
    unfold errP
    clear h0
    go_wp2_with fail
    go_ret
    exact ⟨rfl, hC2⟩
end Go.Proofs.YtfjmealeglbklaaDoor
