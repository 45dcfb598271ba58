/- WHAT IS FULL CANNOT BE BETTERED (law QuorumFull), the walk. -/
import Derived.Test.YtfjmealeglbklaaDoorLql
import Derived.Test.YtfjmealeglbklaaDoorRefSet
namespace Go.Proofs.YtfjmealeglbklaaDoor
open Go.RowKit

set_option maxRecDepth 100000 in
set_option maxHeartbeats 4000000 in
theorem qf_walk (m : Int) (zs : List Int) (p : Option Addr) (n cap : Nat) (ys : List Int) (q : Option Addr) (k cap2 : Nat) (w : World) (he : Env w) (_ : (Lit.int .i64 m).wf = true) (hl : zs.length = n) (_ : n ≤ maxLen) (hc : HasI zs p w) (_ : ∀ k : Nat, zs[k]?.getD 0 < 9223372036854775808) (hcap : n ≤ cap) (_ : cap ≤ maxLen) (hl2 : ys.length = k) (_ : k ≤ maxLen) (hd : HasI ys q w) (_ : ∀ k : Nat, ys[k]?.getD 0 < 9223372036854775808) (hcap2 : k ≤ cap2) (_ : cap2 ≤ maxLen) :
    Calls Tryd.prog 5 #[.int .i64 m, .slice p n cap, .slice q k cap2] w fun e w' => e = .returned (.bool true) ∧ Below w.heap.size w w' := by
  go_enter Tryd.func5, Tryd.ntmps5
  go_wp2_with fail
  refine (quorumFact_ok _ he).mono ?_
  rintro e w1 ⟨rfl, hB1⟩
  have hc1 := hc.later hB1
  have hd1 := hd.later hB1
  go_wp2_with fail
  by_cases h0 : qcode m zs = 0
  · obtain ⟨N, S, rfl, rfl, hR⟩ := qcode_get h0
    rw [ints_length] at hl
    have hn20 : n ≤ 20 := hl ▸ hR.len
    have hN8 := hR.hi
    have h8 := pow8 hN8
    refine (qFull_ok N S p n cap w1 hR hl hcap hc1).mono ?_
    cases ho : M.fullQ N S with
    | some s =>
      obtain ⟨hsN, hsS, _⟩ := M.full_some ho
      have hmeet := fun a => @M.open_meets N S hR.ok s ho a
      have hhas := fun W h => qHas_ok N S s p n cap W hR hsN hl hcap h
      rw [hsS] at hhas
      rintro e w2 ⟨rfl, hB2⟩
      have HC2 : Hid (Below w.heap.size w w2) := bel_on hB1 hB2
      have hc2 := hc1.later hB2
      obtain ⟨pw, hpw⟩ : ∃ pw, 2 ^ N = pw := ⟨_, rfl⟩
      have hpo := fun W => pow2_any N pw W (by omega) hpw
      rw [hpw] at hsN h8
      have g1 : decide ((pw : Int) ≤ (s : Int)) = false := decide_eq_false (by omega)
      have g1' : decide (pw ≤ s) = false := decide_eq_false (by omega)
      have HL : Hid (S.length = n) := hl
      have HM : Hid (∀ a, a ∈ S → a &&& s ≠ 0) := fun a => hmeet a
      simp only [fullV, Option.isNone_some, Option.getD_some]
      clear h0 hB1 hB2 hc hc1 hd hd1 he hsS hl hl2 hcap2 ho hmeet hpw
      go_wp2_with fail
      refine (hpo _).mono ?_
      rintro e w3 ⟨rfl, rfl⟩
      go_wp2_with fail
      refine (hhas _ hc2).mono ?_
      rintro e w3 ⟨rfl, hB3⟩
      have HC3 : Hid (Below w.heap.size w w3) := bel_on HC2.out hB3
      have HS3 : Hid (HasI (ints S) p w3) := hc2.later hB3
      clear hB3 hc2 hhas hpo
      go_wp2_with fail
      have H0 : Below w3.heap.size w3 w3 := Below.refl _ _
      go_loopw [13] (fun v wr => ∃ i : Nat, v = .int .i64 (i : Nat) ∧ i ≤ n ∧ Hid (Below w3.heap.size w3 wr)) (fun v _ => n - (intOf v).toNat)
      case atStart => exact ⟨0, rfl, Nat.zero_le _, H0⟩
      case round =>
        clear H0
        obtain ⟨i, rfl, hi, hB⟩ := hrel
        by_cases hlt : i < n
        · have hil : (i : Int) < (n : Int) := by omega
          obtain ⟨b, off, rfl, hb, hcz⟩ := (HS3.out.later hB.out) i (by rw [ints_length, HL.out]; exact hlt)
          rw [ints_get] at hcz
          have hri := hR.row i
          have hmt := HM.out (M.row S i) (M.row_inS (by rw [HL.out]; exact hlt))
          have hbo := fun W => both_any (M.row S i) s W (by omega) (by omega)
          obtain ⟨x, hx⟩ : ∃ x, M.row S i = x := ⟨_, rfl⟩
          rw [hx] at hri hcz hmt hbo
          obtain ⟨y, hy⟩ : ∃ y, x &&& s = y := ⟨_, rfl⟩
          rw [hy] at hmt hbo
          have g2 : ((y : Int) == 0) = false := by simp; omega
          clear hx hy hmt
          go_wp2_with fail
          refine (hbo _).mono ?_
          rintro e w4 ⟨rfl, rfl⟩
          go_wp2_with fail
          go_roundw
          case rel => exact ⟨i + 1, by go_num, by omega, hB⟩
          case measure => simp [intOf]; omega
        · obtain rfl : i = n := by omega
          have FB : Hid (Below w.heap.size w wr) := bel_on HC3.out hB.out
          go_wp2_with fail
          go_ret
          exact ⟨rfl, FB.out⟩
    | none =>
      rintro e w2 ⟨rfl, hB2⟩
      have HC2 : Hid (Below w.heap.size w w2) := bel_on hB1 hB2
      have hc2 := hc1.later hB2
      have hd2 := hd1.later hB2
      simp only [fullV, Option.isNone_none, Option.getD_none]
      have hck := qcheck_ok (N : Int) ys q k cap2 w2 hl2 hcap2 hd2
      clear h0 hB1 hB2 hc hc1 hd hd1 he
      go_wp2_with fail
      by_cases h1 : qcode (N : Int) ys = 0
      · obtain ⟨N', O, hNN, rfl, hO⟩ := qcode_get h1
        obtain rfl : N = N' := by omega
        rw [ints_length] at hl2
        have hk20 : k ≤ 20 := hl2 ▸ hO.len
        rw [h1, terr_zero] at hck
        have hbest := @M.full_best N S O hO.ok ho
        have HL : Hid (S.length = n) := hl
        have HL2 : Hid (O.length = k) := hl2
        have HX : Hid ((∀ a, a ∈ S → M.hasQ O a = true) → ∀ b, b ∈ O → M.hasQ S b = true) := fun h b hb => hbest h hb
        clear h1 ho hbest hl hl2
        refine hck.mono ?_
        rintro e w3 ⟨rfl, hB3⟩
        have HC3 : Hid (Below w.heap.size w w3) := bel_on HC2.out hB3
        have HS3 : Hid (HasI (ints S) p w3) := hc2.later hB3
        have HO3 : Hid (HasI (ints O) q w3) := hd2.later hB3
        clear hck hB3 hc2 hd2
        go_wp2_with fail
        have H0 : Below w3.heap.size w3 w3 := Below.refl _ _
        go_loopw [14] (fun v wr => ∃ i : Nat, v = .int .i64 (i : Nat) ∧ i ≤ n ∧ Hid (∀ j, j < i → M.hasQ O (M.row S j) = true) ∧ Hid (Below w3.heap.size w3 wr)) (fun v _ => n - (intOf v).toNat)
        case atStart => exact ⟨0, rfl, Nat.zero_le _, fun j h => absurd h (Nat.not_lt_zero _), H0⟩
        case round =>
          clear H0
          obtain ⟨i, rfl, hi, hz, hB⟩ := hrel
          by_cases hlt : i < n
          · have hil : (i : Int) < (n : Int) := by omega
            obtain ⟨b, off, rfl, hb, hcz⟩ := (HS3.out.later hB.out) i (by rw [ints_length, HL.out]; exact hlt)
            rw [ints_get] at hcz
            have hh := qHas_ok N O (M.row S i) q k cap2 wr hO (hR.ok.lt _ (M.row_inS (by rw [HL.out]; exact hlt))) HL2.out hcap2 (HO3.out.later hB.out)
            have hnx : M.hasQ O (M.row S i) = true → Hid (∀ j, j < i + 1 → M.hasQ O (M.row S j) = true) := fun h j hj => by
              by_cases e : j = i
              · rw [e]; exact h
              · exact hz.out j (by omega)
            obtain ⟨x, hx⟩ : ∃ x, M.row S i = x := ⟨_, rfl⟩
            rw [hx] at hcz hh
            obtain ⟨a, ha⟩ : ∃ a, M.hasQ O x = a := ⟨_, rfl⟩
            rw [ha] at hh
            cases a with
            | true =>
              have HN := hnx (by rw [hx]; exact ha)
              clear hx ha hnx
              go_wp2_with fail
              refine hh.mono ?_
              rintro e w4 ⟨rfl, hB4⟩
              have FB : Hid (Below w3.heap.size w3 w4) := bel_on hB.out hB4
              clear hh hB4
              go_wp2_with fail
              go_roundw
              case rel => exact ⟨i + 1, by go_num, by omega, HN, FB⟩
              case measure => simp [intOf]; omega
            | false =>
              clear hx ha hnx
              go_wp2_with fail
              refine hh.mono ?_
              rintro e w4 ⟨rfl, hB4⟩
              have FB : Hid (Below w.heap.size w w4) := bel_on (bel_on HC3.out hB.out) hB4
              clear hh hB4
              go_wp2_with fail
              go_ret
              exact ⟨rfl, FB.out⟩
          · obtain rfl : i = n := by omega
            have HY : Hid (∀ b, b ∈ O → M.hasQ S b = true) := HX.out fun a ha => by
              obtain ⟨j, hj, rfl⟩ := M.row_get ha
              exact hz.out j (by rw [← HL.out]; exact hj)
            obtain ⟨wo, hwo⟩ : ∃ wo, wo = wr := ⟨_, rfl⟩
            subst hwo
            clear hz
            go_wp2_with fail
            go_loopw [17] (fun v wr => ∃ i : Nat, v = .int .i64 (i : Nat) ∧ i ≤ k ∧ Hid (Below w3.heap.size w3 wr)) (fun v _ => k - (intOf v).toNat)
            case atStart => exact ⟨0, rfl, Nat.zero_le _, hB⟩
            case round =>
              clear hB
              obtain ⟨j, rfl, hj, hB⟩ := hrel
              by_cases hjk : j < k
              · have hjl : (j : Int) < (k : Int) := by omega
                obtain ⟨b, off, rfl, hb, hcz⟩ := (HO3.out.later hB.out) j (by rw [ints_length, HL2.out]; exact hjk)
                rw [ints_get] at hcz
                have hin := M.row_inS (S := O) (i := j) (by rw [HL2.out]; exact hjk)
                have hh := qHas_ok N S (M.row O j) p i cap wr hR (hO.ok.lt _ hin) HL.out hcap (HS3.out.later hB.out)
                rw [HY.out _ hin] at hh
                obtain ⟨x, hx⟩ : ∃ x, M.row O j = x := ⟨_, rfl⟩
                rw [hx] at hcz hh
                clear hx hin
                go_wp2_with fail
                refine hh.mono ?_
                rintro e w4 ⟨rfl, hB4⟩
                have FB : Hid (Below w3.heap.size w3 w4) := bel_on hB.out hB4
                clear hh hB4
                go_wp2_with fail
                go_roundw
                case rel => exact ⟨j + 1, by go_num, by omega, FB⟩
                case measure => simp [intOf]; omega
              · obtain rfl : j = k := by omega
                have FB : Hid (Below w.heap.size w wr) := bel_on HC3.out hB.out
                go_wp2_with fail
                go_ret
                exact ⟨rfl, FB.out⟩
      · rw [terr_ne h1] at hck
        obtain ⟨c, hcc⟩ : ∃ c, qcode (N : Int) ys = c := ⟨_, rfl⟩
        rw [hcc] at hck
        clear h1 hcc
        refine hck.mono ?_
        rintro e w3 ⟨rfl, hB3⟩
        have FB : Hid (Below w.heap.size w w3) := bel_on HC2.out hB3
        go_wp2_with fail
        go_ret
        exact ⟨rfl, FB.out⟩
  · refine (qFull_err m zs _ p n cap w1 hl hcap hc1 rfl h0).mono ?_
    rintro e w2 ⟨rfl, hB2⟩
    have hC2 := bel_on hB1 hB2
    unfold errP
    clear h0
    go_wp2_with fail
    go_ret
    exact ⟨rfl, hC2⟩
end Go.Proofs.YtfjmealeglbklaaDoor
