/- MORE HONEST ONES THAN LIARS (law QuorumMasks), the walk. -/
import Derived.Test.YtfjmealeglbklaaDoorLql
import Derived.Test.YtfjmealeglbklaaDoorRefSet
import Derived.Test.YtfjmealeglbklaaDoorRefMany
namespace Go.Proofs.YtfjmealeglbklaaDoor
open Go.RowKit

theorem manyN_ok {N s : Nat} (w : World) (hN : N ≤ 8) (hs : s < 2 ^ N) :
    Calls Tryd.prog 28 #[.int .i64 (s : Nat)] w fun e w' => e = .returned (.int .i64 (M.cnt N s : Nat)) ∧ w = w' := by
  rw [← M.pc_cnt (by omega) hs]
  exact many_any s w (by have := pow8 hN; omega)
/-- is it tight, as far as it was looked? -/
def TightP (N : Nat) (S : List Nat) (lr : Nat) (q : Nat → Nat → Prop) (s : Bool) : Prop := ∀ a b, q a b → M.cnt N (M.row S a &&& M.row S b) ≤ 2 * lr + 2 → s = true
theorem TightP.step {N : Nat} {S : List Nat} {lr : Nat} {q q' : Nat → Nat → Prop} {s s' : Bool} (h : TightP N S lr q s) (hs : s = true → s' = true) (i j : Nat) (hk : M.cnt N (M.row S i &&& M.row S j) ≤ 2 * lr + 2 → s' = true) (hq : ∀ a b, q' a b → q a b ∨ (a = i ∧ b = j)) : TightP N S lr q' s' := fun a b hab hc => by
  rcases hq a b hab with h1 | ⟨rfl, rfl⟩
  · exact hs (h a b h1 hc)
  · exact hk hc
set_option maxRecDepth 100000 in
set_option maxHeartbeats 4000000 in
theorem qm_walk (m : Int) (zs : List Int) (p : Option Addr) (n cap : Nat) (sz : Int) (w : World) (he : Env w) (_ : (Lit.int .i64 m).wf = true) (hl : zs.length = n) (_ : n ≤ maxLen) (hc : HasI zs p w) (_ : ∀ k : Nat, zs[k]?.getD 0 < 9223372036854775808) (hcap : n ≤ cap) (_ : cap ≤ maxLen) (_ : (Lit.int .i64 sz).wf = true) :
    Calls Tryd.prog 7 #[.int .i64 m, .slice p n cap, .int .i64 sz] w fun e w' => e = .returned (.bool true) ∧ Below w.heap.size w w' := by
  go_enter Tryd.func7, Tryd.ntmps7
  go_wp2_with fail
  refine (quorumFact_ok _ he).mono ?_
  rintro e w1 ⟨rfl, hB1⟩
  have hc1 := hc.later hB1
  go_wp2_with fail
  by_cases h0 : qcode m zs = 0
  · obtain ⟨N, S, rfl, rfl, hR⟩ := qcode_get h0
    rw [ints_length] at hl
    have hn20 : n ≤ 20 := hl ▸ hR.len
    have hN8 := hR.hi
    have h8 := pow8 hN8
    refine (qMasks_ok N S p n cap w1 hR hl hcap hc1).mono ?_
    rintro e w2 ⟨rfl, hB2⟩
    have HC2 : Hid (Below w.heap.size w w2) := bel_on hB1 hB2
    have HS2 : Hid (HasI (ints S) p w2) := hc1.later hB2
    have hmp := M.meet_pos hR.ok
    have hml := M.meet_le_n N S
    have hfl := M.fail_lt hR.ok
    have hleft := fun s => @M.fail_left N S hR.ok s
    have hmk := fun k a b => @M.liars_mask N S k a b
    have htg := fun k => @M.liars_tight N S hR.ok k
    obtain ⟨A, hA⟩ : ∃ A, M.meetQ N S = A := ⟨_, rfl⟩
    rw [hA] at hmp hml hmk htg
    rw [hA]
    obtain ⟨F, hF⟩ : ∃ F, M.failQ N S N 0 = F := ⟨_, rfl⟩
    rw [hF] at hfl hleft
    rw [hF]
    obtain ⟨lr, hlr⟩ : ∃ lr, (A - 1) / 2 = lr := ⟨_, rfl⟩
    rw [hlr]
    have hlr8 : lr ≤ 4 := by omega
    have HMK : Hid (∀ a b, a ∈ S → b ∈ S → 2 * lr + 1 ≤ M.cnt N (a &&& b)) := fun a b ha hb => by
      have := hmk lr a b (by omega) ha hb; omega
    have HTG : Hid (∃ a b, a ∈ S ∧ b ∈ S ∧ M.cnt N (a &&& b) ≤ 2 * lr + 2) := htg lr (by omega)
    have HLF : Hid (∀ s, s < 2 ^ N → M.cnt N s ≤ F → M.hasQ S (M.cpl N s) = true) := fun s => hleft s
    have HL : Hid (S.length = n) := hl
    obtain ⟨pw, hpw⟩ : ∃ pw, 2 ^ N = pw := ⟨_, rfl⟩
    have hpo := fun W => pow2_any N pw W (by omega) hpw
    have HPW : Hid (2 ^ N = pw) := hpw
    rw [hpw] at h8
    have g1 : decide ((lr : Int) < 0) = false := decide_eq_false (by omega)
    have g2 : decide ((F : Int) < 0) = false := decide_eq_false (by omega)
    have g3 : decide ((N : Int) ≤ (F : Int)) = false := decide_eq_false (by omega)
    have g3' : decide (N ≤ F) = false := decide_eq_false (by omega)
    clear h0 hB1 hB2 hc hc1 he hl hA hF hlr hmp hml hmk htg hleft hpw
    go_wp2_with fail
    have H0 : Below w2.heap.size w2 w2 := Below.refl _ _
    have HT0 : Hid (TightP N S lr (fun a b => a < 0 ∧ b < n) false) := fun a b h _ => absurd h.1 (Nat.not_lt_zero _)
    go_loopw [11, 12] (fun u v wr => ∃ (i : Nat) (s : Bool), u = .bool s ∧ v = .int .i64 (i : Nat) ∧ i ≤ n ∧ Hid (TightP N S lr (fun a b => a < i ∧ b < n) s) ∧ Hid (Below w2.heap.size w2 wr)) (fun _ v _ => n - (intOf v).toNat)
    case atStart => exact ⟨0, false, rfl, rfl, Nat.zero_le _, HT0, H0⟩
    case round =>
      clear H0 HT0
      obtain ⟨i, s, rfl, rfl, hi, hT, hB⟩ := hrel
      by_cases hlt : i < n
      · have hil : (i : Int) < (n : Int) := by omega
        have HT1 : Hid (TightP N S lr (fun a b => (a < i ∧ b < n) ∨ (a = i ∧ b < 0)) s) := (fun a b h => hT.out a b (by omega) : TightP N S lr (fun a b => (a < i ∧ b < n) ∨ (a = i ∧ b < 0)) s)
        obtain ⟨wo, hwo⟩ : ∃ wo, wo = wr := ⟨_, rfl⟩
        subst hwo
        clear hT
        go_wp2_with fail
        go_loopw [11, 13] (fun u v wr => ∃ (j : Nat) (s : Bool), u = .bool s ∧ v = .int .i64 (j : Nat) ∧ j ≤ n ∧ Hid (TightP N S lr (fun a b => (a < i ∧ b < n) ∨ (a = i ∧ b < j)) s) ∧ Hid (Below w2.heap.size w2 wr)) (fun _ v _ => n - (intOf v).toNat)
        case atStart => exact ⟨0, s, rfl, rfl, Nat.zero_le _, HT1, hB⟩
        case round =>
          clear hB HT1
          obtain ⟨j, s, rfl, rfl, hj, hT, hB⟩ := hrel
          by_cases hjn : j < n
          · have hjl : (j : Int) < (n : Int) := by omega
            obtain ⟨b, off, rfl, hb, hcz⟩ := (HS2.out.later hB.out) i (by rw [ints_length, HL.out]; exact hlt)
            obtain ⟨b', off', e', hb', hcy⟩ := (HS2.out.later hB.out) j (by rw [ints_length, HL.out]; exact hjn)
            cases e'
            rw [ints_get] at hcz hcy
            have hinx := M.row_inS (S := S) (i := i) (by rw [HL.out]; exact hlt)
            have hiny := M.row_inS (S := S) (i := j) (by rw [HL.out]; exact hjn)
            have hri := hR.row i
            have hrj := hR.row j
            have hmk := HMK.out _ _ hinx hiny
            have hand : M.row S i &&& M.row S j < 2 ^ N := M.and_lt2 (hR.ok.lt _ hinx)
            have hbo := fun W => both_any (M.row S i) (M.row S j) W (by omega) (by omega)
            have hma := fun W => manyN_ok W hN8 hand
            have hkN := M.cnt_le N (M.row S i &&& M.row S j)
            obtain ⟨k, hk⟩ : ∃ k, M.cnt N (M.row S i &&& M.row S j) = k := ⟨_, rfl⟩
            have HK : Hid (M.cnt N (M.row S i &&& M.row S j) = k) := hk
            rw [hk] at hmk hma hkN
            obtain ⟨y, hy⟩ : ∃ y, M.row S i &&& M.row S j = y := ⟨_, rfl⟩
            rw [hy] at hbo hma
            obtain ⟨x1, hx1⟩ : ∃ x1, M.row S i = x1 := ⟨_, rfl⟩
            obtain ⟨x2, hx2⟩ : ∃ x2, M.row S j = x2 := ⟨_, rfl⟩
            rw [hx1] at hcz hbo hri
            rw [hx2] at hcy hbo hrj
            clear hk hy hx1 hx2 hand hinx hiny
            obtain ⟨d, hd⟩ : ∃ d : Int, (k : Int) - (lr : Int) = d := ⟨_, rfl⟩
            have hd1 : (lr : Int) < d := by omega
            have hd2 : d ≤ 8 := by omega
            have g4 : decide (d ≤ (lr : Int)) = false := decide_eq_false (by omega)
            obtain ⟨lr1, hl1⟩ : ∃ lr1 : Int, (lr : Int) + 1 = lr1 := ⟨_, rfl⟩
            obtain ⟨wc, hwc⟩ : ∃ wc, wc = wr := ⟨_, rfl⟩
            subst hwc
            cases s with
            | true =>
              have HT2 : Hid (TightP N S lr (fun a b => (a < i ∧ b < n) ∨ (a = i ∧ b < j + 1)) true) := fun a b _ _ => rfl
              clear hT
              go_wp2_with fail
              go_big_quiet (first | (go_at_call 25; exact Calls.quiet_of_same ((hbo _).mono (fun e w' h => ⟨h.1, h.2.symm⟩))) | (go_at_call 28; exact Calls.quiet_of_same ((hma _).mono (fun e w' h => ⟨h.1, h.2.symm⟩))))
              go_wp2_with fail
              go_roundw
              case rel => exact ⟨j + 1, true, rfl, by go_num, by omega, HT2, bel_drN hB.out _⟩
              case measure => simp [intOf]; omega
            | false =>
              cases hq : decide (d - 1 ≤ lr1) with
              | true =>
                have HT2 : Hid (TightP N S lr (fun a b => (a < i ∧ b < n) ∨ (a = i ∧ b < j + 1)) true) := fun a b _ _ => rfl
                clear hT
                go_wp2_with fail
                go_big_quiet (first | (go_at_call 25; exact Calls.quiet_of_same ((hbo _).mono (fun e w' h => ⟨h.1, h.2.symm⟩))) | (go_at_call 28; exact Calls.quiet_of_same ((hma _).mono (fun e w' h => ⟨h.1, h.2.symm⟩))))
                go_wp2_with fail
                go_roundw
                case rel => exact ⟨j + 1, true, rfl, by go_num, by omega, HT2, bel_drN hB.out _⟩
                case measure => simp [intOf]; omega
              | false =>
                have hqq := of_decide_eq_false hq
                have HT2 : Hid (TightP N S lr (fun a b => (a < i ∧ b < n) ∨ (a = i ∧ b < j + 1)) false) := hT.out.step (fun h => h) i j (fun h => by rw [HK.out] at h; omega) (fun a b h => by omega)
                clear hT hqq
                go_wp2_with fail
                go_big_quiet (first | (go_at_call 25; exact Calls.quiet_of_same ((hbo _).mono (fun e w' h => ⟨h.1, h.2.symm⟩))) | (go_at_call 28; exact Calls.quiet_of_same ((hma _).mono (fun e w' h => ⟨h.1, h.2.symm⟩))))
                go_wp2_with fail
                go_roundw
                case rel => exact ⟨j + 1, false, rfl, by go_num, by omega, HT2, bel_drN hB.out _⟩
                case measure => simp [intOf]; omega
          · obtain rfl : j = n := by omega
            have HT2 : Hid (TightP N S lr (fun a b => a < i + 1 ∧ b < j) s) := (fun a b h => hT.out a b (by omega) : TightP N S lr (fun a b => a < i + 1 ∧ b < j) s)
            clear hT
            go_wp2_with fail
            go_roundw
            case rel => exact ⟨i + 1, s, rfl, by go_num, by omega, HT2, hB⟩
            case measure => simp [intOf]; omega
      · obtain rfl : i = n := by omega
        have HS : Hid (s = true) := by
          obtain ⟨a, b, ha, hb, hab⟩ := HTG.out
          obtain ⟨x, hx, rfl⟩ := M.row_get ha
          obtain ⟨y, hy, rfl⟩ := M.row_get hb
          rw [HL.out] at hx hy
          exact hT.out x y ⟨hx, hy⟩ hab
        obtain rfl := HS.out
        have FB : Hid (Below w.heap.size w wr) := bel_on HC2.out hB.out
        clear HS hT
        by_cases hs0 : sz < 0
        · have g4 : decide (sz < 0) = true := decide_eq_true hs0
          clear hs0
          go_wp2_with fail
          go_ret
          exact ⟨rfl, FB.out⟩
        · obtain ⟨s, rfl⟩ : ∃ s : Nat, sz = s := ⟨sz.toNat, by omega⟩
          have g4 : decide ((s : Int) < 0) = false := decide_eq_false (by omega)
          clear hs0
          by_cases hsp : pw ≤ s
          · have g5 : decide ((pw : Int) ≤ (s : Int)) = true := decide_eq_true (by omega)
            have g5' : decide (pw ≤ s) = true := decide_eq_true hsp
            clear hsp
            go_wp2_with fail
            refine (hpo _).mono ?_
            rintro e w3 ⟨rfl, rfl⟩
            go_wp2_with fail
            go_ret
            exact ⟨rfl, FB.out⟩
          · have hsN : s < 2 ^ N := by rw [HPW.out]; omega
            have g5 : decide ((pw : Int) ≤ (s : Int)) = false := decide_eq_false (by omega)
            have g5' : decide (pw ≤ s) = false := decide_eq_false hsp
            have hma := fun W => manyN_ok W hN8 hsN
            have hlf := HLF.out s hsN
            have hcnt := M.cnt_le N s
            obtain ⟨k, hk⟩ : ∃ k, M.cnt N s = k := ⟨_, rfl⟩
            rw [hk] at hma hlf hcnt
            by_cases hkF : F < k
            · have g6 : decide ((F : Int) < (k : Int)) = true := decide_eq_true (by omega)
              have g6' : decide (F < k) = true := decide_eq_true hkF
              clear hk hlf hkF hsN
              go_wp2_with fail
              refine (hpo _).mono ?_
              rintro e w3 ⟨rfl, rfl⟩
              go_wp2_with fail
              refine (hma _).mono ?_
              rintro e w3 ⟨rfl, rfl⟩
              go_wp2_with fail
              go_ret
              exact ⟨rfl, FB.out⟩
            · have g6 : decide ((F : Int) < (k : Int)) = false := decide_eq_false (by omega)
              have g6' : decide (F < k) = false := decide_eq_false hkF
              have hlf2 := hlf (by omega)
              have hh := qHas_ok N S (M.cpl N s) p i cap wr hR M.cpl_lt HL.out hcap (HS2.out.later hB.out)
              rw [hlf2] at hh
              have hcp : (pw : Int) - 1 - (s : Int) = (M.cpl N s : Nat) := by unfold M.cpl; rw [HPW.out]; omega
              obtain ⟨c, hcc⟩ : ∃ c, M.cpl N s = c := ⟨_, rfl⟩
              rw [hcc] at hh hcp
              obtain ⟨d, hd⟩ : ∃ d : Int, (pw : Int) - 1 = d := ⟨_, rfl⟩
              rw [hd] at hcp
              have hs8 : s ≤ 256 := by omega
              have hdl : d ≤ 256 := by omega
              have hd0 : 0 ≤ d := by omega
              clear hk hlf hlf2 hkF hsN hcc
              go_wp2_with fail
              refine (hpo _).mono ?_
              rintro e w3 ⟨rfl, rfl⟩
              go_wp2_with fail
              refine (hma _).mono ?_
              rintro e w3 ⟨rfl, rfl⟩
              go_wp2_with fail
              refine (hpo _).mono ?_
              rintro e w3 ⟨rfl, rfl⟩
              go_wp2_with fail
              refine hh.mono ?_
              rintro e w4 ⟨rfl, hB4⟩
              have FB2 : Hid (Below w.heap.size w w4) := bel_on FB.out hB4
              clear hh hB4
              go_wp2_with fail
              go_ret
              exact ⟨rfl, FB2.out⟩
  · refine (qMasks_err m zs _ p n cap w1 hl hcap hc1 rfl h0).mono ?_
    rintro e w2 ⟨rfl, hB2⟩
    have hC2 := bel_on hB1 hB2
    unfold errP
    clear h0
    go_wp2_with fail
    go_ret
    exact ⟨rfl, hC2⟩
end Go.Proofs.YtfjmealeglbklaaDoor
