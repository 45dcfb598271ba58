/- The document's own answer on what sets mask (package whensteadref4, Masks); what lay in memory lies as it lay. -/
import Derived.Test.YtfjmealeglbklaaDoorRefQ1
import Derived.Test.YtfjmealeglbklaaDoorRefMany
namespace Go.Proofs.YtfjmealeglbklaaDoor
open Go.RowKit

theorem rmanyN_ok {N s : Nat} (w : World) (hN : N ≤ 8) (hs : s < 2 ^ N) :
    Calls Tryd.prog 28 #[.int .i64 (s : Nat)] w fun e w' => e = .returned (.int .i64 (M.cnt N s : Nat)) ∧ w = w' := by
  rw [← M.pc_cnt (by omega) hs]
  exact many_any s w (by have := pow8 hN; omega)
/-- is a set left, whichever f + 1 are gone, as far as it was looked? -/
def AllP (N : Nat) (S : List Nat) (f k : Nat) : Bool → Prop
  | true => ∀ s, s < k → M.cnt N s = f + 1 → M.hasQ S (M.cpl N s) = true
  | false => M.lostQ N S (f + 1) = false
theorem lost_no {N : Nat} {S : List Nat} {k s : Nat} (hs : s < 2 ^ N) (hc : M.cnt N s = k) (h : M.hasQ S (M.cpl N s) = false) : M.lostQ N S k = false := by
  cases e : M.lostQ N S k with
  | false => rfl
  | true => rw [M.lost_iff.1 e s hs hc] at h; cases h
theorem AllP.keep {N : Nat} {S : List Nat} {f k : Nat} {a : Bool} (h : AllP N S f k a) (hk : M.cnt N k = f + 1 → M.hasQ S (M.cpl N k) = true) : AllP N S f (k + 1) a := by
  cases a with
  | false => exact h
  | true =>
    intro s hs hc
    by_cases e : s = k
    · rw [e]; rw [e] at hc; exact hk hc
    · exact h s (by omega) hc
set_option maxRecDepth 100000 in
set_option maxHeartbeats 4000000 in
theorem rmasks_ok (N : Nat) (S : List Nat) (p : Option Addr) (n cap : Nat) (w : World) (hR : QR N S) (hl : S.length = n) (hc : HasI (ints S) p w) :
    Calls Tryd.prog 13 #[.int .i64 (N : Nat), .slice p n cap] w fun e w' => e = .returned (.tuple #[.int .i64 (((M.meetQ N S - 1) / 2 : Nat) : Int), .int .i64 (M.failQ N S N 0 : Nat)]) ∧ Below w.heap.size w w' := by
  have HC : Hid (HasI (ints S) p w) := hc
  have HR : Hid (QR N S) := hR
  have HL : Hid (S.length = n) := hl
  have hn20 : n ≤ 20 := hl ▸ hR.len
  have hN8 := hR.hi
  have h8 := pow8 hN8
  have h0 : Hid (PairP N S (fun x => x.1 < 0 ∧ x.2 < n) N) := (MinP.start _ _ _ _ (fun x hx => absurd hx.1 (Nat.not_lt_zero _)) : PairP N S (fun x => x.1 < 0 ∧ x.2 < n) N)
  obtain ⟨LR, hLR⟩ : ∃ LR, (M.meetQ N S - 1) / 2 = LR := ⟨_, rfl⟩
  obtain ⟨FF, hFF⟩ : ∃ FF, M.failQ N S N 0 = FF := ⟨_, rfl⟩
  rw [hLR, hFF]
  have HLRR : Hid ((M.meetQ N S - 1) / 2 = LR) := hLR
  have HFFF : Hid (M.failQ N S N 0 = FF) := hFF
  clear hLR hFF
  obtain ⟨w1, hw1⟩ : ∃ w1, w1 = w := ⟨_, rfl⟩
  subst hw1
  clear hc hR hl
  go_enter Tryd.func13, Tryd.ntmps13
  go_wp2_with fail
  go_loopw [6, 7] (fun u v wr => ∃ i m : Nat, u = .int .i64 (m : Nat) ∧ v = .int .i64 (i : Nat) ∧ i ≤ n ∧ Hid (PairP N S (fun x => x.1 < i ∧ x.2 < n) m) ∧ Hid (Below w1.heap.size w1 wr)) (fun _ v _ => n - (intOf v).toNat)
  case atStart => exact ⟨0, N, rfl, rfl, Nat.zero_le _, h0, Below.refl _ _⟩
  case round =>
    clear h0
    obtain ⟨i, m, rfl, rfl, hi, hP, hB⟩ := hrel
    by_cases hlt : i < n
    · have hin : (i : Int) < (n : Int) := by omega
      have hP0 : Hid (PairP N S (fun x => (x.1 < i ∧ x.2 < n) ∨ (x.1 = i ∧ x.2 < 0)) m) := (hP.out.mono (fun y hy => by omega) : PairP N S (fun x => (x.1 < i ∧ x.2 < n) ∨ (x.1 = i ∧ x.2 < 0)) m)
      obtain ⟨wo, hwo⟩ : ∃ wo, wo = wr := ⟨_, rfl⟩
      subst hwo
      clear hP
      go_wp2_with fail
      go_loopw [6, 8] (fun u v wr => ∃ j m : Nat, u = .int .i64 (m : Nat) ∧ v = .int .i64 (j : Nat) ∧ j ≤ n ∧ Hid (PairP N S (fun x => (x.1 < i ∧ x.2 < n) ∨ (x.1 = i ∧ x.2 < j)) m) ∧ Hid (Below w1.heap.size w1 wr)) (fun _ v _ => n - (intOf v).toNat)
      case atStart => exact ⟨0, m, rfl, rfl, Nat.zero_le _, hP0, hB⟩
      case round =>
        clear hP0 hB
        obtain ⟨j, y, rfl, rfl, hj, hP, hB⟩ := hrel
        by_cases hjn : j < n
        · have hjl : (j : Int) < (n : Int) := by omega
          obtain ⟨b, off, rfl, hb, hcz⟩ := (HC.out.later hB.out) i (by rw [ints_length, HL.out]; exact hlt)
          obtain ⟨b', off', e', hb', hcy⟩ := (HC.out.later hB.out) j (by rw [ints_length, HL.out]; exact hjn)
          cases e'
          rw [ints_get] at hcz hcy
          have hri := HR.out.row i
          have hrj := HR.out.row j
          have hand : M.row S i &&& M.row S j < 2 ^ N := M.and_lt2 (HR.out.ok.lt _ (M.row_inS (by rw [HL.out]; exact hlt)))
          have hbo := fun W => both_any (M.row S i) (M.row S j) W (by omega) (by omega)
          have hma := fun W => rmanyN_ok W hN8 hand
          have hst : ∀ m', Nat.min y (M.cnt N (M.row S i &&& M.row S j)) = m' → PairP N S (fun x => (x.1 < i ∧ x.2 < n) ∨ (x.1 = i ∧ x.2 < j + 1)) m' := fun m' hm => hP.out.step (i, j) ⟨by rw [HL.out]; exact hlt, by rw [HL.out]; exact hjn⟩ hm (fun x hx => by
            obtain ⟨a, b⟩ := x
            simp only at hx
            by_cases e : a = i ∧ b = j
            · exact Or.inr (by rw [e.1, e.2])
            · exact Or.inl (by show (a < i ∧ b < n) ∨ (a = i ∧ b < j); omega))
          obtain ⟨k, hk⟩ : ∃ k, M.cnt N (M.row S i &&& M.row S j) = k := ⟨_, rfl⟩
          rw [hk] at hma hst
          obtain ⟨g, hg⟩ : ∃ g, M.row S i &&& M.row S j = g := ⟨_, rfl⟩
          rw [hg] at hbo hma
          obtain ⟨x1, hx1⟩ : ∃ x1, M.row S i = x1 := ⟨_, rfl⟩
          obtain ⟨x2, hx2⟩ : ∃ x2, M.row S j = x2 := ⟨_, rfl⟩
          rw [hx1] at hcz hbo hri
          rw [hx2] at hcy hbo hrj
          obtain ⟨wc, hwc⟩ : ∃ wc, wc = wr := ⟨_, rfl⟩
          subst hwc
          clear hk hg hx1 hx2 hand
          by_cases hky : k < y
          · have g1 : decide ((k : Int) < (y : Int)) = true := decide_eq_true (by omega)
            have g1' : decide (k < y) = true := decide_eq_true hky
            have hP2 : Hid (PairP N S (fun x => (x.1 < i ∧ x.2 < n) ∨ (x.1 = i ∧ x.2 < j + 1)) k) := hst k (by show min y k = k; omega)
            clear hst hP hky
            go_wp2_with fail
            go_big_quiet (first | (go_at_call 25; exact Calls.quiet_of_same ((hbo _).mono (fun e w' h => ⟨h.1, h.2.symm⟩))) | (go_at_call 28; exact Calls.quiet_of_same ((hma _).mono (fun e w' h => ⟨h.1, h.2.symm⟩))))
            go_wp2_with fail
            go_roundw
            case rel => exact ⟨j + 1, k, by go_num, by go_num, by omega, hP2, bel_drN hB.out _⟩
            case measure => simp [intOf]; omega
          · have g1 : decide ((k : Int) < (y : Int)) = false := decide_eq_false (by omega)
            have g1' : decide (k < y) = false := decide_eq_false hky
            have hP2 : Hid (PairP N S (fun x => (x.1 < i ∧ x.2 < n) ∨ (x.1 = i ∧ x.2 < j + 1)) y) := hst y (by show min y k = y; omega)
            clear hst hP hky
            go_wp2_with fail
            go_big_quiet (first | (go_at_call 25; exact Calls.quiet_of_same ((hbo _).mono (fun e w' h => ⟨h.1, h.2.symm⟩))) | (go_at_call 28; exact Calls.quiet_of_same ((hma _).mono (fun e w' h => ⟨h.1, h.2.symm⟩))))
            go_wp2_with fail
            go_roundw
            case rel => exact ⟨j + 1, y, by go_num, by go_num, by omega, hP2, bel_drN hB.out _⟩
            case measure => simp [intOf]; omega
        · obtain rfl : j = n := by omega
          have hP2 : Hid (PairP N S (fun x => x.1 < i + 1 ∧ x.2 < j) y) := (hP.out.mono (fun x hx => by omega) : PairP N S (fun x => x.1 < i + 1 ∧ x.2 < j) y)
          clear hP
          go_wp2_with fail
          go_roundw
          case rel => exact ⟨i + 1, y, by go_num, by go_num, by omega, hP2, hB⟩
          case measure => simp [intOf]; omega
    · obtain rfl : i = n := by omega
      have HM : Hid (m = M.meetQ N S) := pair_end HR.out.ok.some hP.out (fun a b h1 h2 => by rw [HL.out] at h2; exact ⟨h2, by show b < i; omega⟩)
      have hmp := M.meet_pos HR.out.ok
      have hml := M.meet_le_n N S
      rw [← HM.out] at hmp hml
      obtain ⟨lr, hlr⟩ : ∃ lr, (m - 1) / 2 = lr := ⟨_, rfl⟩
      have HLR : Hid (LR = lr) := (by rw [← HLRR.out, ← HM.out]; exact hlr : LR = lr)
      have hlr1 : 2 * lr + 1 ≤ m := by omega
      have hlr2 : m ≤ 2 * lr + 2 := by omega
      obtain ⟨wo, hwo⟩ : ∃ wo, wo = wr := ⟨_, rfl⟩
      subst hwo
      clear hP hlr
      go_wp2_with fail
      go_loop [10] (fun v => ∃ l : Nat, v = .int .i64 (l : Nat) ∧ l ≤ lr) (fun v => lr - (intOf v).toNat)
      case atStart => exact ⟨0, rfl, Nat.zero_le _⟩
      case round =>
        obtain ⟨l, rfl, hl⟩ := hrel
        obtain ⟨l1, hl1⟩ : ∃ l1 : Nat, l + 1 = l1 := ⟨_, rfl⟩
        have hl1i : (l : Int) + 1 = (l1 : Int) := by omega
        obtain ⟨d, hd⟩ : ∃ d : Int, 2 * (l1 : Int) + 1 = d := ⟨_, rfl⟩
        by_cases hll : l < lr
        · have g1 : decide (d ≤ (m : Int)) = true := decide_eq_true (by omega)
          go_wp2_with fail
          go_round
          case rel => exact ⟨l1, by go_num, by omega⟩
          case measure => simp [intOf]; omega
        · obtain rfl : l = lr := by omega
          have g1 : decide (d ≤ (m : Int)) = false := decide_eq_false (by omega)
          obtain ⟨q, hq⟩ : ∃ q : Nat, 2 ^ N = q := ⟨_, rfl⟩
          have hpo := fun W => pow2_any N q W (by omega) hq
          have HQ : Hid (2 ^ N = q) := hq
          rw [hq] at h8
          clear hq
          go_wp2_with fail
          clear hd hl1 hl1i g1
          go_loop [11] (fun v => ∃ f : Nat, v = .int .i64 (f : Nat) ∧ f ≤ N ∧ Hid (∀ i, 0 < i → i ≤ f → M.lostQ N S i = true)) (fun v => N - (intOf v).toNat)
          case atStart => exact ⟨0, rfl, Nat.zero_le _, fun i h1 h2 => by omega⟩
          case round =>
            obtain ⟨f, rfl, hf, hz⟩ := hrel
            by_cases hfN : f < N
            · have hfi : (f : Int) < (N : Int) := by omega
              obtain ⟨f1, hf1⟩ : ∃ f1, f + 1 = f1 := ⟨_, rfl⟩
              have hf1i : (f : Int) + 1 = (f1 : Int) := by omega
              have HF1 : Hid (f + 1 = f1) := hf1
              have HA0 : Hid (AllP N S f 0 true) := fun s hs => absurd hs (Nat.not_lt_zero _)
              have hh := fun W s (hs : s < 256) h => rhas_ok S s p i cap W HL.out (by unfold maxLen; omega) (fun j => by have := HR.out.row j; omega) (by omega) h
              have HCo : Hid (HasI (ints S) p wo) := HC.out.later hB.out
              clear hf1
              go_wp2_with fail
              go_loop [12, 13] (fun u v => ∃ (k : Nat) (a : Bool), u = .bool a ∧ v = .int .i64 (k : Nat) ∧ k ≤ q ∧ Hid (AllP N S f k a)) (fun _ v => q - (intOf v).toNat)
              case atStart => exact ⟨0, true, rfl, rfl, Nat.zero_le _, HA0⟩
              case round =>
                clear HA0
                obtain ⟨k, a, rfl, rfl, hk, hA⟩ := hrel
                by_cases hkq : k < q
                · have g2 : decide ((k : Int) < (q : Int)) = true := decide_eq_true (by omega)
                  have hkN : k < 2 ^ N := by rw [HQ.out]; exact hkq
                  have hma := fun W => rmanyN_ok W hN8 hkN
                  have hcp : M.cpl N k < 256 := by have := @M.cpl_lt N k; rw [HQ.out] at this; omega
                  have hhb := hh wo (M.cpl N k) hcp HCo.out
                  have hcq : (q : Int) - 1 - (k : Int) = (M.cpl N k : Nat) := by unfold M.cpl; rw [HQ.out]; omega
                  have hkeep := @AllP.keep N S f k a hA.out
                  have hno := fun h1 h2 => @lost_no N S (f + 1) k hkN h1 h2
                  obtain ⟨r, hr⟩ : ∃ r, M.hasQ S (M.cpl N k) = r := ⟨_, rfl⟩
                  rw [hr] at hhb hkeep hno
                  obtain ⟨c, hcc⟩ : ∃ c, M.cpl N k = c := ⟨_, rfl⟩
                  rw [hcc] at hhb hcq
                  have hcn := M.cnt_le N k
                  obtain ⟨t, ht⟩ : ∃ t, M.cnt N k = t := ⟨_, rfl⟩
                  rw [ht] at hma hkeep hno hcn
                  rw [HF1.out] at hkeep hno
                  obtain ⟨q1, hq1⟩ : ∃ q1 : Int, (q : Int) - 1 = q1 := ⟨_, rfl⟩
                  rw [hq1] at hcq
                  have hq10 : 0 ≤ q1 := by omega
                  have hq18 : q1 ≤ 256 := by omega
                  have HKeep : Hid ((t = f1 → r = true) → AllP N S f (k + 1) a) := hkeep
                  have HNo : Hid (t = f1 → r = false → M.lostQ N S (f + 1) = false) := by rw [HF1.out]; exact hno
                  clear hr hcc ht hcp hkN hkeep hno hA
                  by_cases htf : t = f1
                  · have g3 : ((t : Int) == (f1 : Int)) = true := by simp; omega
                    cases r with
                    | true =>
                      have HN : Hid (AllP N S f (k + 1) a) := HKeep.out fun _ => rfl
                      clear htf
                      go_wp2_with fail
                      refine (hpo _).mono ?_
                      rintro e w2 ⟨rfl, rfl⟩
                      go_wp2_with fail
                      refine (hma _).mono ?_
                      rintro e w2 ⟨rfl, rfl⟩
                      go_wp2_with fail
                      refine (hpo _).mono ?_
                      rintro e w2 ⟨rfl, rfl⟩
                      go_wp2_with fail
                      refine hhb.mono ?_
                      rintro e w2 ⟨rfl, rfl⟩
                      go_wp2_with fail
                      go_round
                      case rel => exact ⟨k + 1, a, rfl, by go_num, by omega, HN⟩
                      case measure => simp [intOf]; omega
                    | false =>
                      have HN : Hid (AllP N S f (k + 1) false) := HNo.out htf rfl
                      clear htf
                      go_wp2_with fail
                      refine (hpo _).mono ?_
                      rintro e w2 ⟨rfl, rfl⟩
                      go_wp2_with fail
                      refine (hma _).mono ?_
                      rintro e w2 ⟨rfl, rfl⟩
                      go_wp2_with fail
                      refine (hpo _).mono ?_
                      rintro e w2 ⟨rfl, rfl⟩
                      go_wp2_with fail
                      refine hhb.mono ?_
                      rintro e w2 ⟨rfl, rfl⟩
                      go_wp2_with fail
                      go_round
                      case rel => exact ⟨k + 1, false, rfl, by go_num, by omega, HN⟩
                      case measure => simp [intOf]; omega
                  · have g3 : ((t : Int) == (f1 : Int)) = false := by simp; omega
                    have HN : Hid (AllP N S f (k + 1) a) := HKeep.out fun h => absurd h htf
                    clear htf
                    go_wp2_with fail
                    refine (hpo _).mono ?_
                    rintro e w2 ⟨rfl, rfl⟩
                    go_wp2_with fail
                    refine (hma _).mono ?_
                    rintro e w2 ⟨rfl, rfl⟩
                    go_wp2_with fail
                    go_round
                    case rel => exact ⟨k + 1, a, rfl, by go_num, by omega, HN⟩
                    case measure => simp [intOf]; omega
                · obtain rfl : q = k := by omega
                  have g2 : decide ((q : Int) < (q : Int)) = false := decide_eq_false (by omega)
                  cases a with
                  | true =>
                    have HN : Hid (∀ i, 0 < i → i ≤ f1 → M.lostQ N S i = true) := fun i h1 h2 => by
                      rw [← HF1.out] at h2
                      by_cases e : i = f + 1
                      · rw [e]; exact M.lost_iff.2 fun s hs hc => hA.out s (by rw [← HQ.out]; exact hs) hc
                      · exact hz.out i h1 (by omega)
                    have hf1N : f1 ≤ N := by have := HF1.out; omega
                    clear hA
                    go_wp2_with fail
                    refine (hpo _).mono ?_
                    rintro e w2 ⟨rfl, rfl⟩
                    go_wp2_with fail
                    go_round
                    case rel => exact ⟨f1, by go_num, hf1N, HN⟩
                    case measure => have := HF1.out; simp [intOf]; omega
                  | false =>
                    have HF : Hid (FF = f) := (by rw [← HFFF.out]; exact (M.fail_eq hz.out hf (Or.inr hA.out)).symm : FF = f)
                    clear hA
                    go_wp2_with fail
                    refine (hpo _).mono ?_
                    rintro e w2 ⟨rfl, rfl⟩
                    go_wp2_with fail
                    go_ret2
                    exact ⟨by rw [HLR.out, HF.out]; rfl, hB.out⟩
            · obtain rfl : f = N := by omega
              have HF : Hid (FF = f) := (by rw [← HFFF.out]; exact (M.fail_eq hz.out hf (Or.inl rfl)).symm : FF = f)
              go_wp2_with fail
              go_ret2
              exact ⟨by rw [HLR.out, HF.out]; rfl, hB.out⟩
end Go.Proofs.YtfjmealeglbklaaDoor
