/- A ROW IS GOOD, AND ANY GOOD ROW WILL DO (law HistRow), the walk. Written by mk_lhr.py. -/
import Derived.Test.YtcmlkioaclkgnaaHgd
namespace Go.Proofs.Ytcmlkioaclkgnaa
open Go.RowKit
namespace M
theorem best_goodZ {all : Bool} {h : List HOp} {n : Nat} {l : List Nat} (hl : h.length = n) (e : best all h n 0 (fun _ => 0) = some l) : goodZ all h (ints l) = true := by
  obtain ⟨h1, h2⟩ := best_sound e
  exact goodZ_iff.2 ⟨l, rfl, by omega, h2⟩
theorem goodZ_best {all : Bool} {h : List HOp} {n : Nat} {zs : List Int} (hl : h.length = n) (e : goodZ all h zs = true) : (best all h n 0 (fun _ => 0)).isSome = true := by
  obtain ⟨l, rfl, h1, h2⟩ := goodZ_iff.1 e
  obtain ⟨l', e1, _⟩ := best_all h2
  rw [show n = l.length by omega, e1]; rfl
/-- the row that is told comes ahead of a good one, or is it -/
theorem goodZ_lx {all : Bool} {h : List HOp} {n : Nat} {zs : List Int} {l : List Nat} (hl : h.length = n) (e : goodZ all h zs = true) (eb : best all h n 0 (fun _ => 0) = some l) : zs.length = n ∧ ∃ r, zs = ints r ∧ Lx l r := by
  obtain ⟨r, rfl, h1, h2⟩ := goodZ_iff.1 e
  obtain ⟨l', e1, h3⟩ := best_all h2
  rw [show r.length = n by omega, eb] at e1
  cases e1
  exact ⟨by rw [ints_length]; omega, r, rfl, h3⟩
theorem lx_at : ∀ {l r : List Nat} {k : Nat}, Lx l r → k < l.length → (∀ j, j < k → row l j = row r j) → row l k ≤ row r k
  | [], _, _, _, hk, _ => by simp at hk
  | x :: l, [], _, h, _, _ => by simp [Lx] at h
  | x :: l, y :: r, 0, h, _, _ => by
    simp only [Lx] at h
    show x ≤ y
    rcases h with h | ⟨h, _⟩ <;> omega
  | x :: l, y :: r, k + 1, h, hk, he => by
    simp only [Lx] at h
    have e0 : x = y := he 0 (by omega)
    rcases h with h | ⟨_, h⟩
    · omega
    · exact lx_at (k := k) h (by simpa using hk) (fun j hj => he (j + 1) (by omega))
end M
theorem row_gz (l : List Nat) (k : Nat) : (ints l)[k]?.getD 0 = ((M.row l k : Nat) : Int) := ints_get l k
set_option maxRecDepth 100000 in
set_option maxHeartbeats 16000000 in
theorem hr_walk (zs : List Oz) (p : Option Addr) (n cap : Nat) (ws : List Int) (q : Option Addr) (m capq : Nat) (w : World) (hl : zs.length = n) (hmax : n ≤ maxLen) (hcap : n ≤ cap) (hc : HasO zs p w) (hlq : ws.length = m) (hmaxq : m ≤ maxLen) (hq : HasI ws q w) (_ : ∀ k : Nat, ws[k]?.getD 0 < 9223372036854775808) :
    Calls Try.prog 3 #[.slice p n cap, .slice q m capq] w fun e w' => e = .returned (.bool true) ∧ Below w.heap.size w w' := by
  go_enter Try.func3, Try.ntmps3
  go_wp2_with fail
  refine (histFact_ok w).mono ?_
  rintro e w1 ⟨rfl, hB1⟩
  have hc1 := hc.later hB1
  have hq1 := hq.later hB1
  by_cases h0 : hcd zs = 0
  · obtain ⟨h, rfl, hk⟩ := hcd_get h0
    rw [hz_len] at hl
    have hn10 := hk.len
    obtain ⟨R1, hR1⟩ : ∃ R, M.best true h n 0 (fun _ => 0) = R := ⟨_, rfl⟩
    obtain ⟨R2, hR2⟩ : ∃ R, M.best false h n 0 (fun _ => 0) = R := ⟨_, rfl⟩
    have hab : R1.isSome = true → R2.isSome = true := fun e => by
      rw [← hR1] at e
      rw [← hR2]
      exact (best_atom hl hk).2 ((best_atom hl hk).1 e).weak
    obtain ⟨g1, hg1⟩ : ∃ g, M.goodZ true h ws = g := ⟨_, rfl⟩
    obtain ⟨g2, hg2⟩ : ∃ g, M.goodZ false h ws = g := ⟨_, rfl⟩
    have hga : g1 = true → R1.isSome = true := fun e => by rw [← hR1]; exact M.goodZ_best hl (hg1.trans e)
    have hgb : g2 = true → R2.isSome = true := fun e => by rw [← hR2]; exact M.goodZ_best hl (hg2.trans e)
    go_wp2_with fail
    refine (atomic_ok h p n cap w1 hl hk h0 hcap hc1).mono ?_
    rintro e w2 ⟨v1, rfl, hs1, hn1, hB2⟩
    rw [hR1] at hs1 hn1 ⊢
    have hc2 := hc1.later hB2
    have hq2 := hq1.later hB2
    have hC2 := bel_on hB1 hB2
    cases R1 with
    | some L1 =>
      obtain ⟨qa, ca, rfl, hl2⟩ := hs1 L1 rfl
      cases R2 with
      | none => exact absurd (hab rfl) (by simp)
      | some L2 =>
        have hgz1 := M.best_goodZ hl hR1
        have hgz2 := M.best_goodZ hl hR2
        have hll1 : (ints L1).length = n := by rw [ints_length]; exact (M.best_sound hR1).1
        have hll2 : (ints L2).length = n := by rw [ints_length]; exact (M.best_sound hR2).1
        clear hs1 hn1 hab hga hgb hc hc1 hq hq1 hB1 hB2
        go_wp2_with fail
        refine (weak_ok h p n cap w2 hl hk h0 hcap hc2).mono ?_
        rintro e w3 ⟨v2, rfl, hs2, -, hB3⟩
        rw [hR2] at hs2 ⊢
        obtain ⟨qb, cb, rfl, hm3⟩ := hs2 L2 rfl
        have hc3 := hc2.later hB3
        have hq3 := hq2.later hB3
        have hl3 := hl2.later hB3
        have hC3 := bel_on hC2 hB3
        clear hs2 hc2 hq2 hl2 hC2 hB3
        go_wp2_with fail
        refine (good_over h p n cap (ints L1) qa n ca w3 hl hk hc3 hll1 hmax hl3).mono ?_
        rw [hgz1]
        rintro e w4 ⟨rfl, hB4⟩
        have hc4 := hc3.later hB4
        have hq4 := hq3.later hB4
        have hl4 := hl3.later hB4
        have hm4 := hm3.later hB4
        have hC4 := bel_on hC3 hB4
        clear hc3 hq3 hl3 hm3 hC3 hB4
        go_wp2_with fail
        refine (good_there h p n cap (ints L2) qb n cb w4 hl hk hc4 hll2 hmax hm4).mono ?_
        rw [hgz2]
        rintro e w5 ⟨rfl, hB5⟩
        have hc5 := hc4.later hB5
        have hq5 := hq4.later hB5
        have hl5 := hl4.later hB5
        have hC5 := bel_on hC4 hB5
        clear hc4 hq4 hl4 hm4 hC4 hB5 hgz1 hgz2
        go_wp2_with fail
        refine (good_over h p n cap ws q m capq w5 hl hk hc5 hlq hmaxq hq5).mono ?_
        rw [hg1]
        rintro e w6 ⟨rfl, hB6⟩
        have hc6 := hc5.later hB6
        have hq6 := hq5.later hB6
        have hl6 := hl5.later hB6
        have hC6 := bel_on hC5 hB6
        clear hc5 hq5 hl5 hC5 hB6
        have HR1 : Hid (M.best true h n 0 (fun _ => 0) = some L1) := hR1
        have HG1 : Hid (M.goodZ true h ws = g1) := hg1
        clear hR1 hR2 hg1
        cases g1 with
        | true =>
          go_wp2_with fail
          refine (good_there h p n cap ws q m capq w6 hl hk hc6 hlq hmaxq hq6).mono ?_
          rw [hg2]
          rintro e w7 ⟨rfl, hB7⟩
          have hc7 := hc6.later hB7
          have hq7 := hq6.later hB7
          have hl7 := hl6.later hB7
          have hC7 := bel_on hC6 hB7
          clear hc6 hq6 hl6 hC6 hB7 hg2
          obtain ⟨hwn, r, hwr, hlx⟩ := M.goodZ_lx hl HG1.out HR1.out
          cases g2 with
          | true =>
            have HMN : Hid (m = n) := by show _ = _; omega
            have HWR : Hid (ws = ints r) := hwr
            have HLX : Hid (M.Lx L1 r) := hlx
            have HLL : Hid (L1.length = n) := by show _ = _; rw [← hll1, ints_length]
            clear hwn hwr hlx
            go_wp2_with fail
            go_loopw [12] (fun kv wr => ∃ k : Nat, kv = .int .i64 k ∧ k ≤ m ∧ Hid (∀ j, j < k → M.row L1 j = M.row r j) ∧ Below w7.heap.size w7 wr) (fun kv _ => m - (intOf kv).toNat)
            case atStart => exact ⟨0, rfl, Nat.zero_le _, fun j hj => absurd hj (Nat.not_lt_zero _), Below.refl _ _⟩
            case round =>
              obtain ⟨k, rfl, hkm, hsame, hB⟩ := hrel
              by_cases hlt : k < m
              · have hkmi : (k : Int) < (m : Int) := by omega
                have hkni : (k : Int) < (n : Int) := by have := HMN.out; omega
                go_wp2_with fail
                refine (good_over h p n cap ws q m capq wr hl hk (hc7.later hB) hlq hmaxq (hq7.later hB)).mono ?_
                rw [HG1.out]
                rintro e w8 ⟨rfl, hB8⟩
                have hC8 := bel_on hB hB8
                obtain ⟨b1, o1, rfl, hb1, hcq⟩ := (hq7.later hC8) k (by omega)
                obtain ⟨b2, o2, rfl, hb2, hcl⟩ := (hl7.later hC8) k (by rw [hll1]; have := HMN.out; omega)
                rw [HWR.out, ints_get] at hcq
                rw [ints_get] at hcl
                have hle := M.lx_at HLX.out (k := k) (by rw [HLL.out]; have := HMN.out; omega) hsame.out
                have HSA := hsame
                obtain ⟨x, hx⟩ : ∃ x, M.row r k = x := ⟨_, rfl⟩
                obtain ⟨y, hy⟩ : ∃ y, M.row L1 k = y := ⟨_, rfl⟩
                rw [hx] at hcq hle
                rw [hy] at hcl hle
                have HC9 : Hid (Below w.heap.size w w8) := bel_on hC7 hC8
                by_cases hxy : x = y
                · have hd : ((x : Int) != (y : Int)) = false := by simp; omega
                  have HS9 : Hid (∀ j, j < k + 1 → M.row L1 j = M.row r j) := fun j hj => by
                    by_cases e : j = k
                    · subst e; rw [hx, hy, hxy]
                    · exact hsame.out j (by omega)
                  clear hxy hx hy hle hB8 hB hsame HSA
                  go_wp2_with fail
                  go_big_quiet (fail)
                  go_wp2_with fail
                  go_roundw
                  case rel => exact ⟨k + 1, by go_num, by omega, HS9, bel_drN hC8 _⟩
                  case measure => simp [intOf]; omega
                · have hd : ((x : Int) != (y : Int)) = true := by simp; omega
                  have hd2 : decide ((y : Int) < (x : Int)) = true := decide_eq_true (by omega)
                  have hd2n : decide (y < x) = true := decide_eq_true (by omega)
                  clear hxy hx hy hle hB8 hB hsame HSA hC8
                  go_wp2_with fail
                  go_big_quiet (fail)
                  go_wp2_with fail
                  go_big_quiet (fail)
                  go_wp2_with fail
                  go_ret
                  exact ⟨rfl, by repeat first | exact HC9.out | apply bel_drN⟩
              · obtain rfl : k = m := by omega
                have HC9 : Hid (Below w.heap.size w wr) := bel_on hC7 hB
                clear hB hsame
                go_wp2_with fail
                go_ret
                exact ⟨rfl, HC9.out⟩
          | false =>
            have HMN : Hid (m = n) := by show _ = _; omega
            have HWR : Hid (ws = ints r) := hwr
            have HLX : Hid (M.Lx L1 r) := hlx
            have HLL : Hid (L1.length = n) := by show _ = _; rw [← hll1, ints_length]
            clear hwn hwr hlx
            go_wp2_with fail
            go_loopw [12] (fun kv wr => ∃ k : Nat, kv = .int .i64 k ∧ k ≤ m ∧ Hid (∀ j, j < k → M.row L1 j = M.row r j) ∧ Below w7.heap.size w7 wr) (fun kv _ => m - (intOf kv).toNat)
            case atStart => exact ⟨0, rfl, Nat.zero_le _, fun j hj => absurd hj (Nat.not_lt_zero _), Below.refl _ _⟩
            case round =>
              obtain ⟨k, rfl, hkm, hsame, hB⟩ := hrel
              by_cases hlt : k < m
              · have hkmi : (k : Int) < (m : Int) := by omega
                have hkni : (k : Int) < (n : Int) := by have := HMN.out; omega
                go_wp2_with fail
                refine (good_over h p n cap ws q m capq wr hl hk (hc7.later hB) hlq hmaxq (hq7.later hB)).mono ?_
                rw [HG1.out]
                rintro e w8 ⟨rfl, hB8⟩
                have hC8 := bel_on hB hB8
                obtain ⟨b1, o1, rfl, hb1, hcq⟩ := (hq7.later hC8) k (by omega)
                obtain ⟨b2, o2, rfl, hb2, hcl⟩ := (hl7.later hC8) k (by rw [hll1]; have := HMN.out; omega)
                rw [HWR.out, ints_get] at hcq
                rw [ints_get] at hcl
                have hle := M.lx_at HLX.out (k := k) (by rw [HLL.out]; have := HMN.out; omega) hsame.out
                have HSA := hsame
                obtain ⟨x, hx⟩ : ∃ x, M.row r k = x := ⟨_, rfl⟩
                obtain ⟨y, hy⟩ : ∃ y, M.row L1 k = y := ⟨_, rfl⟩
                rw [hx] at hcq hle
                rw [hy] at hcl hle
                have HC9 : Hid (Below w.heap.size w w8) := bel_on hC7 hC8
                by_cases hxy : x = y
                · have hd : ((x : Int) != (y : Int)) = false := by simp; omega
                  have HS9 : Hid (∀ j, j < k + 1 → M.row L1 j = M.row r j) := fun j hj => by
                    by_cases e : j = k
                    · subst e; rw [hx, hy, hxy]
                    · exact hsame.out j (by omega)
                  clear hxy hx hy hle hB8 hB hsame HSA
                  go_wp2_with fail
                  go_big_quiet (fail)
                  go_wp2_with fail
                  go_roundw
                  case rel => exact ⟨k + 1, by go_num, by omega, HS9, bel_drN hC8 _⟩
                  case measure => simp [intOf]; omega
                · have hd : ((x : Int) != (y : Int)) = true := by simp; omega
                  have hd2 : decide ((y : Int) < (x : Int)) = true := decide_eq_true (by omega)
                  have hd2n : decide (y < x) = true := decide_eq_true (by omega)
                  clear hxy hx hy hle hB8 hB hsame HSA hC8
                  go_wp2_with fail
                  go_big_quiet (fail)
                  go_wp2_with fail
                  go_big_quiet (fail)
                  go_wp2_with fail
                  go_ret
                  exact ⟨rfl, by repeat first | exact HC9.out | apply bel_drN⟩
              · obtain rfl : k = m := by omega
                have HC9 : Hid (Below w.heap.size w wr) := bel_on hC7 hB
                clear hB hsame
                go_wp2_with fail
                go_ret
                exact ⟨rfl, HC9.out⟩
        | false =>
          go_wp2_with fail
          refine (good_there h p n cap ws q m capq w6 hl hk hc6 hlq hmaxq hq6).mono ?_
          rw [hg2]
          rintro e w7 ⟨rfl, hB7⟩
          have hc7 := hc6.later hB7
          have hq7 := hq6.later hB7
          have hC7 := bel_on hC6 hB7
          clear hc6 hq6 hl6 hC6 hB7 hg2
          cases g2 with
          | true =>
            go_wp2_with fail
            go_loopw [12] (fun kv wr => kv = .int .i64 0 ∧ wr = w7) (fun _ _ => 0)
            case atStart => exact ⟨rfl, rfl⟩
            case round =>
              obtain ⟨rfl, rfl⟩ := hrel
              by_cases hm0 : 0 < m
              · have hmi : (0 : Int) < (m : Int) := by omega
                go_wp2_with fail
                refine (good_over h p n cap ws q m capq _ hl hk hc7 hlq hmaxq hq7).mono ?_
                rw [HG1.out]
                rintro e w8 ⟨rfl, hB8⟩
                have HB8 : Hid (Below w.heap.size w w8) := bel_on hC7 hB8
                clear hB8 hC7 hc7 hq7
                go_wp2_with fail
                go_ret
                exact ⟨rfl, HB8.out⟩
              · obtain rfl : m = 0 := by omega
                go_wp2_with fail
                go_ret
                exact ⟨rfl, hC7⟩
          | false =>
            go_wp2_with fail
            go_loopw [12] (fun kv wr => kv = .int .i64 0 ∧ wr = w7) (fun _ _ => 0)
            case atStart => exact ⟨rfl, rfl⟩
            case round =>
              obtain ⟨rfl, rfl⟩ := hrel
              by_cases hm0 : 0 < m
              · have hmi : (0 : Int) < (m : Int) := by omega
                go_wp2_with fail
                refine (good_over h p n cap ws q m capq _ hl hk hc7 hlq hmaxq hq7).mono ?_
                rw [HG1.out]
                rintro e w8 ⟨rfl, hB8⟩
                have HB8 : Hid (Below w.heap.size w w8) := bel_on hC7 hB8
                clear hB8 hC7 hc7 hq7
                go_wp2_with fail
                go_ret
                exact ⟨rfl, HB8.out⟩
              · obtain rfl : m = 0 := by omega
                go_wp2_with fail
                go_ret
                exact ⟨rfl, hC7⟩
    | none =>
      obtain rfl := hn1 rfl
      have hg1f : g1 = false := by
        cases g1 with
        | false => rfl
        | true => exact absurd (hga rfl) (by simp)
      subst hg1f
      clear hs1 hn1 hab hga hc hc1 hq hq1 hB1 hB2
      cases R2 with
      | some L2 =>
        have hgz2 := M.best_goodZ hl hR2
        have hll2 : (ints L2).length = n := by rw [ints_length]; exact (M.best_sound hR2).1
        go_wp2_with fail
        refine (weak_ok h p n cap w2 hl hk h0 hcap hc2).mono ?_
        rintro e w3 ⟨v2, rfl, hs2, -, hB3⟩
        rw [hR2] at hs2 ⊢
        obtain ⟨qb, cb, rfl, hm3⟩ := hs2 L2 rfl
        have hc3 := hc2.later hB3
        have hq3 := hq2.later hB3
        have hC3 := bel_on hC2 hB3
        clear hs2 hc2 hq2 hC2 hB3 hgb
        go_wp2_with fail
        refine (good_there h p n cap (ints L2) qb n cb w3 hl hk hc3 hll2 hmax hm3).mono ?_
        rw [hgz2]
        rintro e w5 ⟨rfl, hB5⟩
        have hc5 := hc3.later hB5
        have hq5 := hq3.later hB5
        have hC5 := bel_on hC3 hB5
        clear hc3 hq3 hm3 hC3 hB5 hgz2
        go_wp2_with fail
        refine (good_over h p n cap ws q m capq w5 hl hk hc5 hlq hmaxq hq5).mono ?_
        rw [hg1]
        rintro e w6 ⟨rfl, hB6⟩
        have hc6 := hc5.later hB6
        have hq6 := hq5.later hB6
        have hC6 := bel_on hC5 hB6
        clear hc5 hq5 hC5 hB6
        go_wp2_with fail
        refine (good_there h p n cap ws q m capq w6 hl hk hc6 hlq hmaxq hq6).mono ?_
        rw [hg2]
        rintro e w7 ⟨rfl, hB7⟩
        have hC7 := bel_on hC6 hB7
        clear hc6 hq6 hC6 hB7 hg2 hg1 hR1 hR2
        cases g2 with
        | true =>
          go_wp2_with fail
          go_loopw [12] (fun kv wr => kv = .int .i64 0 ∧ Below w.heap.size w wr) (fun _ _ => 0)
          case atStart => exact ⟨rfl, hC7⟩
          case round =>
            obtain ⟨rfl, hB⟩ := hrel
            by_cases hm0 : 0 < m
            · have hmi : (0 : Int) < (m : Int) := by omega
              go_wp2_with fail
              go_ret
              exact ⟨rfl, hB⟩
            · obtain rfl : m = 0 := by omega
              go_wp2_with fail
              go_ret
              exact ⟨rfl, hB⟩
        | false =>
          go_wp2_with fail
          go_loopw [12] (fun kv wr => kv = .int .i64 0 ∧ Below w.heap.size w wr) (fun _ _ => 0)
          case atStart => exact ⟨rfl, hC7⟩
          case round =>
            obtain ⟨rfl, hB⟩ := hrel
            by_cases hm0 : 0 < m
            · have hmi : (0 : Int) < (m : Int) := by omega
              go_wp2_with fail
              go_ret
              exact ⟨rfl, hB⟩
            · obtain rfl : m = 0 := by omega
              go_wp2_with fail
              go_ret
              exact ⟨rfl, hB⟩
      | none =>
        have hg2f : g2 = false := by
          cases g2 with
          | false => rfl
          | true => exact absurd (hgb rfl) (by simp)
        subst hg2f
        go_wp2_with fail
        refine (weak_ok h p n cap w2 hl hk h0 hcap hc2).mono ?_
        rintro e w3 ⟨v2, rfl, -, hn2, hB3⟩
        rw [hR2] at hn2 ⊢
        obtain rfl := hn2 rfl
        have hc5 := hc2.later hB3
        have hq5 := hq2.later hB3
        have hC5 := bel_on hC2 hB3
        clear hn2 hc2 hq2 hC2 hB3 hgb
        go_wp2_with fail
        refine (good_over h p n cap ws q m capq w3 hl hk hc5 hlq hmaxq hq5).mono ?_
        rw [hg1]
        rintro e w6 ⟨rfl, hB6⟩
        have hc6 := hc5.later hB6
        have hq6 := hq5.later hB6
        have hC6 := bel_on hC5 hB6
        clear hc5 hq5 hC5 hB6
        go_wp2_with fail
        refine (good_there h p n cap ws q m capq w6 hl hk hc6 hlq hmaxq hq6).mono ?_
        rw [hg2]
        rintro e w7 ⟨rfl, hB7⟩
        have hC7 := bel_on hC6 hB7
        clear hc6 hq6 hC6 hB7 hg2 hg1 hR1 hR2
        go_wp2_with fail
        go_loopw [12] (fun kv wr => kv = .int .i64 0 ∧ Below w.heap.size w wr) (fun _ _ => 0)
        case atStart => exact ⟨rfl, hC7⟩
        case round =>
          obtain ⟨rfl, hB⟩ := hrel
          by_cases hm0 : 0 < m
          · have hmi : (0 : Int) < (m : Int) := by omega
            go_wp2_with fail
            go_ret
            exact ⟨rfl, hB⟩
          · obtain rfl : m = 0 := by omega
            go_wp2_with fail
            go_ret
            exact ⟨rfl, hB⟩
  · obtain ⟨c, hcc⟩ : ∃ c, hcd zs = c := ⟨_, rfl⟩
    rw [hcc] at h0
    go_wp2_with fail
    refine (atomic_err zs p n cap c w1 hl hmax hcap hc1 hcc h0).mono ?_
    rintro e w2 ⟨rfl, hB2⟩
    go_wp2_with fail
    refine (weak_err zs p n cap c w2 hl hmax hcap (hc1.later hB2) hcc h0).mono ?_
    rintro e w3 ⟨rfl, hB3⟩
    rw [terr_ne h0]
    have HB : Hid (Below w.heap.size w w3) := bel_on (bel_on hB1 hB2) hB3
    clear h0 hcc hB1 hB2 hB3 hc hc1 hq hq1
    go_wp2_with fail
    go_ret
    exact ⟨rfl, HB.out⟩
end Go.Proofs.Ytcmlkioaclkgnaa
