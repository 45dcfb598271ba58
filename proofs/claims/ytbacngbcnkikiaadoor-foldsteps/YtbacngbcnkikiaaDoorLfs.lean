/- ALL THAT CAN BE AT ONCE, CARTIER AND FOATA (law FoldSteps), the walk. -/
import Derived.Test.YtbacngbcnkikiaaDoorFofc
import Derived.Test.YtbacngbcnkikiaaDoorRefBig
namespace Go.Proofs.YtbacngbcnkikiaaDoor
open Go.RowKit
namespace M
/-- the letters of a step below x -/
def fx (L x : Nat) : List Nat := (List.range x).filter fun y => L.testBit y
theorem fx_hit {L x : Nat} (h : L.testBit x = true) : fx L (x + 1) = fx L x ++ [x] := by unfold fx; rw [List.range_succ, List.filter_append]; simp [h]
theorem fx_miss {L x : Nat} (h : L.testBit x = false) : fx L (x + 1) = fx L x := by unfold fx; rw [List.range_succ, List.filter_append]; simp [h]
theorem fx_le (L x : Nat) : (fx L x).length ≤ x := by unfold fx; exact Nat.le_trans (List.length_filter_le _ _) (by simp)
theorem fx_all (L m : Nat) : fx L m = bitsL m L := rfl
def fla (fk : List Nat) (L x : Nat) : List Nat := fk ++ fx L x
theorem flat_le (m : Nat) (S : Nat → Nat) : ∀ k, (flat m S k).length ≤ k * m
  | 0 => by simp [flat]
  | k + 1 => by
    simp only [flat]
    rw [List.length_append, Nat.succ_mul]
    have h1 := flat_le m S k
    have h2 := fx_le (S k) m
    rw [fx_all] at h2
    omega
/-- is a letter tied to a step ahead, by one of the letters below y? -/
def tdB (f : Nat → Nat → Bool) (S : Sts) (k x y : Nat) : Bool := decide (k = 0) || (List.range y).any fun z => (S.lv (k - 1)).testBit z && !f x z
theorem tdB_zero (f : Nat → Nat → Bool) (S : Sts) (k x : Nat) : tdB f S k x 0 = decide (k = 0) := by simp [tdB]
theorem tdB_next (f : Nat → Nat → Bool) (S : Sts) (k x y : Nat) : tdB f S k x (y + 1) = (tdB f S k x y || ((S.lv (k - 1)).testBit y && !f x y)) := by
  unfold tdB
  rw [List.range_succ, List.any_append]
  simp [Bool.or_assoc]
theorem tdB_all {f : Nat → Nat → Bool} {m : Nat} {S : Sts} (h : WF f m S) {k x : Nat} (hx : (S.lv k).testBit x = true) : tdB f S k x m = true := by
  unfold tdB
  cases k with
  | zero => rfl
  | succ k => rw [show k + 1 - 1 = k by omega]; have := h.tie k x hx; unfold tied at this; rw [this, Bool.or_true]
theorem stp_next {f : Nat → Nat → Bool} {m : Nat} {w : List Nat} {j : Nat} (hj : j < w.length) : (stp f m (w.take (j + 1))).n = max (stp f m (w.take j)).n (lev f m w j + 1) := by rw [take_row hj, stp_snoc]; rfl
end M
theorem beq_nat {a b : Nat} (h : a = b) : ((a : Int) == (b : Int)) = true := by simp; omega
theorem bneN {a b : Nat} (h : ¬ a = b) : ((a : Int) != (b : Int)) = true := by simp; omega
theorem bneN' {a b : Nat} (h : ¬ a = b) : (a != b) = true := by simp; omega
theorem beqN {a b : Nat} (h : a = b) : ((a : Int) != (b : Int)) = false := by simp; omega
theorem flat_ok {F u : List Nat} (hF : FOk F) (hU : WOk F u) : WOk F (M.flat F.length (M.stp (M.fr F) F.length u).lv (M.stp (M.fr F) F.length u).n) := by
  have h := M.stp_word hF.fr (m := F.length) hU.lt
  exact ⟨by rw [h.length hF.fr]; exact hU.len, fun x hx => hU.lt x ((h.mem hF.fr x).1 hx)⟩
theorem flat_same {F u : List Nat} (hF : FOk F) (hU : WOk F u) : sameW F (M.flat F.length (M.stp (M.fr F) F.length u).lv (M.stp (M.fr F) F.length u).n) u = true := (sameW_iff hF (flat_ok hF hU) hU).2 (M.stp_word hF.fr hU.lt)
set_option maxRecDepth 100000 in
set_option maxHeartbeats 16000000 in
theorem fs_walk (zs : List Int) (p : Option Addr) (n cap : Nat) (ws : List Int) (q : Option Addr) (m cap2 : Nat) (w : World) (he : Env w) (hl : zs.length = n) (hmax : n ≤ maxLen) (hc : HasI zs p w) (_ : ∀ k : Nat, zs[k]?.getD 0 < 9223372036854775808) (hl2 : ws.length = m) (hmax2 : m ≤ maxLen) (hd : HasI ws q w) (_ : ∀ k : Nat, ws[k]?.getD 0 < 9223372036854775808) (hcap : m ≤ cap2) (hcmx : cap2 ≤ maxLen) :
    Calls Tryd.prog 6 #[.slice p n cap, .slice q m cap2] w fun e w' => e = .returned (.bool true) ∧ Below w.heap.size w w' := by
  obtain ⟨i0, hi0, hzz⟩ := Option.map_eq_some_iff.1 infoInt
  simp only [Prod.mk.injEq] at hzz
  obtain ⟨hz0, hz1, hz2⟩ := hzz
  go_enter Tryd.func6, Tryd.ntmps6
  go_wp2_with fail
  refine (foldFact_ok _ he).mono ?_
  rintro e w1 ⟨rfl, hB1⟩
  go_wp2_with fail
  by_cases h0 : wcode zs ws = 0
  · obtain ⟨F, u, rfl, rfl, hF, hU⟩ := wcode_get h0
    rw [ints_length] at hl hl2
    have hm : m ≤ 24 := hl2 ▸ hU.len
    have hn6 := hF.len
    refine (fsteps_ok F u p n cap q m cap2 _ hl (he.later hB1) hF (hc.later hB1) hl2 hU (hd.later hB1)).mono ?_
    have hWF := M.stp_wf hF.fr (m := F.length) hU.lt
    have hfok := flat_ok hF hU
    have hfsm := flat_same hF hU
    have hst : stR F u m = M.stL (M.stp (M.fr F) F.length u) := by unfold stR; rw [List.take_of_length_le (by omega)]
    have hnle := M.stp_n_le (M.fr F) F.length u m (by omega)
    have hnm : (M.stp (M.fr F) F.length (u.take m)).n = (M.stp (M.fr F) F.length u).n := by rw [List.take_of_length_le (by omega)]
    rw [hnm] at hnle
    rw [hst, M.stL_length]
    obtain ⟨S, hS⟩ : ∃ S, M.stp (M.fr F) F.length u = S := ⟨_, rfl⟩
    rw [hS] at hWF hfok hfsm hnle hnm
    rw [hS]
    rw [hl] at hWF hfok hfsm
    obtain ⟨N, hN⟩ : ∃ N, S.n = N := ⟨_, rfl⟩
    rw [hN] at hnle hfok hfsm hnm
    rw [hN]
    have HN : Hid (S.n = N) := hN
    have HNM : Hid ((M.stp (M.fr F) n (u.take m)).n = N) := (by rw [← hl]; exact hnm : (M.stp (M.fr F) n (u.take m)).n = N)
    have HW : Hid (M.WF (M.fr F) n S) := hWF
    have hlv : ∀ k, S.lv k < 64 := fun k => by
      have h1 := M.ins_lt hWF k
      have h2 : 2 ^ n ≤ 2 ^ 6 := Nat.pow_le_pow_right (by omega) (by omega)
      omega
    clear hmax hmax2 h0 hWF hst hS hnm
    rintro e w2 ⟨v, rfl, hown, hB2⟩
    obtain ⟨pv, cv, rfl⟩ := owns_slice hown
    have hlI := hasI_of_owns (by rw [M.stL_length]; exact hN) hown
    have hC2 := bel_on hB1 hB2
    clear hB1 hB2 hown hN
    go_wp2_with fail
    refine (fahead_ok F u p n cap q m cap2 _ hl (he.later hC2) hF (hc.later hC2) hl2 hU (hd.later hC2) hcap hcmx).mono ?_
    rintro e w3 ⟨A, rfl, hrA, hA, hB3⟩
    have hC3 := bel_on hC2 hB3
    have hl3 := hlI.later hB3
    have hmm : (m != m) = false := by simp
    have hmm' : ((m : Int) != (m : Int)) = false := by simp
    have hown0 : w3.ownsRow w3.heap.size 3 1 (.slice none 0 0) (M.flat n S.lv 0).length (icells (M.flat n S.lv 0)) := ⟨rfl, .inl ⟨rfl, rfl⟩⟩
    clear hC2 hB3 hlI
    go_wp2_with fail
    go_loopw [10, 11] (fun sv kv wr => ∃ k : Nat, kv = .int .i64 k ∧ k ≤ N ∧ wr.ownsRow w3.heap.size 3 1 sv (M.flat n S.lv k).length (icells (M.flat n S.lv k)) ∧ Below w3.heap.size w3 wr) (fun _ kv _ => N - (intOf kv).toNat)
    case atStart => exact ⟨0, rfl, Nat.zero_le _, hown0, Below.refl _ _⟩
    case round =>
      clear hown0
      obtain ⟨k, rfl, hk, hown, hB⟩ := hrel
      obtain ⟨p', c', rfl⟩ := owns_slice hown
      by_cases hkN : k < N
      · obtain ⟨bl, ol, rfl, hbl, hcl⟩ := (hl3.later hB) k (by rw [ints_length, M.stL_length, HN.out]; exact hkN)
        rw [ints_get, M.stL_row (by rw [HN.out]; exact hkN)] at hcl
        have hpos := HW.out.pos k (by rw [HN.out]; exact hkN)
        have hl64 := hlv k
        have hfl := M.flat_le n S.lv k
        have hkn : k * n ≤ 24 * 6 := Nat.mul_le_mul (by omega) (by omega)
        have hown0 : wr.ownsRow w3.heap.size 3 1 (.slice p' (M.flat n S.lv k).length c') (M.fla (M.flat n S.lv k) (S.lv k) 0).length (icells (M.fla (M.flat n S.lv k) (S.lv k) 0)) := by
          have e : M.fla (M.flat n S.lv k) (S.lv k) 0 = M.flat n S.lv k := by simp [M.fla, M.fx]
          rw [e]; exact hown
        obtain ⟨fk, hfk⟩ : ∃ fk, M.flat n S.lv k = fk := ⟨_, rfl⟩
        have hnext : Hid (M.flat n S.lv (k + 1) = M.fla fk (S.lv k) n) := by show _ = _; simp only [M.flat]; rw [hfk]; rfl
        rw [hfk] at hown0 hfl
        rw [hfk]
        obtain ⟨L, hL⟩ : ∃ L, S.lv k = L := ⟨_, rfl⟩
        have HL : Hid (S.lv k = L) := hL
        rw [hL] at hcl hpos hl64 hnext hown0
        have d1 : decide ((L : Int) < 1) = false := decide_eq_false (by omega)
        have d1' : decide (L < 1) = false := decide_eq_false (by omega)
        have d2 : decide ((63 : Int) < (L : Int)) = false := decide_eq_false (by omega)
        have d2' : decide (63 < L) = false := decide_eq_false (by omega)
        have hkN' : (k : Int) < (N : Int) := by omega
        clear hfk hL hpos hown
        go_wp2_with fail
        go_loopw [10, 12] (fun sv xv wr => ∃ x : Nat, xv = .int .i64 x ∧ x ≤ n ∧ wr.ownsRow w3.heap.size 3 1 sv (M.fla fk L x).length (icells (M.fla fk L x)) ∧ Below w3.heap.size w3 wr) (fun _ xv _ => n - (intOf xv).toNat)
        case atStart => exact ⟨0, rfl, Nat.zero_le _, hown0, hB⟩
        case round =>
          clear hown0 hcl hbl hB d1 d1' d2 d2'
          obtain ⟨x, rfl, hx, hown, hB⟩ := hrel
          obtain ⟨p2, c2, rfl⟩ := owns_slice hown
          by_cases hxn : x < n
          · obtain ⟨_, _, e', hbl, hcl⟩ := (hl3.later hB) k (by rw [ints_length, M.stL_length, HN.out]; exact hkN)
            cases e'
            rw [ints_get, M.stL_row (by rw [HN.out]; exact hkN), HL.out] at hcl
            have hbit := fun W => bit_big L x W (by omega) (by omega)
            have hfxl := M.fx_le L x
            have hhit := @M.fx_hit L x
            have hmis := @M.fx_miss L x
            have hxn' : (x : Int) < (n : Int) := by omega
            cases hbx : L.testBit x with
            | false =>
              have HM : Hid (M.fla fk L (x + 1) = M.fla fk L x) := by show fk ++ M.fx L (x + 1) = fk ++ M.fx L x; rw [hmis hbx]
              rw [hbx] at hbit
              clear hhit hmis hbx
              go_wp2_with fail
              refine (hbit _).mono ?_
              rintro e w5 ⟨rfl, rfl⟩
              go_wp2_with fail
              go_roundw
              case rel => exact ⟨x + 1, by go_num, by omega, by rw [HM.out]; exact hown, hB⟩
              case measure => simp [intOf]; omega
            | true =>
              have HM : Hid (M.fla fk L (x + 1) = M.fla fk L x ++ [x]) := by show fk ++ M.fx L (x + 1) = fk ++ M.fx L x ++ [x]; rw [hhit hbx, List.append_assoc]
              have HBX : Hid (L.testBit x = true) := hbx
              have hall := M.tdB_all (k := k) (x := x) HW.out (by rw [HL.out]; exact hbx)
              have HT : Hid (M.tdB (M.fr F) S k x n = true) := hall
              have hfr := HW.out.free k
              rw [HL.out] at hfr
              have HFR : Hid (∀ y, L.testBit y = true → x ≠ y → M.fr F x y = true) := fun y hy hne => hfr x y hbx hy hne
              have hlen : (M.fla fk L x).length ≤ 150 := by unfold M.fla; rw [List.length_append]; omega
              obtain ⟨NL, hNL⟩ : ∃ NL, (M.fla fk L x).length = NL := ⟨_, rfl⟩
              have HNL : Hid ((M.fla fk L (x + 1)).length = NL + 1) := by show _ = _; rw [HM.out, List.length_append, hNL]; rfl
              rw [hNL] at hown hlen
              rw [hNL]
              rw [hbx] at hbit
              have hg0 := M.tdB_zero (M.fr F) S k x
              have hgk : ((k : Int) == 0) = M.tdB (M.fr F) S k x 0 := by rw [hg0, Bool.eq_iff_iff]; simp
              clear hhit hmis hbx hall hfr hNL
              go_wp2_with fail
              refine (hbit _).mono ?_
              rintro e w5 ⟨rfl, rfl⟩
              go_wp2_with (at_builtin; refine wpList_append_own _ rfl _ _ 22 rfl w3.heap.size 3 i0 (.int .i64 0) 1 8 Tryd.underlying22 hi0 hz0 hz1 hz2 rfl (by decide) _ _ _ rfl (hown.alloc _) ⟨wr.heap.size, 0, none⟩ 1 1 [.int .i64 (x : Nat)] rfl rfl (cell_one_new _ _ _) (by simp [Value.oneCell']) (by unfold maxLen; omega) (by omega) (by have := hB.size; simp; omega) ?_; intro v' w6 hown' hgrow _)
              have hB6 : Below w3.heap.size w3 w6 := (bel_al hB _).grown hgrow (by have := hB.size; simp; omega) (fun j e => (hown.lt j e).1)
              have hown6 : w6.ownsRow w3.heap.size 3 1 v' (M.fla fk L (x + 1)).length (icells (M.fla fk L (x + 1))) := by rw [HNL.out, HM.out, icells_snoc]; exact hown'
              obtain ⟨p6, c6, rfl⟩ := owns_slice hown6
              clear hown hown' hgrow hB hcl hbl
              go_loopw [13, 14] (fun tv yv wr => ∃ y : Nat, yv = .int .i64 y ∧ y ≤ n ∧ tv = .bool (M.tdB (M.fr F) S k x y) ∧ wr = w6) (fun _ yv _ => n - (intOf yv).toNat)
              case atStart => exact ⟨0, rfl, Nat.zero_le _, by first | rw [hg0] | rw [← hgk], rfl⟩
              case round =>
                clear hgk hg0
                obtain ⟨y, rfl, hy, rfl, rfl⟩ := hrel
                by_cases hyn : y < n
                · obtain ⟨_, _, e', hbl, hcl⟩ := (hl3.later hB6) k (by rw [ints_length, M.stL_length, HN.out]; exact hkN)
                  cases e'
                  rw [ints_get, M.stL_row (by rw [HN.out]; exact hkN), HL.out] at hcl
                  have hC6 := bel_on hC3 hB6
                  obtain ⟨bf, of, rfl, hbf, hcf⟩ := (hc.later hC6) x (by rw [ints_length]; omega)
                  rw [ints_get] at hcf
                  have hfl2 := hF.lt x
                  have hbf2 := fun W => bit_big (M.row F x) y W (by omega) (by omega)
                  rw [show (M.row F x).testBit y = M.fr F x y from rfl] at hbf2
                  obtain ⟨z, hz⟩ : ∃ z, M.row F x = z := ⟨_, rfl⟩
                  rw [hz] at hcf hbf2
                  have hbl1 := fun W => bit_big L y W (by omega) (by omega)
                  have hnx := M.tdB_next (M.fr F) S k x y
                  have hfree := HFR.out y
                  have hk0 : k = 0 → M.tdB (M.fr F) S k x y = true := fun h => by unfold M.tdB; rw [decide_eq_true h]; rfl
                  have hlv1 := hlv (k - 1)
                  have hyn' : (y : Int) < (n : Int) := by omega
                  obtain ⟨t, ht⟩ : ∃ t, M.tdB (M.fr F) S k x y = t := ⟨_, rfl⟩
                  rw [ht] at hnx hk0
                  rw [ht]
                  obtain ⟨b1, hb1⟩ : ∃ b1, L.testBit y = b1 := ⟨_, rfl⟩
                  rw [hb1] at hbl1 hfree
                  obtain ⟨fb, hfb⟩ : ∃ fb, M.fr F x y = fb := ⟨_, rfl⟩
                  rw [hfb] at hbf2 hfree hnx
                  have HFRE : Hid (b1 = true → x ≠ y → fb = true) := hfree
                  have HK0 : Hid (k = 0 → t = true) := hk0
                  have HNX : Hid (M.tdB (M.fr F) S k x (y + 1) = (t || ((S.lv (k - 1)).testBit y && !fb))) := hnx
                  clear hz hfl2 ht hb1 hfb hfree hk0 hnx
                  by_cases hyx : y = x
                  · have e1 := beqN hyx
                    clear hyx
                    cases t with
                    | true =>
                      clear HFRE
                      go_wp2_with fail
                      go_roundw
                      case rel => exact ⟨y + 1, by go_num, by omega, by rw [HNX.out]; rfl, trivial⟩
                      case measure => simp [intOf]; omega
                    | false =>
                      have hkp : 0 < k := by
                        rcases Nat.eq_zero_or_pos k with h | h
                        · have := HK0.out h; cases this
                        · exact h
                      obtain ⟨k1, hk1⟩ : ∃ k1, k = k1 + 1 := ⟨k - 1, by omega⟩
                      obtain ⟨_, _, e', hbl9, hcl9⟩ := (hl3.later hB6) k1 (by rw [ints_length, M.stL_length, HN.out]; omega)
                      cases e'
                      rw [ints_get, M.stL_row (by rw [HN.out]; omega)] at hcl9
                      rw [show k - 1 = k1 by omega] at HNX hlv1
                      have hb2 := fun W => bit_big (S.lv k1) y W (by omega) (by omega)
                      obtain ⟨L1, hL1⟩ : ∃ L1, S.lv k1 = L1 := ⟨_, rfl⟩
                      rw [hL1] at hcl9 hb2 HNX
                      have g0 : decide ((0 : Int) < (k : Int)) = true := decide_eq_true (by omega)
                      have g0' : decide (0 < k) = true := decide_eq_true hkp
                      have hkk : (k : Int) - 1 = (k1 : Int) := by omega
                      have hk1N : (k1 : Int) < (N : Int) := by omega
                      obtain ⟨b2, hb2e⟩ : ∃ b2, L1.testBit y = b2 := ⟨_, rfl⟩
                      rw [hb2e] at hb2 HNX
                      clear hL1 hb2e HK0 HFRE hk1
                      cases b2 with
                      | false =>
                        go_wp2_with fail
                        refine (hb2 _).mono ?_
                        rintro e w7 ⟨rfl, rfl⟩
                        go_wp2_with fail
                        go_roundw
                        case rel => exact ⟨y + 1, by go_num, by omega, by rw [HNX.out]; rfl, trivial⟩
                        case measure => simp [intOf]; omega
                      | true =>
                        go_wp2_with fail
                        refine (hb2 _).mono ?_
                        rintro e w7 ⟨rfl, rfl⟩
                        go_wp2_with fail
                        refine (hbf2 _).mono ?_
                        rintro e w7 ⟨rfl, rfl⟩
                        go_wp2_with fail
                        go_roundw
                        case rel => exact ⟨y + 1, by go_num, by omega, by rw [HNX.out]; cases fb <;> rfl, trivial⟩
                        case measure => simp [intOf]; omega
                  · have e1 := bneN hyx
                    have e1' := bneN' hyx
                    cases b1 with
                    | false =>
                      clear hyx
                      cases t with
                      | true =>
                        clear HFRE
                        go_wp2_with fail
                        refine (hbl1 _).mono ?_
                        rintro e w7 ⟨rfl, rfl⟩
                        go_wp2_with fail
                        go_roundw
                        case rel => exact ⟨y + 1, by go_num, by omega, by rw [HNX.out]; rfl, trivial⟩
                        case measure => simp [intOf]; omega
                      | false =>
                        have hkp : 0 < k := by
                          rcases Nat.eq_zero_or_pos k with h | h
                          · have := HK0.out h; cases this
                          · exact h
                        obtain ⟨k1, hk1⟩ : ∃ k1, k = k1 + 1 := ⟨k - 1, by omega⟩
                        obtain ⟨_, _, e', hbl9, hcl9⟩ := (hl3.later hB6) k1 (by rw [ints_length, M.stL_length, HN.out]; omega)
                        cases e'
                        rw [ints_get, M.stL_row (by rw [HN.out]; omega)] at hcl9
                        rw [show k - 1 = k1 by omega] at HNX hlv1
                        have hb2 := fun W => bit_big (S.lv k1) y W (by omega) (by omega)
                        obtain ⟨L1, hL1⟩ : ∃ L1, S.lv k1 = L1 := ⟨_, rfl⟩
                        rw [hL1] at hcl9 hb2 HNX
                        have g0 : decide ((0 : Int) < (k : Int)) = true := decide_eq_true (by omega)
                        have g0' : decide (0 < k) = true := decide_eq_true hkp
                        have hkk : (k : Int) - 1 = (k1 : Int) := by omega
                        have hk1N : (k1 : Int) < (N : Int) := by omega
                        obtain ⟨b2, hb2e⟩ : ∃ b2, L1.testBit y = b2 := ⟨_, rfl⟩
                        rw [hb2e] at hb2 HNX
                        clear hL1 hb2e HK0 HFRE hk1
                        cases b2 with
                        | false =>
                          go_wp2_with fail
                          refine (hbl1 _).mono ?_
                          rintro e w7 ⟨rfl, rfl⟩
                          go_wp2_with fail
                          refine (hb2 _).mono ?_
                          rintro e w7 ⟨rfl, rfl⟩
                          go_wp2_with fail
                          go_roundw
                          case rel => exact ⟨y + 1, by go_num, by omega, by rw [HNX.out]; rfl, trivial⟩
                          case measure => simp [intOf]; omega
                        | true =>
                          go_wp2_with fail
                          refine (hbl1 _).mono ?_
                          rintro e w7 ⟨rfl, rfl⟩
                          go_wp2_with fail
                          refine (hb2 _).mono ?_
                          rintro e w7 ⟨rfl, rfl⟩
                          go_wp2_with fail
                          refine (hbf2 _).mono ?_
                          rintro e w7 ⟨rfl, rfl⟩
                          go_wp2_with fail
                          go_roundw
                          case rel => exact ⟨y + 1, by go_num, by omega, by rw [HNX.out]; cases fb <;> rfl, trivial⟩
                          case measure => simp [intOf]; omega
                    | true =>
                      obtain rfl : fb = true := HFRE.out rfl (fun h => hyx h.symm)
                      clear hyx
                      cases t with
                      | true =>
                        clear HFRE
                        go_wp2_with fail
                        refine (hbl1 _).mono ?_
                        rintro e w7 ⟨rfl, rfl⟩
                        go_wp2_with fail
                        refine (hbf2 _).mono ?_
                        rintro e w7 ⟨rfl, rfl⟩
                        go_wp2_with fail
                        go_roundw
                        case rel => exact ⟨y + 1, by go_num, by omega, by rw [HNX.out]; rfl, trivial⟩
                        case measure => simp [intOf]; omega
                      | false =>
                        have hkp : 0 < k := by
                          rcases Nat.eq_zero_or_pos k with h | h
                          · have := HK0.out h; cases this
                          · exact h
                        obtain ⟨k1, hk1⟩ : ∃ k1, k = k1 + 1 := ⟨k - 1, by omega⟩
                        obtain ⟨_, _, e', hbl9, hcl9⟩ := (hl3.later hB6) k1 (by rw [ints_length, M.stL_length, HN.out]; omega)
                        cases e'
                        rw [ints_get, M.stL_row (by rw [HN.out]; omega)] at hcl9
                        rw [show k - 1 = k1 by omega] at HNX hlv1
                        have hb2 := fun W => bit_big (S.lv k1) y W (by omega) (by omega)
                        obtain ⟨L1, hL1⟩ : ∃ L1, S.lv k1 = L1 := ⟨_, rfl⟩
                        rw [hL1] at hcl9 hb2 HNX
                        have g0 : decide ((0 : Int) < (k : Int)) = true := decide_eq_true (by omega)
                        have g0' : decide (0 < k) = true := decide_eq_true hkp
                        have hkk : (k : Int) - 1 = (k1 : Int) := by omega
                        have hk1N : (k1 : Int) < (N : Int) := by omega
                        obtain ⟨b2, hb2e⟩ : ∃ b2, L1.testBit y = b2 := ⟨_, rfl⟩
                        rw [hb2e] at hb2 HNX
                        clear hL1 hb2e HK0 HFRE hk1
                        cases b2 with
                        | false =>
                          go_wp2_with fail
                          refine (hbl1 _).mono ?_
                          rintro e w7 ⟨rfl, rfl⟩
                          go_wp2_with fail
                          refine (hbf2 _).mono ?_
                          rintro e w7 ⟨rfl, rfl⟩
                          go_wp2_with fail
                          refine (hb2 _).mono ?_
                          rintro e w7 ⟨rfl, rfl⟩
                          go_wp2_with fail
                          go_roundw
                          case rel => exact ⟨y + 1, by go_num, by omega, by rw [HNX.out]; rfl, trivial⟩
                          case measure => simp [intOf]; omega
                        | true =>
                          go_wp2_with fail
                          refine (hbl1 _).mono ?_
                          rintro e w7 ⟨rfl, rfl⟩
                          go_wp2_with fail
                          refine (hbf2 _).mono ?_
                          rintro e w7 ⟨rfl, rfl⟩
                          go_wp2_with fail
                          refine (hb2 _).mono ?_
                          rintro e w7 ⟨rfl, rfl⟩
                          go_wp2_with fail
                          refine (hbf2 _).mono ?_
                          rintro e w7 ⟨rfl, rfl⟩
                          go_wp2_with fail
                          go_roundw
                          case rel => exact ⟨y + 1, by go_num, by omega, by rw [HNX.out]; rfl, trivial⟩
                          case measure => simp [intOf]; omega
                · obtain rfl : y = n := by omega
                  rw [HT.out]
                  clear hyn
                  go_wp2_with fail
                  go_roundw
                  case rel => exact ⟨x + 1, by go_num, by omega, hown6, hB6⟩
                  case measure => simp [intOf]; omega
          · obtain rfl : x = n := by omega
            have hownN : wr.ownsRow w3.heap.size 3 1 (.slice p2 (M.fla fk L x).length c2) (M.flat x S.lv (k + 1)).length (icells (M.flat x S.lv (k + 1))) := by rw [hnext.out]; exact hown
            clear hown
            go_wp2_with fail
            go_roundw
            case rel => exact ⟨k + 1, by go_num, by omega, hownN, hB⟩
            case measure => simp [intOf]; omega
      · obtain rfl : k = N := by omega
        obtain ⟨w4, hw4⟩ : ∃ w4, w4 = wr := ⟨_, rfl⟩
        subst hw4
        obtain ⟨fw, hfw⟩ : ∃ fw, M.flat n S.lv k = fw := ⟨_, rfl⟩
        rw [hfw] at hown hfok hfsm
        rw [hfw]
        have hC4 := bel_on hC3 hB
        have hfI := hasI_of_owns rfl hown
        have hrA4 := hrA.below hB hrA.lt
        have hfl24 := hfok.len
        obtain ⟨fl, hfl⟩ : ∃ fl, fw.length = fl := ⟨_, rfl⟩
        rw [hfl] at hfl24
        rw [hfl]
        have hkk : decide ((k : Int) < (k : Int)) = false := decide_eq_false (by omega)
        clear hown hfw hB hkN hlv HW hl3 hC3 hrA
        go_wp2_with fail
        refine (fsame_ok F fw u p n cap _ fl _ q m cap2 _ hl (he.later hC4) hF (hc.later hC4) hfl hfok hfI hl2 hU (hd.later hC4)).mono ?_
        rw [hfsm]
        rintro e w5 ⟨rfl, hB5⟩
        have hC5 := bel_on hC4 hB5
        have hrA5 := hrA4.below hB5 hrA4.lt
        have hmk0 := run_make_row' (P := Tryd.prog) 22 3 (.int .i64 0) 8 Tryd.underlying22 infoInt rfl .i64 .i64 m (by omega) (by omega)
        have hr0 : RowAt 3 (w5.alloc (.cells (madeCells #[.int .i64 0] m) 3)) w5.heap.size (List.replicate m 0) := by
          unfold RowAt
          rw [World.alloc_heap_new, made_noughts]
        have hB0 : Below w5.heap.size w5 (w5.alloc (.cells (madeCells #[.int .i64 0] m) 3)) := bel_al (Below.refl _ _) _
        have hlv := fun j (hj : j < u.length) => M.lev_is hF.fr (m := F.length) hU.lt hj
        have hsn := fun j (hj : j ≤ u.length) => (M.stp_n (f := M.fr F) (m := F.length) (w := u) j hj).1
        have hsl := fun j (hj : j ≤ u.length) => M.stp_n_le (M.fr F) F.length u j hj
        have hsx := fun j (hj : j < u.length) => M.stp_next (f := M.fr F) (m := F.length) (w := u) hj
        rw [hl] at hlv hsn hsl hsx
        obtain ⟨G, hG⟩ : ∃ G, M.lev (M.fr F) n u = G := ⟨_, rfl⟩
        obtain ⟨Q, hQ⟩ : ∃ Q : Nat → Nat, (fun j => (M.stp (M.fr F) n (u.take j)).n) = Q := ⟨_, rfl⟩
        have hQj : ∀ j, (M.stp (M.fr F) n (u.take j)).n = Q j := fun j => by rw [← hQ]
        rw [hG] at hlv hsn hsx
        have HLV : Hid (∀ j, j < m → G j = M.mxr (M.fr F) u G (M.row u j) j) := fun j hj => hlv j (by omega)
        have HGQ : Hid (∀ i j, i < j → j ≤ m → G i < Q j) := fun i j hi hj => by rw [← hQj]; exact hsn j (by omega) i hi
        have HQJ : Hid (∀ j, j ≤ m → Q j ≤ j) := fun j hj => by rw [← hQj]; exact hsl j (by omega)
        have HQN : Hid (∀ j, j < m → Q (j + 1) = max (Q j) (G j + 1)) := fun j hj => by rw [← hQj, ← hQj]; exact hsx j (by omega)
        have HQM : Hid (Q m = k) := by show _ = _; rw [← hQj]; exact HNM.out
        have HQ0 : Hid (Q 0 = 0) := by show _ = _; rw [← hQj]; rfl
        clear hlv hsn hsl hsx hG hQ hQj hfI hC4 hB5 hrA4 hfok hfsm HN HNM hfl
        go_wp2_with fail
        go_loopw [17, 19] (fun lo jv wr => ∃ (j : Nat) (R : List Nat), jv = .int .i64 j ∧ lo = .int .i64 (Q j : Nat) ∧ j ≤ m ∧ R.length = m ∧ Hid (∀ x, x < j → M.row R x = G x + 1) ∧ RowAt 3 wr w5.heap.size R ∧ Below w5.heap.size w5 wr) (fun _ jv _ => m - (intOf jv).toNat)
        case atStart => exact ⟨0, List.replicate m 0, rfl, by rw [HQ0.out]; rfl, Nat.zero_le _, by simp, show ∀ x, x < 0 → _ from fun x hx => absurd hx (Nat.not_lt_zero _), hr0, hB0⟩
        case round =>
          clear hr0 hB0 hmk0
          obtain ⟨j, R, rfl, rfl, hj, hR, hG, hrow, hB⟩ := hrel
          by_cases hjm : j < m
          · have hf0 := hrow.frozen j
            have hc0 := hrow.cell (k := j) (by omega)
            have hrl := hrow.lt
            have hrow1 : RowAt 3 (wr.setCell ⟨w5.heap.size, j, none⟩ (.int .i64 (1 : Nat))) w5.heap.size (R.set j 1) := hrow.set j 1
            have hB1 : Below w5.heap.size w5 (wr.setCell ⟨w5.heap.size, j, none⟩ (.int .i64 (1 : Nat))) := hB.setCell (p := ⟨w5.heap.size, j, none⟩) (Nat.le_refl _) _
            have hG1 : Hid (∀ x, x < j → M.row (R.set j 1) x = G x + 1) := fun x hx => by rw [M.row_set, if_neg (by omega)]; exact hG.out x hx
            have hJ1 : Hid (M.row (R.set j 1) j = 1 + M.mxr (M.fr F) u G (M.row u j) 0) := by show _ = _; rw [M.row_set, if_pos ⟨rfl, by omega⟩]; rfl
            have hR1 : (R.set j 1).length = m := by rw [List.length_set]; exact hR
            obtain ⟨R1, hR1e⟩ : ∃ R1, R.set j 1 = R1 := ⟨_, rfl⟩
            rw [hR1e] at hrow1 hG1 hJ1 hR1
            have hQ24 := HQJ.out j hj
            obtain ⟨qj, hqj⟩ : ∃ qj, Q j = qj := ⟨_, rfl⟩
            have HQJE : Hid (Q j = qj) := hqj
            rw [hqj] at hQ24
            rw [hqj]
            have hjm' : (j : Int) < (m : Int) := by omega
            have HR1 : Hid (RowAt 3 (wr.setCell ⟨w5.heap.size, j, none⟩ (.int .i64 (1 : Nat))) w5.heap.size R1) := hrow1
            have HB1 : Hid (Below w5.heap.size w5 (wr.setCell ⟨w5.heap.size, j, none⟩ (.int .i64 (1 : Nat)))) := hB1
            clear hR1e hqj hrow hrow1 hB hB1 hG hR
            go_wp2_with fail
            go_loopw [20] (fun iv wr => ∃ (i : Nat) (R' : List Nat), iv = .int .i64 i ∧ i ≤ j ∧ R'.length = m ∧ Hid (∀ x, x < j → M.row R' x = G x + 1) ∧ Hid (M.row R' j = 1 + M.mxr (M.fr F) u G (M.row u j) i) ∧ RowAt 3 wr w5.heap.size R' ∧ Below w5.heap.size w5 wr) (fun iv _ => j - (intOf iv).toNat)
            case atStart => exact ⟨0, R1, rfl, Nat.zero_le _, hR1, hG1, hJ1, HR1.out, HB1.out⟩
            case round =>
              clear hf0 hc0 hrl hR1 hG1 hJ1 HR1 HB1
              obtain ⟨i, R', rfl, hi, hR', hG, hJ, hrow, hB⟩ := hrel
              by_cases hij : i < j
              · have hra := hrA5.below hB hrA5.lt
                have hca := hra.cell (k := i) (by rw [M.ahR_length]; omega)
                have hral := hra.lt
                have hci := hrow.cell (k := i) (by omega)
                have hcj := hrow.cell (k := j) (by omega)
                have hrl := hrow.lt
                have hfj := hrow.frozen j
                rw [hG.out i hij] at hci
                rw [hJ.out] at hcj
                have hah := M.ahR_ok (M.fr F) u i
                rw [M.ahR_length, hl2] at hah
                have hp24 := pow_24 m hm
                have hbitI := @M.ahR_bit (M.fr F) u i j
                have hmx : M.mxr (M.fr F) u G (M.row u j) (i + 1) = if M.fr F (M.row u i) (M.row u j) = false ∧ M.mxr (M.fr F) u G (M.row u j) i < G i + 1 then G i + 1 else M.mxr (M.fr F) u G (M.row u j) i := rfl
                have hgi := HGQ.out i j hij hj
                have hgq := HQJ.out j hj
                have hmb : M.mxr (M.fr F) u G (M.row u j) i ≤ 24 := by
                  rcases M.mxr_at (M.fr F) u G (M.row u j) i with h | ⟨x, a, _, e⟩
                  · omega
                  · have := HGQ.out x j (by omega) hj; omega
                obtain ⟨s, hs⟩ : ∃ s, M.row (M.ahR (M.fr F) u) i = s := ⟨_, rfl⟩
                rw [hs] at hca hah hbitI
                have hbit := fun W => bit_big s j W (by omega) (by omega)
                obtain ⟨t, ht⟩ : ∃ t, s.testBit j = t := ⟨_, rfl⟩
                rw [ht] at hbit hbitI
                have hbt : t = true ↔ M.fr F (M.row u i) (M.row u j) = false := hbitI.trans ⟨fun h => h.2.2, fun h => ⟨hij, by omega, h⟩⟩
                obtain ⟨mx, hmxe⟩ : ∃ mx, M.mxr (M.fr F) u G (M.row u j) i = mx := ⟨_, rfl⟩
                rw [hmxe] at hcj hmx hmb
                obtain ⟨gi, hgie⟩ : ∃ gi, G i = gi := ⟨_, rfl⟩
                rw [hgie] at hci hmx hgi
                have HMX : Hid (M.mxr (M.fr F) u G (M.row u j) (i + 1) = if M.fr F (M.row u i) (M.row u j) = false ∧ mx < gi + 1 then gi + 1 else mx) := hmx
                have HJ : Hid (M.row R' j = 1 + mx) := by show _ = _; rw [hJ.out, hmxe]
                obtain ⟨r1, hr1⟩ : ∃ r1, gi + 1 = r1 := ⟨_, rfl⟩
                obtain ⟨r2, hr2⟩ : ∃ r2, 1 + mx = r2 := ⟨_, rfl⟩
                obtain ⟨r3, hr3⟩ : ∃ r3, r1 + 1 = r3 := ⟨_, rfl⟩
                rw [hr1] at hci
                rw [hr2] at hcj HJ
                have hadd : (r1 : Int) + 1 = (r3 : Int) := by omega
                have hr3b : r3 ≤ 30 := by omega
                have him : (i : Int) < (m : Int) := by omega
                have hdij : decide ((i : Int) < (j : Int)) = true := decide_eq_true (by omega)
                have hdij' : decide (i < j) = true := decide_eq_true hij
                have HRW : Hid (RowAt 3 wr w5.heap.size R') := hrow
                have HBW : Hid (Below w5.heap.size w5 wr) := hB
                have hjm2 : (j : Int) < (m : Int) := by omega
                clear hs ht hmxe hgie hmx hbitI hah hp24 hmb hJ hra
                cases t with
                | false =>
                  have HN : Hid (M.row R' j = 1 + M.mxr (M.fr F) u G (M.row u j) (i + 1)) := by
                    show _ = _
                    rw [HMX.out, if_neg (fun h => by have := hbt.2 h.1; cases this), HJ.out, hr2]
                  clear hbt HMX hr1 hr2 hr3
                  go_wp2_with fail
                  go_big_quiet ((go_at_call 23; exact Calls.quiet_of_same ((hbit _).mono (fun e w' h => ⟨h.1, h.2.symm⟩))))
                  go_wp2_with fail
                  go_roundw
                  case rel => exact ⟨i + 1, R', by go_num, by omega, hR', hG, HN, HRW.out.below (below_drewN _ _) HRW.out.lt, bel_drN HBW.out _⟩
                  case measure => simp [intOf]; omega
                | true =>
                  have hfr := hbt.1 rfl
                  by_cases hgt : r2 < r3
                  · have d1 : decide ((r2 : Int) < (r3 : Int)) = true := decide_eq_true (by omega)
                    have d1' : decide (r2 < r3) = true := decide_eq_true hgt
                    have HN : Hid (M.row (R'.set j r3) j = 1 + M.mxr (M.fr F) u G (M.row u j) (i + 1)) := by
                      show _ = _
                      rw [HMX.out, if_pos ⟨hfr, by omega⟩, M.row_set, if_pos ⟨rfl, by omega⟩]
                      omega
                    have HG2 : Hid (∀ x, x < j → M.row (R'.set j r3) x = G x + 1) := fun x hx => by rw [M.row_set, if_neg (by omega)]; exact hG.out x hx
                    have hRl : (R'.set j r3).length = m := by rw [List.length_set]; exact hR'
                    clear hbt HMX hr1 hr2 hr3 hfr hgt
                    go_wp2_with fail
                    go_big_quiet ((go_at_call 23; exact Calls.quiet_of_same ((hbit _).mono (fun e w' h => ⟨h.1, h.2.symm⟩))))
                    go_wp2_with fail
                    go_roundw
                    case rel => exact ⟨i + 1, R'.set j r3, by go_num, by omega, hRl, HG2, HN, (HRW.out.below (below_drewN _ _) HRW.out.lt).set j r3, (bel_drN HBW.out _).setCell (p := ⟨w5.heap.size, j, none⟩) (Nat.le_refl _) _⟩
                    case measure => simp [intOf]; omega
                  · have d1 : decide ((r2 : Int) < (r3 : Int)) = false := decide_eq_false (by omega)
                    have d1' : decide (r2 < r3) = false := decide_eq_false hgt
                    have HN : Hid (M.row R' j = 1 + M.mxr (M.fr F) u G (M.row u j) (i + 1)) := by
                      show _ = _
                      rw [HMX.out, if_neg (fun h => by have := h.2; omega), HJ.out, hr2]
                    clear hbt HMX hr1 hr2 hr3 hfr hgt
                    go_wp2_with fail
                    go_big_quiet ((go_at_call 23; exact Calls.quiet_of_same ((hbit _).mono (fun e w' h => ⟨h.1, h.2.symm⟩))))
                    go_wp2_with fail
                    go_roundw
                    case rel => exact ⟨i + 1, R', by go_num, by omega, hR', hG, HN, HRW.out.below (below_drewN _ _) HRW.out.lt, bel_drN HBW.out _⟩
                    case measure => simp [intOf]; omega
              · obtain rfl : i = j := by omega
                have hcj := hrow.cell (k := i) (by omega)
                have hrl := hrow.lt
                have hgj := HLV.out i hjm
                have hgn := HGQ.out i (i + 1) (by omega) (by omega)
                have hqn := HQJ.out (i + 1) (by omega)
                have hqx := HQN.out i hjm
                rw [HQJE.out] at hqx
                have hrj : M.row R' i = G i + 1 := by rw [hJ.out, ← hgj]; omega
                rw [hrj] at hcj
                have HG2 : Hid (∀ x, x < i + 1 → M.row R' x = G x + 1) := fun x hx => by
                  by_cases e : x = i
                  · subst e; exact hrj
                  · exact hG.out x (by omega)
                obtain ⟨r1, hr1⟩ : ∃ r1, G i + 1 = r1 := ⟨_, rfl⟩
                rw [hr1] at hcj hqx
                have hij : decide ((i : Int) < (i : Int)) = false := decide_eq_false (by omega)
                by_cases hgt : qj < r1
                · have d1 : decide ((qj : Int) < (r1 : Int)) = true := decide_eq_true (by omega)
                  have d1' : decide (qj < r1) = true := decide_eq_true hgt
                  have HQ1 : Hid (Q (i + 1) = r1) := by show _ = _; omega
                  clear hqx hrj hgj hgt hr1
                  go_wp2_with fail
                  go_roundw
                  case rel => exact ⟨i + 1, R', by go_num, by rw [HQ1.out], by omega, hR', HG2, hrow, hB⟩
                  case measure => simp [intOf]; omega
                · have d1 : decide ((qj : Int) < (r1 : Int)) = false := decide_eq_false (by omega)
                  have d1' : decide (qj < r1) = false := decide_eq_false hgt
                  have HQ1 : Hid (Q (i + 1) = qj) := by show _ = _; omega
                  clear hqx hrj hgj hgt hr1
                  go_wp2_with fail
                  go_roundw
                  case rel => exact ⟨i + 1, R', by go_num, by rw [HQ1.out], by omega, hR', HG2, hrow, hB⟩
                  case measure => simp [intOf]; omega
          · obtain rfl : j = m := by omega
            rw [HQM.out]
            have hkk2 : ((k : Int) == (k : Int)) = true := by simp
            have hjj : decide ((j : Int) < (j : Int)) = false := decide_eq_false (by omega)
            go_wp2_with fail
            go_ret
            exact ⟨rfl, bel_on hC5 hB⟩
  · obtain ⟨c, hcc⟩ : ∃ c, wcode zs ws = c := ⟨_, rfl⟩
    have hne : c ≠ 0 := by rw [← hcc]; exact h0
    refine (fsteps_err zs p n cap ws q m cap2 _ hl (he.later hB1) hmax (hc.later hB1) hl2 hmax2 (hd.later hB1) c hcc hne).mono ?_
    rintro e w2 ⟨rfl, hB2⟩
    have hC2 := bel_on hB1 hB2
    unfold errC
    go_wp2_with fail
    refine (fahead_err zs p n cap ws q m cap2 _ hl (he.later hC2) hmax (hc.later hC2) hl2 hmax2 (hd.later hC2) c hcc hne).mono ?_
    rintro e w3 ⟨rfl, hB3⟩
    have HB : Hid (Below _ _ _) := bel_on hC2 hB3
    clear h0 hne hcc hC2 hB2 hB1 hB3
    unfold errC
    go_wp2_with fail
    go_ret
    exact ⟨rfl, HB.out⟩
end Go.Proofs.YtbacngbcnkikiaaDoor
