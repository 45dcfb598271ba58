/- AT LEAST ONE FOR EACH EVENT, AND ONE (law CutCount), the walk. -/
import Derived.Test.YtlhpkpjcfjdgaaaDoorCfc
import Derived.Test.YtlhpkpjcfjdgaaaDoorCt7
import Derived.Test.YtlhpkpjcfjdgaaaDoorTof
namespace Go.Proofs.YtlhpkpjcfjdgaaaDoor
open Go.RowKit
namespace M
theorem ofs_evn (T : List (Int × Int)) (p n : Nat) : (ofs T (p : Int) n).length = evn T p n := by
  induction n with
  | zero => rfl
  | succ n ih =>
    rw [evn_succ]
    by_cases h : pr T n = (p : Int)
    · rw [ofs_hit h, if_pos h, List.length_append, ih]; rfl
    · rw [ofs_miss h, if_neg h, ih]; rfl
theorem pE_le {T : List (Int × Int)} (hn : T.length ≤ 24) (k : Nat) : pE T k ≤ 25 ^ k := by
  induction k with
  | zero => simp [pE]
  | succ k ih =>
    simp only [pE]
    rw [Nat.pow_succ]
    exact Nat.mul_le_mul ih (by have := evn_le T k T.length; omega)
end M
set_option maxRecDepth 100000 in
set_option maxHeartbeats 4000000 in
theorem cc_walk (P : Int) (T : List (Int × Int)) (p : Option Addr) (n cap : Nat) (w : World) (he : Env w) (hl : T.length = n) (hmax : n ≤ maxLen) (hc : HasE T p w) :
    Calls Tryd.prog 7 #[trV P p n cap] w fun e w' => e = .returned (.bool true) ∧ Below w.heap.size w w' := by
  obtain ⟨wa, hwa⟩ : ∃ wa, w.alloc (.cells #[.int .i64 P, .slice p n cap] 24) = wa := ⟨_, rfl⟩
  have ta : TBox wa w.heap.size P p n cap := hwa ▸ tbox_new w P p n cap
  have hBa : Below w.heap.size w wa := by rw [← hwa]; exact bel_al (Below.refl _ _) _
  go_enter Tryd.func7, Tryd.ntmps7
  go_wp2_with fail
  refine (cutFact_ok _ (he.later hBa)).mono ?_
  rintro e w1 ⟨rfl, hB1⟩
  have t1 := ta.later hB1 ta.lt
  have hC1 := bel_on hBa hB1
  have k10 := t1.procs
  have k11 := t1.events
  have k1l := t1.lt
  clear hwa ta hBa hB1
  go_wp2_with fail
  by_cases h0 : M.tcode P T = 0
  · have hok := M.tcode_zero.1 h0
    have hn : n ≤ 24 := hl ▸ hok.len
    have hp1 := hok.p1
    have hp5 := hok.p5
    obtain ⟨P, rfl⟩ : ∃ Pn : Nat, P = Pn := ⟨P.toNat, by omega⟩
    have hP5 : P ≤ 5 := by omega
    refine (count_ok P T p n cap _ hl (he.later hC1) hmax (hc.later hC1) h0).mono ?_
    have hleast := M.cts_least hok
    have hmost := M.cts_most T P
    have hpow := M.cts_pow hok
    have hp24 := pow_24 T.length (by omega)
    obtain ⟨k, hk⟩ : ∃ k, M.cts T P [] = k := ⟨_, rfl⟩
    rw [hk] at hleast hmost hpow ⊢
    clear hk
    rw [hl] at hleast
    rintro e w2 ⟨rfl, hB2⟩
    have t2 := t1.later hB2 t1.lt
    have hC2 := bel_on hC1 hB2
    clear t1 k10 k11 k1l hB2 hC1
    have HM : Hid (k ≤ M.pE T P) := hmost
    have HL : Hid (n + 1 ≤ k) := hleast
    have hk24 : k ≤ 16777216 := by omega
    clear hmost hleast hpow
    go_wp2_with fail
    go_loopw [6, 7] (fun v u wr => ∃ i : Nat, u = .int .i64 i ∧ v = .int .i64 (M.pE T i : Nat) ∧ i ≤ P ∧ Below w2.heap.size w2 wr) (fun _ u _ => P - (intOf u).toNat)
    case atStart => exact ⟨0, rfl, rfl, Nat.zero_le _, Below.refl _ _⟩
    case round =>
      obtain ⟨i, rfl, rfl, hi, hB⟩ := hrel
      have t3 := t2.later hB t2.lt
      have k30 := t3.procs
      have k31 := t3.events
      have k3l := t3.lt
      have hC3 := bel_on hC2 hB
      by_cases hlt : i < P
      · have hpl := M.pE_le (T := T) (by omega) i
        have hpw : 25 ^ i ≤ 390625 := Nat.le_trans (Nat.pow_le_pow_right (by omega) (show i ≤ 4 by omega)) (by decide)
        have hnx : M.pE T (i + 1) = M.pE T i * (M.evn T i T.length + 1) := rfl
        rw [hl] at hnx
        have hev := M.evn_le T i n
        obtain ⟨a, ha⟩ : ∃ a, M.pE T i = a := ⟨_, rfl⟩
        obtain ⟨b, hb⟩ : ∃ b, M.evn T i n = b := ⟨_, rfl⟩
        rw [ha] at hpl hnx ⊢
        rw [hb] at hnx hev
        have HN : Hid (M.pE T (i + 1) = a * (b + 1)) := hnx
        have HB : Hid ((M.ofs T (i : Nat) n).length = b) := by show _ = _; rw [M.ofs_evn, hb]
        clear hnx ha hb
        have hd1 : decide ((i : Int) < (P : Int)) = true := decide_eq_true (by omega)
        have hd2 : decide ((i : Int) < 5) = true := decide_eq_true (by omega)
        have hd3 : decide (i < P) = true := decide_eq_true hlt
        have hab : a * (b + 1) ≤ 390625 * 25 := Nat.mul_le_mul (by omega) (by omega)
        obtain ⟨c, hcab⟩ : ∃ c, a * (b + 1) = c := ⟨_, rfl⟩
        have hmul : (a : Int) * ((b : Int) + 1) = (c : Int) := by rw [← hcab]; simp
        rw [hcab] at hab
        have HCA : Hid (a * (b + 1) = c) := hcab
        clear hcab
        go_wp2_with fail
        refine (of_ok (P : Nat) (i : Nat) T p n cap _ hl hmax (hc.later hC3) h0 (thingZ_true (by omega) (by omega))).mono ?_
        rw [HB.out]
        rintro e w4 ⟨q, cq, rfl, -, hB4⟩
        have hB5 := bel_on hB hB4
        clear k30 k31 k3l t3 hB hB4
        go_wp2_with fail
        first | go_roundw | skip
        case rel => exact ⟨i + 1, by go_num, by rw [HN.out, HCA.out], by omega, hB5⟩
        case measure => simp [intOf]; omega
      · obtain rfl : P = i := by omega
        have HC : Hid (Below _ _ _) := hC3
        have hm := HM.out
        obtain ⟨a, ha⟩ : ∃ a, M.pE T P = a := ⟨_, rfl⟩
        rw [ha] at hm ⊢
        have hl9 := HL.out
        have hd1 : decide ((n : Int) + 1 ≤ (k : Int)) = true := decide_eq_true (by omega)
        have hd2 : decide ((k : Int) ≤ (a : Int)) = true := decide_eq_true (by omega)
        have hd3 : decide (n + 1 ≤ k) = true := decide_eq_true (by omega)
        have hd4 : decide (k ≤ a) = true := decide_eq_true (by omega)
        clear hC3 hB hlt ha HM HL
        go_wp2_with fail
        go_ret
        exact ⟨rfl, HC.out⟩
  · obtain ⟨d, hd⟩ : ∃ d, M.tcode P T = d := ⟨_, rfl⟩
    rw [hd] at h0
    refine (count_err P T p n cap _ hl hmax (hc.later hC1) d hd h0).mono ?_
    rintro e w2 ⟨rfl, hB2⟩
    have HC : Hid (Below _ _ _) := bel_on hC1 hB2
    clear t1 k10 k11 k1l hB2 hC1 h0 hd
    go_wp2_with fail
    go_ret
    exact ⟨rfl, HC.out⟩
end Go.Proofs.YtlhpkpjcfjdgaaaDoor
