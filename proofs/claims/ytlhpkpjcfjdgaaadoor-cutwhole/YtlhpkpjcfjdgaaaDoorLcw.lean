/- MATTERN: A WHOLE CUT HAS ALL THAT HAPPENED BEFORE (law CutWhole), the walk. -/
import Derived.Test.YtlhpkpjcfjdgaaaDoorCfc
import Derived.Test.YtlhpkpjcfjdgaaaDoorRefBig
namespace Go.Proofs.YtlhpkpjcfjdgaaaDoor
open Go.RowKit
namespace M
/-- of the first k events, each that is in the set has all that happened before it there -/
def alTo (T : List (Int × Int)) (s : Nat) : Nat → Bool
  | 0 => true
  | k + 1 => alTo T s k && (!s.testBit k || subB (bs T k) s)
theorem alTo_iff (T : List (Int × Int)) (s n : Nat) : alTo T s n = true ↔ ∀ i, i < n → s.testBit i = true → subB (bs T i) s = true := by
  induction n with
  | zero => simp [alTo]
  | succ n ih =>
    simp only [alTo, Bool.and_eq_true, ih]
    constructor
    · rintro ⟨h1, h2⟩ i hi hs
      by_cases e : i = n
      · subst e; rw [hs] at h2; simpa using h2
      · exact h1 i (by omega) hs
    · refine fun h => ⟨fun i hi hs => h i (by omega) hs, ?_⟩
      cases hs : s.testBit n with
      | false => rfl
      | true => simpa using h n (by omega) hs
theorem alTo_wh {P : Int} {T : List (Int × Int)} (hk : TOk P T) (c : List Nat) : alTo T (cset T c T.length) T.length = whB T c := by
  rw [Bool.eq_iff_iff, alTo_iff, wh_sub hk]
end M
set_option maxRecDepth 100000 in
set_option maxHeartbeats 4000000 in
theorem cw_walk (P : Int) (T : List (Int × Int)) (p : Option Addr) (n cap : Nat) (zs : List Int) (q : Option Addr) (m cap2 : Nat) (w : World) (he : Env w) (hl : T.length = n) (hmax : n ≤ maxLen) (hc : HasE T p w) (hl2 : zs.length = m) (hmax2 : m ≤ maxLen) (hz : HasI zs q w) (_ : ∀ k : Nat, zs[k]?.getD 0 < 9223372036854775808) :
    Calls Tryd.prog 4 #[trV P p n cap, .slice q m cap2] w fun e w' => e = .returned (.bool true) ∧ Below w.heap.size w w' := by
  obtain ⟨wa, hwa⟩ : ∃ wa, w.alloc (.cells #[.int .i64 P, .slice p n cap] 24) = wa := ⟨_, rfl⟩
  have ta : TBox wa w.heap.size P p n cap := hwa ▸ tbox_new w P p n cap
  have hBa : Below w.heap.size w wa := by rw [← hwa]; exact bel_al (Below.refl _ _) _
  go_enter Tryd.func4, Tryd.ntmps4
  go_wp2_with fail
  refine (cutFact_ok _ (he.later hBa)).mono ?_
  rintro e w1 ⟨rfl, hB1⟩
  have t1 := ta.later hB1 ta.lt
  have hC1 := bel_on hBa hB1
  have k10 := t1.procs
  have k11 := t1.events
  have k1l := t1.lt
  clear hwa ta hBa hB1
  by_cases h0 : M.ccode P T zs = 0
  · obtain ⟨hok, hCk, hzz⟩ := M.ccode_zero.1 h0
    have h1 : M.tcode P T = 0 := M.tcode_zero.2 hok
    have hn : n ≤ 24 := hl ▸ hok.len
    have hal := M.alTo_wh hok (M.cof0 zs)
    rw [hl] at hal
    have hset := M.cset_lt T (M.cof0 zs) n
    obtain ⟨s, hs⟩ : ∃ s, M.cset T (M.cof0 zs) n = s := ⟨_, rfl⟩
    rw [hs] at hset hal
    have hs24 : s < 16777216 := by have := pow_24 n hn; omega
    go_wp2_with fail
    refine (cis_ok P T p n cap zs q m cap2 _ hl (he.later hC1) hmax (hc.later hC1) hl2 hmax2 (hz.later hC1) h0).mono ?_
    rw [← hal]
    obtain ⟨bb, hbb⟩ : ∃ bb, M.alTo T s n = bb := ⟨_, rfl⟩
    have HBB : Hid (M.alTo T s n = bb) := hbb
    rw [hbb]
    clear hbb hal
    rintro e w2 ⟨rfl, hB2⟩
    have t2 := t1.later hB2 t1.lt
    have hC2 := bel_on hC1 hB2
    have k20 := t2.procs
    have k21 := t2.events
    have k2l := t2.lt
    clear t1 k10 k11 k1l hB2 hC1
    go_wp2_with fail
    refine (cevents_ok P T p n cap zs q m cap2 _ hl hmax (hc.later hC2) hl2 hmax2 (hz.later hC2) h0).mono ?_
    rw [hs]
    rintro e w3 ⟨rfl, hB3⟩
    have t3 := t2.later hB3 t2.lt
    have hC3 := bel_on hC2 hB3
    have k30 := t3.procs
    have k31 := t3.events
    have k3l := t3.lt
    clear t2 k20 k21 k2l hB3 hC2 hs
    go_wp2_with fail
    refine (before_ok P T p n cap _ hl hmax (hc.later hC3) h1).mono ?_
    rintro e w4 ⟨A, rfl, hbf, hA, hB4⟩
    have t4 := t3.later hB4 t3.lt
    have hC4 := bel_on hC3 hB4
    have k40 := t4.procs
    have k41 := t4.events
    have k4l := t4.lt
    clear t3 k30 k31 k3l hB4 hC3
    have hd0 : decide ((s : Int) < 0) = false := decide_eq_false (by omega)
    go_wp2_with fail
    clear k40 k41 k4l t4
    go_loopw [12, 13] (fun u v wr => ∃ i : Nat, v = .int .i64 i ∧ u = .bool (M.alTo T s i) ∧ i ≤ n ∧ w4 = wr) (fun _ v _ => n - (intOf v).toNat)
    case atStart => exact ⟨0, rfl, rfl, Nat.zero_le _, rfl⟩
    case round =>
      obtain ⟨i, rfl, rfl, hi, rfl⟩ := hrel
      by_cases hlt : i < n
      · have hce := hbf.cell (k := i) (by unfold M.before; rw [M.bfs_length]; omega)
        rw [M.before_row T (by omega)] at hce
        have hbl := M.bs_lt T i
        have hp24 := pow_24 i (by omega)
        have hnx : M.alTo T s (i + 1) = (M.alTo T s i && (!s.testBit i || M.subB (M.bs T i) s)) := rfl
        obtain ⟨y, hy⟩ : ∃ y, M.bs T i = y := ⟨_, rfl⟩
        rw [hy] at hce hbl hnx
        have HN : Hid (M.alTo T s (i + 1) = (M.alTo T s i && (!s.testBit i || M.subB y s))) := hnx
        clear hnx hy
        cases hai : M.alTo T s i with
        | false =>
          go_wp2_with fail
          go_roundw
          case rel => exact ⟨i + 1, by go_num, by rw [HN.out, hai]; rfl, by omega, trivial⟩
          case measure => simp [intOf]; omega
        | true =>
          cases hsi : s.testBit i with
          | false =>
            go_wp2_with (go_at_call 23; refine (bit_big s i _ (by omega) (by omega)).mono ?_; rw [hsi]; rintro e w' ⟨rfl, rfl⟩)
            go_roundw
            case rel => exact ⟨i + 1, by go_num, by rw [HN.out, hai, hsi]; rfl, by omega, trivial⟩
            case measure => simp [intOf]; omega
          | true =>
            go_wp2_with (first | (go_at_call 23; refine (bit_big s i _ (by omega) (by omega)).mono ?_; rw [hsi]; rintro e w' ⟨rfl, rfl⟩) | (go_at_call 24; refine (within_big y s _ (by omega) (by omega)).mono ?_; rintro e w' ⟨rfl, rfl⟩))
            go_roundw
            case rel => exact ⟨i + 1, by go_num, by rw [HN.out, hai, hsi]; rfl, by omega, trivial⟩
            case measure => simp [intOf]; omega
      · obtain rfl : i = n := by omega
        rw [HBB.out]
        have HC : Hid (Below _ _ _) := hC4
        clear hC4
        cases bb
        all_goals go_wp2_with fail
        all_goals go_ret
        all_goals exact ⟨rfl, HC.out⟩
  · obtain ⟨c, hcc⟩ : ∃ c, M.ccode P T zs = c := ⟨_, rfl⟩
    rw [hcc] at h0
    go_wp2_with fail
    refine (cis_err P T p n cap zs q m cap2 _ hl hmax (hc.later hC1) hl2 hmax2 (hz.later hC1) c hcc h0).mono ?_
    rintro e w2 ⟨rfl, hB2⟩
    have t2 := t1.later hB2 t1.lt
    have hC2 := bel_on hC1 hB2
    have k20 := t2.procs
    have k21 := t2.events
    have k2l := t2.lt
    clear t1 k10 k11 k1l hB2 hC1
    go_wp2_with fail
    refine (cevents_err P T p n cap zs q m cap2 _ hl hmax (hc.later hC2) hl2 hmax2 (hz.later hC2) c hcc h0).mono ?_
    rintro e w3 ⟨rfl, hB3⟩
    have t3 := t2.later hB3 t2.lt
    have hC3 := bel_on hC2 hB3
    have k30 := t3.procs
    have k31 := t3.events
    have k3l := t3.lt
    clear t2 k20 k21 k2l hB3 hC2
    clear h0 hcc
    go_wp2_with fail
    by_cases h1 : M.tcode P T = 0
    · refine (before_ok P T p n cap _ hl hmax (hc.later hC3) h1).mono ?_
      rintro e w4 ⟨A, rfl, hbf, hA, hB4⟩
      have HC : Hid (Below _ _ _) := bel_on hC3 hB4
      clear hB4 hC3 hbf t3 k30 k31 k3l h1
      go_wp2_with fail
      go_ret
      exact ⟨rfl, HC.out⟩
    · obtain ⟨d, hd⟩ : ∃ d, M.tcode P T = d := ⟨_, rfl⟩
      rw [hd] at h1
      refine (before_err P T p n cap d _ hl hmax (hc.later hC3) hd h1).mono ?_
      rintro e w4 ⟨rfl, hB4⟩
      have HC : Hid (Below _ _ _) := bel_on hC3 hB4
      clear hB4 hC3 t3 k30 k31 k3l h1 hd
      go_wp2_with fail
      go_ret
      exact ⟨rfl, HC.out⟩
end Go.Proofs.YtlhpkpjcfjdgaaaDoor
