/- The document's own word on whether a cut is whole, and the line in it (package whensteadref2, Whole, Line); what lay in memory lies as it lay. -/
import Derived.Test.YtlhpkpjcfjdgaaaDoorRefCt2
import Derived.Test.YtlhpkpjcfjdgaaaDoorCt6
import Derived.Test.YtlhpkpjcfjdgaaaDoorRefTbf
namespace Go.Proofs.YtlhpkpjcfjdgaaaDoor
open Go.RowKit
set_option maxRecDepth 100000 in
set_option maxHeartbeats 1000000 in
theorem refWhole_ok (P : Int) (T : List (Int × Int)) (p : Option Addr) (n cap : Nat) (c : List Nat) (q : Option Addr) (m cap2 : Nat) (w : World) (hl : T.length = n) (hc : HasE T p w) (hlc : c.length = m) (hz : HasI (ints c) q w) (hok : M.TOk P T) (hCP : (c.length : Int) = P) :
    Calls Tryd.prog 15 #[trV P p n cap, .slice q m cap2] w fun e w' => e = .returned (.bool (M.whB T c)) ∧ Below w.heap.size w w' := by
  have hn : n ≤ 24 := hl ▸ hok.len
  have hwh : M.whB T c = M.whTo T c n := by unfold M.whB; rw [hl]
  rw [hwh]
  clear hwh
  obtain ⟨wa, hwa⟩ : ∃ wa, w.alloc (.cells #[.int .i64 P, .slice p n cap] 24) = wa := ⟨_, rfl⟩
  have ta : TBox wa w.heap.size P p n cap := hwa ▸ tbox_new w P p n cap
  have hBa : Below w.heap.size w wa := by rw [← hwa]; exact bel_al (Below.refl _ _) _
  have k0 := ta.procs
  have k1 := ta.events
  have kl := ta.lt
  go_enter Tryd.func15, Tryd.ntmps15
  go_wp2_with fail
  clear hwa k0 k1 kl
  refine (refCutSet_ok P T p n cap c q m cap2 _ hl (hc.later hBa) hlc (hz.later hBa) hok hCP).mono ?_
  have hcs := M.cset_lt T c n
  have hpw := pow_24 n hn
  have hbit := M.cset_bit T c n
  obtain ⟨s, hs⟩ : ∃ s, M.cset T c n = s := ⟨_, rfl⟩
  rw [hs] at hcs hbit ⊢
  have HBT : Hid (∀ j, s.testBit j = (decide (j < n) && M.inC T c j)) := hbit
  clear hs hbit
  rintro e w1 ⟨rfl, hB1⟩
  have t1 := ta.later hB1 ta.lt
  have hC1 := bel_on hBa hB1
  have hc1 := hc.later hC1
  clear hBa hB1 ta
  go_wp2_with fail
  go_loopw [6] (fun v wr => ∃ i : Nat, v = .int .i64 i ∧ i ≤ n ∧ Hid (M.whTo T c i = true) ∧ w1 = wr) (fun v _ => n - (intOf v).toNat)
  case atStart => exact ⟨0, rfl, Nat.zero_le _, show M.whTo T c 0 = true from rfl, rfl⟩
  case round =>
    obtain ⟨i, rfl, hi, hW, rfl⟩ := hrel
    have k0 := t1.procs
    have k1 := t1.events
    have kl := t1.lt
    by_cases hlt : i < n
    · obtain ⟨b, off, rfl, hb, hp1, hp2⟩ := hc1 i (by omega)
      have hf0 := hok.fm0 i (by omega)
      have hfI := hok.fmI i (by omega)
      have hil : (i : Int) < (n : Int) := by omega
      obtain ⟨f, hf⟩ : ∃ f, M.fm T i = f := ⟨_, rfl⟩
      have HF : Hid (M.fm T i = f) := hf
      rw [hf] at hp2 hf0 hfI
      clear hf
      cases hsi : s.testBit i with
      | false =>
        have HN : Hid (M.whTo T c (i + 1) = true) := by
          show _ = _
          rw [M.whTo_iff]
          intro j hj hjc hjf
          by_cases e : j = i
          · subst e
            have := HBT.out j
            rw [hsi, hjc, decide_eq_true hlt] at this
            cases this
          · exact (M.whTo_iff T c i).1 hW.out j (by omega) hjc hjf
        clear hW
        go_wp2_with (go_at_call 23; refine (bit_big s i _ (by omega) (by omega)).mono ?_; rw [hsi]; rintro e w' ⟨rfl, rfl⟩)
        go_roundw
        case rel => exact ⟨i + 1, by go_num, by omega, HN, trivial⟩
        case measure => simp [intOf]; omega
      | true =>
        by_cases hf1 : f = -1
        · subst hf1
          have HN : Hid (M.whTo T c (i + 1) = true) := by
            show _ = _
            rw [M.whTo_iff]
            intro j hj hjc hjf
            by_cases e : j = i
            · subst e; rw [HF.out] at hjf; omega
            · exact (M.whTo_iff T c i).1 hW.out j (by omega) hjc hjf
          clear hW
          go_wp2_with (go_at_call 23; refine (bit_big s i _ (by omega) (by omega)).mono ?_; rw [hsi]; rintro e w' ⟨rfl, rfl⟩)
          go_roundw
          case rel => exact ⟨i + 1, by go_num, by omega, HN, trivial⟩
          case measure => simp [intOf]; omega
        · obtain ⟨j, rfl⟩ : ∃ j : Nat, f = j := ⟨f.toNat, by omega⟩
          have hjn : j < n := by omega
          have hj0 : decide ((0 : Int) ≤ (j : Int)) = true := decide_eq_true (by omega)
          clear hf1 hf0
          cases hsj : s.testBit j with
          | true =>
            have HN : Hid (M.whTo T c (i + 1) = true) := by
              show _ = _
              rw [M.whTo_iff]
              intro k hk hkc hkf
              by_cases e : k = i
              · subst e
                rw [HF.out, Int.toNat_natCast]
                have := HBT.out j
                rw [hsj, decide_eq_true hjn, Bool.true_and] at this
                exact this.symm
              · exact (M.whTo_iff T c i).1 hW.out k (by omega) hkc hkf
            clear hW
            go_wp2_with fail
            refine (bit_big s i _ (by omega) (by omega)).mono ?_
            rw [hsi]
            rintro e w' ⟨rfl, rfl⟩
            go_wp2_with fail
            refine (bit_big s j _ (by omega) (by omega)).mono ?_
            rw [hsj]
            rintro e w' ⟨rfl, rfl⟩
            go_wp2_with fail
            go_roundw
            case rel => exact ⟨i + 1, by go_num, by omega, HN, trivial⟩
            case measure => simp [intOf]; omega
          | false =>
            have HN : Hid (M.whTo T c n = false) := M.whTo_not hlt (by
              have := HBT.out i
              rw [hsi, decide_eq_true hlt, Bool.true_and] at this
              exact this.symm) (by rw [HF.out]; omega) (by
              rw [HF.out, Int.toNat_natCast]
              have := HBT.out j
              rw [hsj, decide_eq_true hjn, Bool.true_and] at this
              exact this.symm)
            clear hW
            go_wp2_with fail
            refine (bit_big s i _ (by omega) (by omega)).mono ?_
            rw [hsi]
            rintro e w' ⟨rfl, rfl⟩
            go_wp2_with fail
            refine (bit_big s j _ (by omega) (by omega)).mono ?_
            rw [hsj]
            rintro e w' ⟨rfl, rfl⟩
            go_wp2_with fail
            go_ret
            exact ⟨by rw [HN.out]; rfl, hC1⟩
    · obtain rfl : n = i := by omega
      go_wp2_with fail
      go_ret
      exact ⟨by rw [hW.out]; rfl, hC1⟩
namespace M
/-- the things of a set below i -/
def bitsTo (s i : Nat) : List Nat := (List.range i).filter fun j => s.testBit j
theorem bitsTo_hit {s i : Nat} (h : s.testBit i = true) : bitsTo s (i + 1) = bitsTo s i ++ [i] := by simp [bitsTo, List.range_succ, List.filter_append, h]
theorem bitsTo_miss {s i : Nat} (h : s.testBit i = false) : bitsTo s (i + 1) = bitsTo s i := by simp [bitsTo, List.range_succ, List.filter_append, h]
theorem bitsTo_len (s i : Nat) : (bitsTo s i).length ≤ i := by
  unfold bitsTo
  exact Nat.le_trans (List.length_filter_le _ _) (by simp)
theorem bitsTo_all {s n : Nat} (hn : n ≤ 24) (h : s < 2 ^ n) : bitsTo s n = bitsB s := by
  unfold bitsTo bitsB
  have hr : List.range 24 = List.range n ++ (List.range (24 - n)).map (fun x => n + x) := by
    rw [← List.range_add, show n + (24 - n) = 24 by omega]
  rw [hr, List.filter_append]
  have h0 : ((List.range (24 - n)).map (fun x => n + x)).filter (fun j => s.testBit j) = [] := by
    rw [List.filter_eq_nil_iff]
    intro i hi
    obtain ⟨x, _, rfl⟩ := List.mem_map.1 hi
    rw [Nat.testBit_lt_two_pow (Nat.lt_of_lt_of_le h (Nat.pow_le_pow_right (by omega) (by omega)))]
    simp
  rw [h0, List.append_nil]
end M
set_option maxRecDepth 100000 in
set_option maxHeartbeats 1000000 in
theorem refLine_ok (T : List (Int × Int)) (p : Option Addr) (n cap : Nat) (c : List Nat) (q : Option Addr) (m cap2 : Nat) (w : World) (hl : T.length = n) (hc : HasE T p w) (hlc : c.length = m) (hz : HasI (ints c) q w) (hok : M.TOk (m : Nat) T) :
    Calls Tryd.prog 16 #[trV (m : Nat) p n cap, .slice q m cap2] w fun e w' => ∃ A, e = .returned (.slice (some ⟨A, 0, none⟩) m m) ∧ RowAt 3 w' A (M.line T c) ∧ Below w.heap.size w w' := by
  have hn : n ≤ 24 := hl ▸ hok.len
  have hm5 : m ≤ 5 := by have := hok.p5; omega
  have hCP : (c.length : Int) = (m : Nat) := by omega
  have hend := M.lnl_end hok c
  rw [hl, hlc] at hend
  have hmk0 := run_make_row' (P := Tryd.prog) 25 3 (.int .i64 0) 8 Tryd.underlying25 infoInt rfl .i64 .i64 m (by omega) (by omega)
  obtain ⟨wa, hwa⟩ : ∃ wa, w.alloc (.cells #[.int .i64 (m : Nat), .slice p n cap] 24) = wa := ⟨_, rfl⟩
  have ta : TBox wa w.heap.size (m : Nat) p n cap := hwa ▸ tbox_new w (m : Nat) p n cap
  have hBa : Below w.heap.size w wa := by rw [← hwa]; exact bel_al (Below.refl _ _) _
  have k0 := ta.procs
  have k1 := ta.events
  have kl := ta.lt
  go_enter Tryd.func16, Tryd.ntmps16
  go_wp2_with fail
  clear hwa k0 k1 kl
  refine (refBefore_ok (m : Nat) T p n cap _ hl (hc.later hBa) hok).mono ?_
  rintro e w1 ⟨qb, cb, rfl, hbf, hB1⟩
  have t1 := ta.later hB1 ta.lt
  have hC1 := bel_on hBa hB1
  have k0 := t1.procs
  have k1 := t1.events
  have kl := t1.lt
  clear hBa hB1 ta
  go_wp2_with fail
  refine (refCutSet_ok (m : Nat) T p n cap c q m cap2 _ hl (hc.later hC1) hlc (hz.later hC1) hok hCP).mono ?_
  have hcs := M.cset_lt T c n
  have hpw := pow_24 n hn
  obtain ⟨s, hs⟩ : ∃ s, M.cset T c n = s := ⟨_, rfl⟩
  rw [hs] at hcs hend ⊢
  rw [← M.bitsTo_all hn hcs] at hend
  have HE : Hid (M.lnl T s m (M.bitsTo s n) = M.line T c) := hend
  clear hs hend
  rintro e w2 ⟨rfl, hB2⟩
  have t2 := t1.later hB2 t1.lt
  have hC2 := bel_on hC1 hB2
  have hbf2 := hbf.later hB2
  clear k0 k1 kl t1 hC1 hB2 hbf
  obtain ⟨w3, hw3⟩ : ∃ w3, w2.alloc (.cells (madeCells #[.int .i64 0] m) 3) = w3 := ⟨_, rfl⟩
  have r3 : RowAt 3 w3 w2.heap.size (M.lnl T s m (M.bitsTo s 0)) := by
    subst hw3
    unfold RowAt
    rw [World.alloc_heap_new, made_noughts, show M.bitsTo s 0 = [] from rfl, M.lnl_nil]
  have hb3 : Below w2.heap.size w2 w3 := by rw [← hw3]; exact bel_al (Below.refl _ _) _
  have k0 := t2.procs
  have k1 := t2.events
  have kl := t2.lt
  go_wp2_with fail
  clear hw3 hmk0 k0 k1 kl
  go_loopw [8] (fun v wr => ∃ i : Nat, v = .int .i64 i ∧ i ≤ n ∧ RowAt 3 wr w2.heap.size (M.lnl T s m (M.bitsTo s i)) ∧ Below w2.heap.size w2 wr) (fun v _ => n - (intOf v).toNat)
  case atStart => exact ⟨0, rfl, Nat.zero_le _, r3, hb3⟩
  case round =>
    clear r3 hb3
    obtain ⟨i, rfl, hi, hr, hB⟩ := hrel
    have t4 := t2.later hB t2.lt
    have k0 := t4.procs
    have k1 := t4.events
    have kl := t4.lt
    have hC4 := bel_on hC2 hB
    have hrl := hr.lt
    by_cases hlt : i < n
    · have hil : (i : Int) < (n : Int) := by omega
      cases hsi : s.testBit i with
      | false =>
        have HN : Hid (RowAt 3 wr w2.heap.size (M.lnl T s m (M.bitsTo s (i + 1)))) := by show RowAt _ _ _ _; rw [M.bitsTo_miss hsi]; exact hr
        clear hr
        go_wp2_with (go_at_call 23; refine (bit_big s i _ (by omega) (by omega)).mono ?_; rw [hsi]; rintro e w' ⟨rfl, rfl⟩)
        go_roundw
        case rel => exact ⟨i + 1, by go_num, by omega, HN.out, hB⟩
        case measure => simp [intOf]; omega
      | true =>
        have hbs := M.bs_lt T i
        have hp24 := pow_24 i (by omega)
        obtain ⟨y, hy⟩ : ∃ y, M.bs T i = y := ⟨_, rfl⟩
        obtain ⟨b3, off3, rfl, hb3, hcy⟩ := hasI_nat (hbf2.later hB) (show i < (M.before T).length by rw [M.before_length]; omega) (show M.row (M.before T) i = y by rw [M.before_row T (by omega), hy])
        rw [hy] at hbs
        cases hsub : M.subB y s with
        | false =>
          have HN : Hid (RowAt 3 wr w2.heap.size (M.lnl T s m (M.bitsTo s (i + 1)))) := by show RowAt _ _ _ _; rw [M.bitsTo_hit hsi, M.lnl_miss (by rw [hy]; exact hsub)]; exact hr
          clear hr hy
          go_wp2_with (first | (go_at_call 23; refine (bit_big s i _ (by omega) (by omega)).mono ?_; rw [hsi]; rintro e w' ⟨rfl, rfl⟩) | (go_at_call 24; refine (within_big y s _ (by omega) (by omega)).mono ?_; rw [hsub]; rintro e w' ⟨rfl, rfl⟩))
          go_roundw
          case rel => exact ⟨i + 1, by go_num, by omega, HN.out, hB⟩
          case measure => simp [intOf]; omega
        | true =>
          obtain ⟨b, off, rfl, hb, hp1, hp2⟩ := (hc.later hC4) i (by omega)
          obtain ⟨a, ha, haP⟩ := M.pr_nat hok (show i < T.length by omega)
          have ham : a < m := by omega
          rw [ha] at hp1
          have v6 := hr.cell (k := a) (by rw [M.lnl_length]; exact ham)
          rw [M.lnl_row T s _ ham] at v6
          have hle := M.lnc_le T s (M.bitsTo s i) a
          have hbl := M.bitsTo_len s i
          have hst := hr.set a (M.lnc T s (M.bitsTo s i) a + 1)
          rw [M.lnl_hit ha (by rw [hy]; exact hsub) rfl, ← M.bitsTo_hit hsi] at hst
          obtain ⟨g, hg⟩ : ∃ g, M.lnc T s (M.bitsTo s i) a = g := ⟨_, rfl⟩
          rw [hg] at v6 hle hst
          have hfz := hr.frozen a
          obtain ⟨g1, hg1⟩ : ∃ g1, g + 1 = g1 := ⟨_, rfl⟩
          rw [hg1] at hst
          have hgi : ((g : Int) + 1) = (g1 : Int) := by omega
          have HST : Hid (RowAt _ _ _ _) := hst
          have HB2 : Hid (Below _ _ _) := hB.setCell (p := ⟨w2.heap.size, a, none⟩) (Nat.le_refl _) (.int .i64 (g1 : Nat))
          have ha5 : (a : Int) < (m : Int) := by omega
          clear hst hg hg1 ha haP hp2 hr hB hy
          go_wp2_with (first | (go_at_call 23; refine (bit_big s i _ (by omega) (by omega)).mono ?_; rw [hsi]; rintro e w' ⟨rfl, rfl⟩) | (go_at_call 24; refine (within_big y s _ (by omega) (by omega)).mono ?_; rw [hsub]; rintro e w' ⟨rfl, rfl⟩))
          go_roundw
          case rel => exact ⟨i + 1, by go_num, by omega, HST.out, HB2.out⟩
          case measure => simp [intOf]; omega
    · obtain rfl : n = i := by omega
      rw [HE.out] at hr
      go_wp2_with fail
      go_ret
      exact ⟨_, rfl, hr, hC4⟩
end Go.Proofs.YtlhpkpjcfjdgaaaDoor
