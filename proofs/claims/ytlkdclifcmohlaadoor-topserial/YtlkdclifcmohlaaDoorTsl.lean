/- Three ways to keep apart (law TopSerial), the walk. -/
import Derived.Test.YtlkdclifcmohlaaDoorTw0
import Derived.Test.YtlkdclifcmohlaaDoorBLp
import Derived.Test.YtlkdclifcmohlaaDoorPr3
import Derived.Deep.CutBlock
namespace Go.Proofs.YtlkdclifcmohlaaDoor
open Go.RowKit
set_option maxRecDepth 100000 in
set_option maxHeartbeats 8000000 in
theorem ts_walk (ds : List Dz) (p : Option Addr) (n cap : Nat) (zs : List Az) (q : Option Addr) (m cap2 : Nat) (w : World) (he : Env w) (hl : ds.length = n) (_ : n ≤ maxLen) (hc : HasD ds p w) (hl2 : zs.length = m) (_ : m ≤ maxLen) (_ : m ≤ cap2) (hc2 : HasAc zs q w) :
    Calls Tryd.prog 6 #[.slice p n cap, .slice q m cap2] w fun e w' => e = .returned (.bool true) ∧ Below w.heap.size w w' := by
  have HE : Hid (Env w) := he
  have HC : Hid (HasD ds p w) := hc
  have HC2 : Hid (HasAc zs q w) := hc2
  have b1 : Below w.heap.size w (w.alloc (.cells lostC 31)) := bel_al (Below.refl _ _) _
  have s1 := serial_ring lostS _ 4 4 _ (he.later b1) rfl lost_aok (Nat.le_refl _) (lost_has w) lost_ring
  have B1 : Hid (Below w.heap.size w (w.alloc (.cells lostC 31))) := b1
  clear he hc hc2 b1
  go_enter Tryd.func6, Tryd.ntmps6
  go_wp2_with fail
  refine s1.mono ?_
  rintro e w1 ⟨rfl, hB⟩
  have B2 : Hid (Below w.heap.size w w1) := bel_on B1.out hB
  clear s1 hB B1
  have b1 : Below w1.heap.size w1 (w1.alloc (.cells #[.int .i64 0, .int .i64 0, .int .i64 1, .int .i64 1, .int .i64 0, .int .i64 0] 31)) := bel_al (Below.refl _ _) _
  have s1 := edges_ok twoS _ 2 2 _ rfl twoT_aok (Nat.le_refl _) (twoT_has w1)
  rw [twoT_edges] at s1
  have B3 : Hid (Below w.heap.size w (w1.alloc (.cells #[.int .i64 0, .int .i64 0, .int .i64 1, .int .i64 1, .int .i64 0, .int .i64 0] 31))) := bel_on B2.out b1
  clear b1 B2
  go_wp2_with fail
  refine s1.mono ?_
  rintro e w2 ⟨A, rfl, hrow, _, hB⟩
  have b2 : Below w2.heap.size w2 (w2.alloc (.cells #[.int .i64 2, .int .i64 0, .int .i64 0, .int .i64 0, .int .i64 0] 3)) := bel_al (Below.refl _ _) _
  have hI := (RowAt.hasI hrow).later b2
  have h5 := has5 w2 2 0 0 0 0
  have s2 := same_intsI (ints [2, 0, 0, 0, 0]) _ _ 5 5 5 _ rfl (by unfold maxLen; omega) hI h5
  have B4 : Hid (Below w.heap.size w (w2.alloc (.cells #[.int .i64 2, .int .i64 0, .int .i64 0, .int .i64 0, .int .i64 0] 3))) := bel_on (bel_on B3.out hB) b2
  clear s1 hB b2 B3 hI h5 hrow
  go_wp2_with fail
  refine s2.mono ?_
  rintro e w3 ⟨rfl, hB⟩
  have B5 : Hid (Below w.heap.size w w3) := bel_on B4.out hB
  clear s2 hB B4
  go_wp2_with fail
  refine (lnew_ok (O := fun k => w.heap.size ≤ k) w3 B5.out.size).mono ?_
  rintro e w4 ⟨S, hS, rfl, hT2, hB2⟩
  have H2 : Hid (TV (fun k => w.heap.size ≤ k) S M.lk0 w4 ∧ Below w.heap.size w w4) := ⟨hT2, B5.out.trans (hB2.mono B5.out.size)⟩
  clear hT2 hB2 hS B5
  go_upto_block 0 with fail
  go_cut [11] from 57 to 72 (fun u7 w' => ∃ s : M.Lk, Hid (TV (fun k => w.heap.size ≤ k) S s w' ∧ M.LG s ∧ Below w.heap.size w w'))
  case first =>
    go_wp2_with fail
    go_loopw [11] (fun u wr => ∃ (i : Nat) (s : M.Lk), u = .int .i64 (i : Nat) ∧ i ≤ n ∧ i ≤ 60 ∧ Hid (TV (fun k => w.heap.size ≤ k) S s wr ∧ M.LG s ∧ Below w.heap.size w wr)) (fun u _ => 60 - (intOf u).toNat)
    case atStart => exact ⟨0, _, rfl, Nat.zero_le _, Nat.zero_le _, ⟨H2.out.1, M.LG.zero, H2.out.2⟩⟩
    case round =>
      clear H2
      obtain ⟨i, s, rfl, hi, hi2, HP⟩ := hrel
      by_cases h1 : i < n
      case neg =>
        obtain rfl : n = i := by omega
        go_wp2_with fail
        go_meet
        case rel => exact ⟨s, HP⟩
      by_cases h2 : i < 60
      case neg =>
        obtain rfl : i = 60 := by omega
        have hii : (60 : Int) < n := by omega
        go_wp2_with fail
        go_meet
        case rel => exact ⟨s, HP⟩
      have h1i : (i : Int) < n := by omega
      have h2i : (i : Int) < 60 := by omega
      obtain ⟨b, off, rfl, hd⟩ := (HC.out.later HP.out.2.2) i (by omega)
      obtain ⟨⟨k, t, o, x⟩, hz⟩ : ∃ d, dAt ds i = d := ⟨_, rfl⟩
      rw [hz] at hd
      have c0 := hd.c0
      have c1 := hd.c1
      have c2 := hd.c2
      have c3 := hd.c3
      have hb := hd.lt
      simp only at c0 c1 c2 c3
      have dd := ldo_ok k t o x wr HP.out.1 (fun k hk => Nat.le_trans HP.out.2.2.size hk) HP.out.2.1
      have HN : Hid (∀ w', TV (fun k => w.heap.size ≤ k) S (lkZ s k t o x).1 w' → Frm (fun k => w.heap.size ≤ k) wr w' → TV (fun k => w.heap.size ≤ k) S (lkZ s k t o x).1 w' ∧ M.LG (lkZ s k t o x).1 ∧ Below w.heap.size w w') := fun w' h1 h2 => ⟨h1, HP.out.2.1.z k t o x, HP.out.2.2.trans (h2.below HP.out.2.2.size (fun k hk h => by omega))⟩
      clear hz hd HP
      go_wp2_with fail
      refine dd.mono ?_
      rintro e w3 ⟨rfl, h3, h4⟩
      have H3 : Hid _ := HN.out w3 h3 h4
      clear dd h3 h4 HN c0 c1 c2 c3
      go_wp2_with fail
      go_roundw
      case rel => exact ⟨i + 1, _, by go_num, by omega, by omega, H3⟩
      case measure => simp [intOf]; omega
  case rest =>
    clear H2
    obtain ⟨s, HP⟩ := hcut
    have ha := lacts_ok wc HP.out.1 HP.out.2.1
    have hser : ∀ w' p c, Below wc.heap.size wc w' → s.ac.length ≤ c → HasAc (az s.ac) p w' → Calls Tryd.prog 11 #[.slice p s.ac.length c] w' fun e w'' => ∃ A, e = .returned (.tuple #[.bool true, .slice (some ⟨A, 0, none⟩) 5 5, .nilIface]) ∧ Hid (Below w.heap.size w w'') := fun w' p c hb hcap hh => by
      have h5 := HP.out.2.2.trans (hb.mono HP.out.2.2.size)
      refine (serial_ok s.ac p s.ac.length c w' (HE.out.later h5) rfl HP.out.2.1.aok hcap hh HP.out.2.1.ringT).mono ?_
      rintro e w'' ⟨A, rfl, _, _, hB⟩
      exact ⟨A, rfl, h5.trans (hB.mono h5.size)⟩
    obtain ⟨L, hL⟩ : ∃ L, s.ac.length = L := ⟨_, rfl⟩
    rw [hL] at ha hser
    clear hL HP
    go_wp2_with fail
    refine ha.mono ?_
    rintro e w5 ⟨q1, c1, rfl, h1, h2, h3⟩
    have hs := hser w5 q1 c1 h3 h1 h2
    clear ha hser h1 h2 h3
    go_wp2_with fail
    refine hs.mono ?_
    rintro e w6 ⟨A1, rfl, B6⟩
    clear hs
    go_wp2_with fail
    refine (gnew_ok (O := fun k => k = w6.heap.size) true w6 rfl).mono ?_
    rintro e w7 ⟨rfl, hT7, hB7⟩
    go_wp2_with fail
    refine (gnew_ok (O := fun k => k = w7.heap.size) false w7 rfl).mono ?_
    rintro e w8 ⟨rfl, hT8, hB8⟩
    obtain ⟨S1, hS1⟩ : ∃ S1, w6.heap.size = S1 := ⟨_, rfl⟩
    obtain ⟨S2, hS2⟩ : ∃ S2, w7.heap.size = S2 := ⟨_, rfl⟩
    have W0 : Hid (TW w S1 S2 (fun k => k = S1) (fun k => k = S2) M.gt0 M.gt0 w8) := by
      have k1 := hT7.lt
      have k2 := hT8.lt
      have k3 := B6.out.size
      have h7 := B6.out.trans (hB7.mono k3)
      have h8 := h7.trans (hB8.mono h7.size)
      rw [hS1] at hT7 k1 k3
      rw [hS2] at hT8 k2 k1
      rw [hS2] at hB8
      have k4 := hB8.size
      exact ⟨hT7.below (hS2 ▸ hB8), hT8, M.GG.zero, M.GG.zero, fun k e e2 => by omega, h8, fun k hk e => by omega, fun k hk e => by omega, fun k e => by omega, fun k e => by omega⟩
    rw [hS1, hS2]
    clear hT7 hB7 hT8 hB8 hS1 hS2 B6
    go_upto_block 2 with fail
    go_cut [17] from 82 to 103 (fun u7 w' => ∃ (O1 O2 : Nat → Prop) (s1 s2 : M.Gt), Hid (TW w S1 S2 O1 O2 s1 s2 w'))
    case first =>
      go_wp2_with fail
      go_loopw [17] (fun u wr => ∃ (i : Nat) (O1 O2 : Nat → Prop) (s1 s2 : M.Gt), u = .int .i64 (i : Nat) ∧ i ≤ m ∧ i ≤ 40 ∧ Hid (TW w S1 S2 O1 O2 s1 s2 wr)) (fun u _ => 40 - (intOf u).toNat)
      case atStart => exact ⟨0, _, _, _, _, rfl, Nat.zero_le _, Nat.zero_le _, W0⟩
      case round =>
        clear W0
        obtain ⟨i, O1, O2, s1, s2, rfl, hi, hi2, HP⟩ := hrel
        by_cases h1 : i < m
        case neg =>
          obtain rfl : m = i := by omega
          go_wp2_with fail
          go_meet
          case rel => exact ⟨_, _, _, _, HP⟩
        by_cases h2 : i < 40
        case neg =>
          obtain rfl : i = 40 := by omega
          have hii : (40 : Int) < m := by omega
          go_wp2_with fail
          go_meet
          case rel => exact ⟨_, _, _, _, HP⟩
        have h1i : (i : Int) < m := by omega
        have h2i : (i : Int) < 40 := by omega
        obtain ⟨b, off, rfl, hd⟩ := (HC2.out.later HP.out.bl) i (by omega)
        obtain ⟨⟨t, o, x⟩, hz⟩ : ∃ d, aAt zs i = d := ⟨_, rfl⟩
        rw [hz] at hd
        have HZ : Hid (aAt zs i = ⟨t, o, x⟩) := hz
        have c0 := hd.c0
        have c1 := hd.c1
        have c2 := hd.c2
        have hb := hd.lt
        simp only at c0 c1 c2
        have dd := gdo_ok ⟨t, o, x⟩ wr HP.out.may1.1 HP.out.may1.2 HP.out.k1
        have hG1 := HP.out.k1.z true ⟨t, o, x⟩
        have hG2 : M.GG (gtZ false s2 ⟨t, o, x⟩).1 := HP.out.k2.z false ⟨t, o, x⟩
        obtain ⟨q1, hq1⟩ : ∃ q, (gtZ true s1 ⟨t, o, x⟩).2.1 = q := ⟨_, rfl⟩
        obtain ⟨q2, hq2⟩ : ∃ q, terr (gtZ true s1 ⟨t, o, x⟩).2.2 = q := ⟨_, rfl⟩
        obtain ⟨s1', hs1⟩ : ∃ s', (gtZ true s1 ⟨t, o, x⟩).1 = s' := ⟨_, rfl⟩
        rw [hq1, hq2, hs1] at dd
        rw [hs1] at hG1
        have H2A : Hid (∀ w3, GV (nxT O1 wr) S1 true s1' w3 → Frm (nxT O1 wr) wr w3 → TW w S1 S2 (fun j => nxT O1 wr j ∧ j < w3.heap.size) O2 s1' s2 w3 ∧ AcAt ⟨t, o, x⟩ b (off + i * 3) w3) := fun w3 h3 h4 => by
          have hT := HP.out.one h3 h4 hG1
          obtain ⟨b9, o9, e9, h9⟩ := (HC2.out.later hT.bl) i (by omega)
          cases e9
          rw [HZ.out] at h9
          exact ⟨hT, h9⟩
        clear hz hd HP hq1 hq2 hs1 hG1
        go_wp2_with fail
        refine dd.mono ?_
        rintro e w3 ⟨rfl, h3, h4⟩
        obtain ⟨hT, h9⟩ := H2A.out w3 h3 h4
        have HT : Hid _ := hT
        clear dd h3 h4 H2A c0 c1 c2 hT
        have c0 := h9.c0
        have c1 := h9.c1
        have c2 := h9.c2
        have hb3 := h9.lt
        simp only at c0 c1 c2
        have dd := gdo_ok ⟨t, o, x⟩ w3 HT.out.may2.1 HT.out.may2.2 HT.out.k2
        obtain ⟨q3, hq3⟩ : ∃ q, (gtZ false s2 ⟨t, o, x⟩).2.1 = q := ⟨_, rfl⟩
        obtain ⟨q4, hq4⟩ : ∃ q, terr (gtZ false s2 ⟨t, o, x⟩).2.2 = q := ⟨_, rfl⟩
        obtain ⟨s2', hs2⟩ : ∃ s', (gtZ false s2 ⟨t, o, x⟩).1 = s' := ⟨_, rfl⟩
        rw [hq3, hq4, hs2] at dd
        rw [hs2] at hG2
        have H2B : Hid (∀ w4, GV (nxT O2 w3) S2 false s2' w4 → Frm (nxT O2 w3) w3 w4 → TW w S1 S2 _ (fun j => nxT O2 w3 j ∧ j < w4.heap.size) s1' s2' w4) := fun w4 h3 h4 => HT.out.two h3 h4 hG2
        clear h9 HT hq3 hq4 hs2 hG2 hb HZ
        go_wp2_with fail
        refine dd.mono ?_
        rintro e w4 ⟨rfl, h3, h4⟩
        have H3 : Hid _ := H2B.out w4 h3 h4
        clear dd h3 h4 H2B c0 c1 c2
        go_wp2_with fail
        go_roundw
        case rel => exact ⟨i + 1, _, _, _, _, by go_num, by omega, by omega, H3⟩
        case measure => simp [intOf]; omega
    case rest =>
      clear W0
      obtain ⟨O1, O2, s1, s2, HP⟩ := hcut
      have ha := gacts_ok wc HP.out.g1 HP.out.k1
      have hser : ∀ w' p c, Below wc.heap.size wc w' → s1.ac.length ≤ c → HasAc (az s1.ac) p w' → Calls Tryd.prog 11 #[.slice p s1.ac.length c] w' fun e w'' => ∃ A, e = .returned (.tuple #[.bool true, .slice (some ⟨A, 0, none⟩) 5 5, .nilIface]) ∧ Hid (TW w S1 S2 O1 O2 s1 s2 w'') := fun w' p c hb hcap hh => by
        have h5 := HP.out.bl.trans (hb.mono HP.out.bl.size)
        refine (serial_ok s1.ac p s1.ac.length c w' (HE.out.later h5) rfl HP.out.k1.aok hcap hh HP.out.k1.ringT).mono ?_
        rintro e w'' ⟨A, rfl, _, _, hB⟩
        exact ⟨A, rfl, (HP.out.later hb).later hB⟩
      obtain ⟨L, hL⟩ : ∃ L, s1.ac.length = L := ⟨_, rfl⟩
      rw [hL] at ha hser
      clear hL HP
      go_wp2_with fail
      refine ha.mono ?_
      rintro e w5 ⟨q1, c1, rfl, h1, h2, h3⟩
      have hs := hser w5 q1 c1 h3 h1 h2
      clear ha hser h1 h2 h3
      go_wp2_with fail
      refine hs.mono ?_
      rintro e w6 ⟨A2, rfl, HP⟩
      clear hs
      have ha := gacts_ok w6 HP.out.g2 HP.out.k2
      have hser : ∀ w' p c, Below w6.heap.size w6 w' → s2.ac.length ≤ c → HasAc (az s2.ac) p w' → Calls Tryd.prog 11 #[.slice p s2.ac.length c] w' fun e w'' => ∃ A, e = .returned (.tuple #[.bool true, .slice (some ⟨A, 0, none⟩) 5 5, .nilIface]) ∧ Hid (Below w.heap.size w w'') := fun w' p c hb hcap hh => by
        have h5 := HP.out.bl.trans (hb.mono HP.out.bl.size)
        refine (serial_ok s2.ac p s2.ac.length c w' (HE.out.later h5) rfl HP.out.k2.aok hcap hh HP.out.k2.ringT).mono ?_
        rintro e w'' ⟨A, rfl, _, _, hB⟩
        exact ⟨A, rfl, ((HP.out.later hb).later hB).bl⟩
      obtain ⟨L2, hL⟩ : ∃ L, s2.ac.length = L := ⟨_, rfl⟩
      rw [hL] at ha hser
      clear hL HP
      go_wp2_with fail
      refine ha.mono ?_
      rintro e w7 ⟨q2, c2, rfl, h1, h2, h3⟩
      have hs := hser w7 q2 c2 h3 h1 h2
      clear ha hser h1 h2 h3
      go_wp2_with fail
      refine hs.mono ?_
      rintro e w8 ⟨A3, rfl, HB⟩
      clear hs
      go_wp2_with fail
      go_ret
      exact ⟨rfl, HB.out⟩
end Go.Proofs.YtlkdclifcmohlaaDoor
