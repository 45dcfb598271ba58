/- Any table, and anything that is written and told (law TablePlays), the walk. -/
import Derived.Test.YtelonimdpeenaaaDoorRefT5
import Derived.Test.YtelonimdpeenaaaDoorErr
import Derived.Test.YtelonimdpeenaaaDoorHss
import Derived.Test.YtelonimdpeenaaaDoorTb5
namespace Go.Proofs.YtelonimdpeenaaaDoor
open Go.RowKit
theorem err_ok (c : Nat) (w : World) (hg : Ety w) : Calls Tryd.prog 5 #[terr c, .int .i64 (c : Nat)] w fun e w' => e = .returned (.bool true) ∧ Below w.heap.size w w' := by
  by_cases h : c = 0
  · subst h
    refine (error_nil w).mono ?_
    rintro e w' ⟨rfl, rfl⟩
    exact ⟨rfl, Below.refl _ _⟩
  · rw [terr_ne h]
    exact error_same c w hg
/-- How things stand: the program's table at S, the document's, in block B; its lists lie elsewhere. -/
structure PT (w : World) (S n m B : Nat) (kp kr : M.Kt) (W : Nat → Nat) (v : TT) (wr : World) : Prop where
  tv : TV S n kp wr
  ti : M.TI n kr W
  rt : RT (fun j => j ≠ S ∧ j ≠ B) n m kr W v wr
  lb : LT B n m n v wr
  bl : Below w.heap.size w wr
  gs : w.heap.size ≤ S
  gb : w.heap.size ≤ B
  sb : S ≠ B
section
variable {w : World} {S n m B : Nat} {kp kp' kr kr' : M.Kt} {W W' : Nat → Nat} {v v' : TT} {wr w1 : World}
theorem PT.later (h : PT w S n m B kp kr W v wr) (hb : Below wr.heap.size wr w1) : PT w S n m B kp kr W v w1 :=
  ⟨h.tv.below hb, h.ti, h.rt.later hb, h.lb.below hb, bel_on h.bl hb, h.gs, h.gb, h.sb⟩
theorem PT.fresh (h : PT w S n m B kp kr W v wr) (hb : Below wr.heap.size wr w1) : ∀ j, w1.heap.size ≤ j → j ≠ S ∧ j ≠ B := fun j hj => by
  have h1 := World.rowIs.lt h.tv
  have h2 := h.lb.lt
  have h3 := hb.size
  exact ⟨by omega, by omega⟩
/-- a step of the document's, stored -/
theorem PT.ref (h : PT w S n m B kp kr W v wr) (hb : Below wr.heap.size wr w1) (ht : M.TI n kr' W') (hr : RT (fun j => j ≠ S ∧ j ≠ B) n m kr' W' v' w1) : PT w S n m B kp kr' W' v' (cpyT w1 B n m n v'.pk v'.ck v'.pd v'.cd) := by
  have h' := h.later hb
  exact ⟨World.rowIs.setOther (World.rowIs.setOther (World.rowIs.setOther h'.tv (a := ⟨B, 0, none⟩) h.sb _) (a := ⟨B, 1, none⟩) h.sb _) (a := ⟨B, 2, none⟩) h.sb _, ht, hr.cpy (fun e => e.2 rfl) _ _ _ _ _ _ _, h'.lb.cpy v', bel_cpyT h'.bl h.gb _ _ _ _ _ _ _, h.gs, h.gb, h.sb⟩
/-- a step of the program's -/
theorem PT.own (h : PT w S n m B kp kr W v wr) (hv : TV S n kp' w1) (hf : Frm (fun j => j = S) wr w1) : PT w S n m B kp' kr W v w1 :=
  ⟨hv, h.ti, h.rt.frm hf (fun j hj => hj.1), h.lb.frm hf (Ne.symm h.sb), h.bl.trans (hf.below h.bl.size (fun j hj e => by have := h.gs; omega)), h.gs, h.gb, h.sb⟩
/-- a number of the document's -/
theorem PT.at_ (h : PT w S n m B kp kr W v wr) (hm : n * n * n = m) {a b c i : Nat} (ha : a < n) (hb : b < n) (hc : c < n) (hi : (a * n + b) * n + c = i) : ∃ bk ok, v.pk = some ⟨bk, ok, none⟩ ∧ bk < wr.heap.size ∧ wr.cell? ⟨bk, ok + i, none⟩ = some (.int .i64 (kr a b c : Nat)) := by
  obtain ⟨g, h1, h2⟩ := h.rt.kn
  have him : i < m := by rw [← hi, ← hm]; exact M.place_lt ha hb hc
  obtain ⟨b', off, e1, e2, _, e4⟩ := h1.at_ (by omega)
  refine ⟨b', off, e1, e2, ?_⟩
  rw [e4 i him]
  simp only [nF]
  rw [← hi, h2 a b c ha hb hc]
end
theorem M.TI.wrW {n : Nat} {k : M.Kt} {W : Nat → Nat} (h : M.TI n k W) (z : Int) : M.TI n (M.wrT n k z).1 (M.wrW n k W z) := by
  unfold M.wrW M.wrT
  by_cases h1 : ¬ (0 ≤ z ∧ z < n)
  · rw [if_pos h1]; exact h
  · rw [if_neg h1]
    by_cases h2 : 60 ≤ k z.toNat z.toNat z.toNat
    · rw [if_pos h2]; exact h
    · rw [if_neg h2]; exact h.wr (by omega) h2
theorem M.TI.teT' {n : Nat} {k : M.Kt} {W : Nat → Nat} (h : M.TI n k W) (f t : Int) : M.TI n (M.teT n k f t).1 W := by
  unfold M.teT
  split
  · exact h
  split
  · exact h
  · exact h.te (by omega) (by omega)
set_option maxRecDepth 100000 in
set_option maxHeartbeats 20000000 in
theorem tp_walk (z : Int) (ss : List (List Int)) (q : Option Addr) (len cap : Nat) (w : World) (hty : Ety w) (_ : (Lit.int .i64 z).wf = true) (hl : ss.length = len) (_ : len ≤ maxLen) (hm : HasSS ss q w) :
    Calls Tryd.prog 3 #[.int .i64 z, .slice q len cap] w fun e w' => e = .returned (.bool true) ∧ Below w.heap.size w w' := by
  have HM : Hid (HasSS ss q w) := hm
  clear hm
  go_enter Tryd.func3, Tryd.ntmps3
  go_wp2_with fail
  by_cases hz : 1 ≤ z ∧ z ≤ 5
  case neg =>
    refine (tnew_err z w hz).mono ?_
    rintro e w2 ⟨rfl, hB2⟩
    have F : Hid (Below w.heap.size w w2) := hB2
    have he := err_ok 1 w2 (hty.later hB2)
    rw [terr_ne (by decide)] at he
    clear hB2
    by_cases h1 : z < 1
    · go_wp2_with fail
      refine he.mono ?_
      rintro e w3 ⟨rfl, hB3⟩
      have F3 : Hid (Below w.heap.size w w3) := bel_on F.out hB3
      clear hB3 F
      go_wp2_with fail
      go_ret
      exact ⟨rfl, F3.out⟩
    · have h2 : 5 < z := by omega
      have h3 : 1 ≤ z := by omega
      go_wp2_with fail
      refine he.mono ?_
      rintro e w3 ⟨rfl, hB3⟩
      have F3 : Hid (Below w.heap.size w w3) := bel_on F.out hB3
      clear hB3 F
      go_wp2_with fail
      go_ret
      exact ⟨rfl, F3.out⟩
  obtain ⟨n, rfl⟩ : ∃ n : Nat, z = n := ⟨z.toNat, by omega⟩
  have h1 : 1 ≤ n := by omega
  have h5 : n ≤ 5 := by omega
  have h1i : (1 : Int) ≤ (n : Int) := by omega
  have h5i : (n : Int) ≤ 5 := by omega
  obtain ⟨m, hmm⟩ : ∃ m, n * n * n = m := ⟨_, rfl⟩
  have HN : Hid (n * n * n = m) := hmm
  have hm125 : m ≤ 125 := by rw [← hmm]; exact Nat.mul_le_mul (Nat.mul_le_mul h5 h5) h5
  clear hmm hz
  refine (tnew_ok n w h1 h5).mono ?_
  rintro e w2 ⟨S, rfl, hS, hV2, hB2⟩
  have HV : Hid (TV S n M.k0 w2 ∧ Below w.heap.size w w2 ∧ S = w.heap.size) := ⟨hV2, hB2, hS⟩
  clear hV2 hB2 hS
  go_wp2_with fail
  refine (rnewT_ok n m w2 h5 HN.out).mono ?_
  rintro e w3 ⟨v, rfl, hR3, hB3⟩
  obtain ⟨pk, ck, pd, cd⟩ := v
  have P3 : Hid (PT w S n m w3.heap.size M.k0 M.k0 (fun _ => 0) ⟨pk, ck, pd, cd⟩ (w3.alloc (.cells #[.int .i64 (n : Nat), .slice pk m ck, .slice pd n cd] 31))) := by
    obtain ⟨k1, k2, k3⟩ := HV.out
    have s1 := World.rowIs.lt k1
    have s2 := hB3.size
    exact ⟨(k1.below hB3).below (bel_al (Below.refl _ _) _), M.TI.zero n, (hR3.mono (fun j hj hg => ⟨by omega, by omega⟩)).later (bel_al (Below.refl _ _) _), lt_alloc w3 n m n ⟨pk, ck, pd, cd⟩, bel_al (bel_on k2 hB3) _, by omega, by have := k2.size; omega, by omega⟩
  obtain ⟨B, hBB⟩ : ∃ B, w3.heap.size = B := ⟨_, rfl⟩
  rw [hBB] at P3
  clear HV hR3 hB3
  go_wp2_with fail
  clear hBB
  have HY : Hid (Ety w) := hty
  clear hty
  go_loopw [8, 9, 10, 11, 12, 13, 14, 15, 16, 17] (fun u _ _ _ _ _ _ _ _ _ wr => ∃ (i : Nat) (k : M.Kt) (W : Nat → Nat) (v : TT), u = .int .i64 (i : Nat) ∧ i ≤ len ∧ i ≤ 80 ∧ Hid (PT w S n m B k k W v wr)) (fun u _ _ _ _ _ _ _ _ _ _ => 80 - (intOf u).toNat)
  case atStart => exact ⟨0, _, _, _, rfl, Nat.zero_le _, Nat.zero_le _, P3⟩
  case round =>
    clear P3
    obtain ⟨i, k, W, v, rfl, hi, hi2, HP⟩ := hrel
    by_cases hlt : i < len ∧ i < 80
    case neg =>
      have o1 := tknows_out (-1) 0 0 wr HP.out.tv (fun h => by have := h.1.1; omega)
      have o2 := tknows_out 0 (n : Int) 0 wr HP.out.tv (fun h => by have := h.2.1.2; omega)
      have o3 := tknows_out 0 0 (n : Int) wr HP.out.tv (fun h => by have := h.2.2.2; omega)
      have o4 := tstable_out (n : Int) 0 wr HP.out.tv (fun h => by have := h.1.2; omega)
      have o5 := tstable_out 0 (-1) wr HP.out.tv (fun h => by have := h.2.1; omega)
      by_cases hlt2 : i < len
      · have hii : (i : Int) < len := by omega
        have hi80 : (80 : Int) ≤ (i : Int) := by omega
        go_wp2_with fail
        refine o1.mono ?_
        rintro e w' ⟨rfl, rfl⟩
        go_wp2_with fail
        refine o2.mono ?_
        rintro e w' ⟨rfl, rfl⟩
        go_wp2_with fail
        refine o3.mono ?_
        rintro e w' ⟨rfl, rfl⟩
        go_wp2_with fail
        refine o4.mono ?_
        rintro e w' ⟨rfl, rfl⟩
        go_wp2_with fail
        refine o5.mono ?_
        rintro e w' ⟨rfl, rfl⟩
        go_wp2_with fail
        go_ret
        exact ⟨rfl, HP.out.bl⟩
      · obtain rfl : len = i := by omega
        go_wp2_with fail
        refine o1.mono ?_
        rintro e w' ⟨rfl, rfl⟩
        go_wp2_with fail
        refine o2.mono ?_
        rintro e w' ⟨rfl, rfl⟩
        go_wp2_with fail
        refine o3.mono ?_
        rintro e w' ⟨rfl, rfl⟩
        go_wp2_with fail
        refine o4.mono ?_
        rintro e w' ⟨rfl, rfl⟩
        go_wp2_with fail
        refine o5.mono ?_
        rintro e w' ⟨rfl, rfl⟩
        go_wp2_with fail
        go_ret
        exact ⟨rfl, HP.out.bl⟩
    obtain ⟨hlt, hlt2⟩ := hlt
    have hii : (i : Int) < len := by omega
    have hi80 : (i : Int) < 80 := by omega
    obtain ⟨b, off, a, c, rfl, hb, hcell, hI, hmx⟩ := (HM.out.later HP.out.bl) i (by omega)
    obtain ⟨l, hll⟩ : ∃ l, ssAt ss i = l := ⟨_, rfl⟩
    rw [hll] at hcell hI hmx
    clear hll
    by_cases h2 : 2 ≤ l.length
    case neg =>
      obtain ⟨L, hL⟩ : ∃ L, l.length = L := ⟨_, rfl⟩
      rw [hL] at hcell h2 hmx
      have h2i : (L : Int) < 2 := by omega
      clear h2 hL hI
      go_wp2_with fail
      go_roundw
      case rel => exact ⟨i + 1, _, _, _, by go_num, by omega, by omega, HP⟩
      case measure => simp [intOf]; omega
    obtain ⟨b2, o2, rfl, hb2, hc0⟩ := hI 0 (by omega)
    obtain ⟨b3, o3, e3, _, hc1⟩ := hI 1 (by omega)
    cases e3
    obtain ⟨x, hx⟩ : ∃ x, l[0]?.getD 0 = x := ⟨_, rfl⟩
    obtain ⟨y, hy⟩ : ∃ y, l[1]?.getD 0 = y := ⟨_, rfl⟩
    rw [hx, Nat.add_zero] at hc0
    rw [hy] at hc1
    obtain ⟨L, hL⟩ : ∃ L, l.length = L := ⟨_, rfl⟩
    rw [hL] at hcell h2 hmx
    have h2i : (2 : Int) ≤ (L : Int) := by omega
    have h1i' : (1 : Int) < (L : Int) := by omega
    have h0i : (0 : Int) < (L : Int) := by omega
    have h1n : 1 < L := by omega
    have h0n : 0 < L := by omega
    unfold maxLen at hmx
    clear hx hy hL hI
    obtain ⟨pk, ck, pd, cd⟩ := v
    have l0 := HP.out.lb.c0
    have l1 := HP.out.lb.c1
    have l2 := HP.out.lb.c2
    simp only at l1 l2
    go_upto_if 64 with fail
    go_cut [11, 12] from 35 to 144 (fun u11 u12 w' => ∃ (c : Nat) (k : M.Kt) (W : Nat → Nat) (v : TT), u11 = .int .i64 (c : Nat) ∧ u12 = terr c ∧ Hid (PT w S n m B k k W v w'))
    case first =>
      by_cases h9 : y = 9
      · subst h9
        have hw := rwrite_ok ⟨pk, ck, pd, cd⟩ x wr h5 HN.out HP.out.rt (HP.out.fresh (Below.refl _ _)) (fun p hp => (HP.out.ti.own p hp).symm)
        go_wp2_with fail
        refine hw.mono ?_
        rintro e w5 ⟨⟨pk2, ck2, pd2, cd2⟩, rfl, hR5, hB5⟩
        have H6 : Hid (PT w S n m B k (M.wrT n k x).1 (M.wrW n k W x) ⟨pk2, ck2, pd2, cd2⟩ (cpyT w5 B n m n pk2 ck2 pd2 cd2)) := HP.out.ref hB5 (HP.out.ti.wrW x) hR5
        have l0' := (HP.out.later hB5).lb.c0
        have l1' := (HP.out.later hB5).lb.c1
        have l2' := (HP.out.later hB5).lb.c2
        have f0 := (HP.out.later hB5).lb.fz 0
        have f1 := (HP.out.later hB5).lb.fz 1
        have f2 := (HP.out.later hB5).lb.fz 2
        simp only at l1' l2'
        have ho : Calls Tryd.prog 8 #[.pointer (some ⟨S, 0, none⟩), .int .i64 x] (cpyT w5 B n m n pk2 ck2 pd2 cd2) fun e w' => e = .returned (terr (M.wrT n k x).2) ∧ Hid (PT w S n m B (M.wrT n k x).1 (M.wrT n k x).1 (M.wrW n k W x) ⟨pk2, ck2, pd2, cd2⟩ w') := by
          refine (twrite_ok x _ H6.out.tv h5).mono ?_
          rintro e w' ⟨rfl, hV, hF⟩
          exact ⟨rfl, H6.out.own hV hF⟩
        obtain ⟨cd', hcd⟩ : ∃ c', (M.wrT n k x).2 = c' := ⟨_, rfl⟩
        rw [hcd] at ho ⊢
        clear hw hR5 hB5 H6 HP l0 l1 l2 hcell hc0 hc1 hcd
        go_wp2_with fail
        refine ho.mono ?_
        rintro e w7 ⟨rfl, H7⟩
        clear ho l0' l1' l2' f0 f1 f2
        go_wp2_with fail
        go_meet
        case rel => exact ⟨cd', _, _, _, rfl, rfl, H7⟩
      · have h9' : (y == 9) = false := by simp [h9]
        have H9 : Hid (y ≠ 9) := h9
        clear h9
        have hw := rtell_ok ⟨pk, ck, pd, cd⟩ x y wr h5 HN.out HP.out.rt (HP.out.fresh (Below.refl _ _))
        go_wp2_with fail
        refine hw.mono ?_
        rintro e w5 ⟨⟨pk2, ck2, pd2, cd2⟩, rfl, hR5, hB5⟩
        have H6 : Hid (PT w S n m B k (M.teT n k x y).1 W ⟨pk2, ck2, pd2, cd2⟩ (cpyT w5 B n m n pk2 ck2 pd2 cd2)) := HP.out.ref hB5 (HP.out.ti.teT' x y) hR5
        have l0' := (HP.out.later hB5).lb.c0
        have l1' := (HP.out.later hB5).lb.c1
        have l2' := (HP.out.later hB5).lb.c2
        have f0 := (HP.out.later hB5).lb.fz 0
        have f1 := (HP.out.later hB5).lb.fz 1
        have f2 := (HP.out.later hB5).lb.fz 2
        simp only at l1' l2'
        have ho : Calls Tryd.prog 10 #[.pointer (some ⟨S, 0, none⟩), .int .i64 x, .int .i64 y] (cpyT w5 B n m n pk2 ck2 pd2 cd2) fun e w' => e = .returned (terr (M.teT n k x y).2) ∧ Hid (PT w S n m B (M.teT n k x y).1 (M.teT n k x y).1 W ⟨pk2, ck2, pd2, cd2⟩ w') := by
          refine (ttell_ok x y _ H6.out.tv h5).mono ?_
          rintro e w' ⟨rfl, hV, hF⟩
          exact ⟨rfl, H6.out.own hV hF⟩
        obtain ⟨cd', hcd⟩ : ∃ c', (M.teT n k x y).2 = c' := ⟨_, rfl⟩
        rw [hcd] at ho ⊢
        clear hw hR5 hB5 H6 HP l0 l1 l2 hcell hc0 hc1 hcd
        go_wp2_with fail
        refine ho.mono ?_
        rintro e w7 ⟨rfl, H7⟩
        clear ho l0' l1' l2' f0 f1 f2
        go_wp2_with fail
        go_meet
        case rel => exact ⟨cd', _, _, _, rfl, rfl, H7⟩
    case rest =>
      obtain ⟨c', k', W', v', rfl, rfl, HQ⟩ := hcut
      clear hcell hc0 hc1 h2i h1i' h0i h1n h0n h2 hb hb2 l0 l1 l2 HP
      have he := err_ok c' wc (HY.out.later HQ.out.bl)
      go_wp2_with fail
      refine he.mono ?_
      rintro e w4 ⟨rfl, hB4⟩
      obtain ⟨pk, ck, pd, cd⟩ := v'
      have HP4 : Hid (PT w S n m B k' k' W' ⟨pk, ck, pd, cd⟩ w4) := HQ.out.later hB4
      clear he HQ hB4
      go_wp2_with fail
      go_loopw [13, 14, 15, 16, 17] (fun u _ _ _ _ wr => ∃ (p : Nat), u = .int .i64 (p : Nat) ∧ p ≤ n ∧ Hid (PT w S n m B k' k' W' ⟨pk, ck, pd, cd⟩ wr)) (fun u _ _ _ _ _ => n - (intOf u).toNat)
      case atStart => exact ⟨0, rfl, Nat.zero_le _, HP4⟩
      case round =>
        clear HP4
        obtain ⟨p, rfl, hp, HP⟩ := hrel
        by_cases hltp : p < n
        case neg =>
          obtain rfl : n = p := by omega
          go_wp2_with fail
          go_roundw
          case rel => exact ⟨i + 1, _, _, _, by go_num, by omega, by omega, HP⟩
          case measure => simp [intOf]; omega
        have hpi : (p : Int) < n := by omega
        obtain ⟨wp, hwp⟩ : ∃ wp, wp = wr := ⟨_, rfl⟩
        subst hwp
        go_wp2_with fail
        go_loopw [14, 15, 16, 17] (fun u _ _ _ wr => ∃ (r : Nat), u = .int .i64 (r : Nat) ∧ r ≤ n ∧ Hid (PT w S n m B k' k' W' ⟨pk, ck, pd, cd⟩ wr)) (fun u _ _ _ _ => n - (intOf u).toNat)
        case atStart => exact ⟨0, rfl, Nat.zero_le _, HP⟩
        case round =>
          clear HP
          obtain ⟨r, rfl, hr, HP⟩ := hrel
          by_cases hltr : r < n
          case neg =>
            obtain rfl : n = r := by omega
            go_wp2_with fail
            go_roundw
            case rel => exact ⟨p + 1, by go_num, by omega, HP⟩
            case measure => simp [intOf]; omega
          have hri : (r : Int) < n := by omega
          obtain ⟨g1, hg1⟩ : ∃ g1, p * n = g1 := ⟨_, rfl⟩
          obtain ⟨g2, hg2⟩ : ∃ g2, g1 * n = g2 := ⟨_, rfl⟩
          obtain ⟨g3, hg3⟩ : ∃ g3, g2 + r = g3 := ⟨_, rfl⟩
          have i1 : (p : Int) * (n : Int) = (g1 : Int) := by rw [← hg1]; exact (Int.natCast_mul p n).symm
          have i2 : (g1 : Int) * (n : Int) = (g2 : Int) := by rw [← hg2]; exact (Int.natCast_mul g1 n).symm
          have i3 : (g2 : Int) + (r : Int) = (g3 : Int) := by omega
          have v1 : g1 ≤ 25 := by rw [← hg1]; exact Nat.mul_le_mul (show p ≤ 5 by omega) h5
          have v2 : g2 ≤ 125 := by rw [← hg2]; exact Nat.mul_le_mul v1 h5
          have hg : (p * n + 0) * n + r = g3 := by rw [Nat.add_zero, hg1, hg2, hg3]
          have hgm : g3 < m := by rw [← hg, ← HN.out]; exact M.place_lt hltp (by omega) hltr
          have hgi : (g3 : Int) < (m : Int) := by omega
          obtain ⟨bk, ok, e1, hbk, hck⟩ := HP.out.at_ HN.out hltp (show 0 < n by omega) hltr hg
          simp only at e1
          subst e1
          have l1 := HP.out.lb.c1
          simp only at l1
          have HL0 : Hid (M.lst (fun b => k' p b r) (k' p 0 r) 0 = k' p 0 r) := (rfl : M.lst (fun b => k' p b r) (k' p 0 r) 0 = k' p 0 r)
          obtain ⟨x0, hx0⟩ : ∃ x0, k' p 0 r = x0 := ⟨_, rfl⟩
          have HX0 : Hid (k' p 0 r = x0) := hx0
          rw [hx0] at hck HL0
          have HG1 : Hid (p * n = g1) := hg1
          clear hg1 hg2 hg3 hg hx0
          obtain ⟨wq, hwq⟩ : ∃ wq, wq = wr := ⟨_, rfl⟩
          subst hwq
          go_wp2_with fail
          clear l1 hck i2 i3
          go_loopw [15, 16, 17] (fun u15 u _ wr => ∃ (q x : Nat), u15 = .int .i64 (x : Nat) ∧ u = .int .i64 (q : Nat) ∧ q ≤ n ∧ Hid (M.lst (fun b => k' p b r) x0 q = x) ∧ Hid (PT w S n m B k' k' W' ⟨some ⟨bk, ok, none⟩, ck, pd, cd⟩ wr)) (fun _ u _ _ => n - (intOf u).toNat)
          case atStart => exact ⟨0, _, rfl, rfl, Nat.zero_le _, HL0, HP⟩
          case round =>
            clear HP HL0
            obtain ⟨q, x, rfl, rfl, hq, HL, HP⟩ := hrel
            by_cases hltq : q < n
            case neg =>
              obtain rfl : n = q := by omega
              have hst := tstable_ok p r wr HP.out.tv h5 hltp hltr
              rw [M.lst_in (fun b => k' p b r) hltp (show 0 < n by omega), HX0.out, HL.out] at hst
              go_wp2_with fail
              refine hst.mono ?_
              rintro e w9 ⟨rfl, hB9⟩
              have HP9 : Hid (PT w S n m B k' k' W' ⟨some ⟨bk, ok, none⟩, ck, pd, cd⟩ w9) := HP.out.later hB9
              clear hst HP hB9
              go_wp2_with fail
              go_roundw
              case rel => exact ⟨r + 1, by go_num, by omega, HP9⟩
              case measure => simp [intOf]; omega
            have hqi : (q : Int) < n := by omega
            obtain ⟨g4, hg4⟩ : ∃ g4, g1 + q = g4 := ⟨_, rfl⟩
            obtain ⟨g5, hg5⟩ : ∃ g5, g4 * n = g5 := ⟨_, rfl⟩
            obtain ⟨g6, hg6⟩ : ∃ g6, g5 + r = g6 := ⟨_, rfl⟩
            have i4 : (g1 : Int) + (q : Int) = (g4 : Int) := by omega
            have v4 : g4 ≤ 30 := by omega
            have i5 : (g4 : Int) * (n : Int) = (g5 : Int) := by rw [← hg5]; exact (Int.natCast_mul g4 n).symm
            have v5 : g5 ≤ 150 := by rw [← hg5]; exact Nat.mul_le_mul v4 h5
            have i6 : (g5 : Int) + (r : Int) = (g6 : Int) := by omega
            have hg : (p * n + q) * n + r = g6 := by rw [HG1.out, hg4, hg5, hg6]
            have hgm6 : g6 < m := by rw [← hg, ← HN.out]; exact M.place_lt hltp hltq hltr
            have hgi6 : (g6 : Int) < (m : Int) := by omega
            obtain ⟨b8, o8, e8, hb8, hc8⟩ := HP.out.at_ HN.out hltp hltq hltr hg
            simp only at e8
            cases e8
            have l1 := HP.out.lb.c1
            simp only at l1
            have hkn := tknows_ok p q r wr HP.out.tv h5 hltp hltq hltr
            have HL2 : Hid (M.lst (fun b => k' p b r) x0 (q + 1) = Nat.min x (k' p q r)) := by rw [← HL.out]; rfl
            obtain ⟨y9, hy9⟩ : ∃ y9, k' p q r = y9 := ⟨_, rfl⟩
            rw [hy9] at hkn hc8 HL2
            clear hg4 hg5 hg6 hg hy9 HL
            go_wp2_with fail
            refine hkn.mono ?_
            rintro e w' ⟨rfl, rfl⟩
            clear hkn
            by_cases hlt9 : y9 < x
            · have hli : (y9 : Int) < (x : Int) := by omega
              have HL3 : Hid (M.lst (fun b => k' p b r) x0 (q + 1) = y9) := by rw [HL2.out]; exact Nat.min_eq_right (by omega)
              clear HL2
              go_wp2_with fail
              go_roundw
              case rel => exact ⟨q + 1, _, rfl, by go_num, by omega, HL3, HP⟩
              case measure => simp [intOf]; omega
            · have hli : (x : Int) ≤ (y9 : Int) := by omega
              have hln : x ≤ y9 := by omega
              have HL3 : Hid (M.lst (fun b => k' p b r) x0 (q + 1) = x) := by rw [HL2.out]; exact Nat.min_eq_left (by omega)
              clear HL2 hlt9
              go_wp2_with fail
              go_roundw
              case rel => exact ⟨q + 1, _, rfl, by go_num, by omega, HL3, HP⟩
              case measure => simp [intOf]; omega
end Go.Proofs.YtelonimdpeenaaaDoor
