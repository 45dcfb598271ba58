/- WHAT ONE KNOWS OF ANOTHER ONE IS SO (law TableSound), the walk. -/
import Derived.Test.YtelonimdpeenaaaTal
import Derived.Laws.MakeOwn
import Derived.Deep.CutRange
namespace Go.Proofs.Ytelonimdpeenaaa
open Go.RowKit
theorem infoZ : (Try.prog.info? 3).map (fun i => (i.zero, i.size, i.bytes)) = some (some (.int .i64 0), 1, 8) := by kernel_rfl
namespace M
theorem place_lt {n a b c : Nat} (ha : a < n) (hb : b < n) (hc : c < n) : (a * n + b) * n + c < n * n * n := by
  have h1 : a * n + b < n * n := by
    have : a * n + n ≤ n * n := by rw [← Nat.succ_mul]; exact Nat.mul_le_mul_right _ ha
    omega
  have h2 : (a * n + b) * n + n ≤ n * n * n := by rw [← Nat.succ_mul]; exact Nat.mul_le_mul_right _ h1
  omega
theorem two_inj {n p q p' q' : Nat} (hq : q < n) (hq' : q' < n) (e : p * n + q = p' * n + q') : p = p' ∧ q = q' := by
  have h1 : (p * n + q) / n = p := by rw [Nat.mul_comm, Nat.mul_add_div (by omega), Nat.div_eq_of_lt hq]; rfl
  have h2 : (p' * n + q') / n = p' := by rw [Nat.mul_comm, Nat.mul_add_div (by omega), Nat.div_eq_of_lt hq']; rfl
  have h3 : p = p' := by rw [← h1, ← h2, e]
  subst h3
  exact ⟨rfl, by omega⟩
theorem place_inj {n a b c a' b' c' : Nat} (hb : b < n) (hc : c < n) (hb' : b' < n) (hc' : c' < n) (e : (a * n + b) * n + c = (a' * n + b') * n + c') : a = a' ∧ b = b' ∧ c = c' := by
  obtain ⟨h1, h2⟩ := two_inj hc hc' e
  obtain ⟨h3, h4⟩ := two_inj hb hb' h1
  exact ⟨h3, h4, h2⟩
/-- what was known at the last look is not more than now -/
def Was (n : Nat) (ws : Nat → Nat) (k : Kt) : Prop := ∀ a b c, a < n → b < n → c < n → ws ((a * n + b) * n + c) ≤ k a b c
theorem Was.mono {n : Nat} {ws : Nat → Nat} {k k' : Kt} (h : Was n ws k) (e : ∀ a b c, k a b c ≤ k' a b c) : Was n ws k' := fun a b c ha hb hc => Nat.le_trans (h a b c ha hb hc) (e a b c)
def upN (f : Nat → Nat) (i v : Nat) : Nat → Nat := fun j => if j = i then v else f j
theorem Was.set {n : Nat} {ws : Nat → Nat} {k : Kt} (h : Was n ws k) {a b c : Nat} (hb : b < n) (hc : c < n) : Was n (upN ws ((a * n + b) * n + c) (k a b c)) k := fun a' b' c' ha' hb' hc' => by
  unfold upN
  by_cases e : (a' * n + b') * n + c' = (a * n + b) * n + c
  · obtain ⟨rfl, rfl, rfl⟩ := place_inj hb' hc' hb hc e
    rw [if_pos rfl]; exact Nat.le_refl _
  · rw [if_neg e]; exact h a' b' c' ha' hb' hc'
theorem wrT_mono (n : Nat) (k : Kt) (z : Int) (a b c : Nat) : k a b c ≤ (wrT n k z).1 a b c := by
  unfold wrT
  split
  · exact Nat.le_refl _
  split
  · exact Nat.le_refl _
  · exact wrK_mono _ _ _ _ _
theorem teT_mono (n : Nat) (k : Kt) (f t : Int) (a b c : Nat) : k a b c ≤ (teT n k f t).1 a b c := by
  unfold teT
  split
  · exact Nat.le_refl _
  split
  · exact Nat.le_refl _
  · exact tlJ_mono _ _ _ _ _ _ _
theorem TI.teT {n : Nat} {k : Kt} {W : Nat → Nat} (h : TI n k W) (f t : Int) : TI n (teT n k f t).1 W := by
  unfold M.teT
  split
  · exact h
  split
  · exact h
  · exact h.te (by omega) (by omega)
end M
/-- The table, how often each wrote, and what was known at the last look. -/
structure SI (w : World) (S Wb Wa n n3 : Nat) (k : M.Kt) (W ws : Nat → Nat) (wr : World) : Prop where
  tv : TV S n k wr
  ti : M.TI n k W
  wb : wr.rowIs Wb 3 n (fun i => .int .i64 (W i : Nat))
  wa : wr.rowIs Wa 3 n3 (fun i => .int .i64 (ws i : Nat))
  le : M.Was n ws k
  bl : Below w.heap.size w wr
  gs : w.heap.size ≤ S
  gb : w.heap.size ≤ Wb
  ga : w.heap.size ≤ Wa
  sb : S ≠ Wb
  sa : S ≠ Wa
  ba : Wb ≠ Wa
section
variable {w wr w' : World} {S Wb Wa n n3 : Nat} {k k' : M.Kt} {W ws : Nat → Nat}
theorem SI.later (h : SI w S Wb Wa n n3 k W ws wr) (hb : Below wr.heap.size wr w') : SI w S Wb Wa n n3 k W ws w' :=
  ⟨h.tv.below hb, h.ti, h.wb.of_block (hb.block _ h.wb.lt), h.wa.of_block (hb.block _ h.wa.lt), h.le, bel_on h.bl hb, h.gs, h.gb, h.ga, h.sb, h.sa, h.ba⟩
theorem SI.frm (h : SI w S Wb Wa n n3 k W ws wr) (hv : TV S n k' w') (ht : M.TI n k' W) (hm : ∀ a b c, k a b c ≤ k' a b c) (hf : Frm (fun j => j = S) wr w') : SI w S Wb Wa n n3 k' W ws w' :=
  ⟨hv, ht, h.wb.of_block (hf.block _ h.wb.lt (Ne.symm h.sb)), h.wa.of_block (hf.block _ h.wa.lt (Ne.symm h.sa)), h.le.mono hm, h.bl.trans (hf.below h.bl.size (fun j hj e => by have := h.gs; omega)), h.gs, h.gb, h.ga, h.sb, h.sa, h.ba⟩
theorem SI.look (h : SI w S Wb Wa n n3 k W ws wr) {a b c i x : Nat} (hb : b < n) (hc : c < n) (hi : (a * n + b) * n + c = i) (hx : k a b c = x) : SI w S Wb Wa n n3 k W (M.upN ws i x) (wr.setCell ⟨Wa, i, none⟩ (.int .i64 (x : Nat))) := by
  subst hi hx
  refine ⟨World.rowIs.setOther h.tv (a := ⟨Wa, _, none⟩) h.sa _, h.ti, h.wb.setOther (a := ⟨Wa, _, none⟩) h.ba _, (h.wa.set _ _).congr (fun j _ => ?_), h.le.set hb hc, h.bl.setCell (p := ⟨Wa, _, none⟩) h.ga _, h.gs, h.gb, h.ga, h.sb, h.sa, h.ba⟩
  unfold M.upN
  split <;> rfl
end
/-- A write that was done, ahead of its being counted, and behind it. -/
theorem SI.wrote {w wr w' : World} {S Wb Wa n n3 : Nat} {k : M.Kt} {W ws : Nat → Nat} (h : SI w S Wb Wa n n3 k W ws wr) {p x x1 : Nat} (hp : p < n) (hc : ¬ 60 ≤ k p p p) (hv : TV S n (M.wrK k p) w') (hf : Frm (fun j => j = S) wr w') (hx : W p = x) (hx1 : x + 1 = x1) :
    w'.cell? ⟨Wb, p, none⟩ = some (.int .i64 (x : Nat)) ∧ w'.frozen? ⟨Wb, p, none⟩ = false ∧ SI w S Wb Wa n n3 (M.wrK k p) (M.more1 W p) ws (w'.setCell ⟨Wb, p, none⟩ (.int .i64 (x1 : Nat))) := by
  subst hx hx1
  have hwb := h.wb.of_block (w' := w') (hf.block _ h.wb.lt (Ne.symm h.sb))
  have hwa := h.wa.of_block (w' := w') (hf.block _ h.wa.lt (Ne.symm h.sa))
  have hB := h.bl.trans (hf.below h.bl.size (fun j hj e => by have := h.gs; omega))
  refine ⟨hwb.cell hp, hwb.frozen p, World.rowIs.setOther hv (a := ⟨Wb, p, none⟩) h.sb _, h.ti.wr hp hc, (hwb.set p _).congr (fun j _ => ?_), hwa.setOther (a := ⟨Wb, p, none⟩) (Ne.symm h.ba) _, h.le.mono (fun a b c => M.wrK_mono k p a b c), hB.setCell (p := ⟨Wb, p, none⟩) h.gb _, h.gs, h.gb, h.ga, h.sb, h.sa, h.ba⟩
  unfold M.more1
  by_cases e : j = p
  · subst e; rw [if_pos rfl, if_pos rfl]
  · rw [if_neg e, if_neg e]
set_option maxRecDepth 100000 in
set_option maxHeartbeats 8000000 in
theorem so_walk (z : Int) (ss : List (List Int)) (q : Option Addr) (m cap : Nat) (w : World) (_ : (Lit.int .i64 z).wf = true) (hl : ss.length = m) (_ : m ≤ maxLen) (hm : HasSS ss q w) :
    Calls Try.prog 3 #[.int .i64 z, .slice q m cap] w fun e w' => e = .returned (.bool true) ∧ Below w.heap.size w w' := by
  have HM : Hid (HasSS ss q w) := hm
  clear hm
  go_enter Try.func3, Try.ntmps3
  go_wp2_with fail
  refine (tableFact_ok w).mono ?_
  rintro e w1 ⟨rfl, hB1⟩
  go_wp2_with fail
  by_cases hz : 1 ≤ z ∧ z ≤ 5
  case neg =>
    refine (tnew_err z w1 hz).mono ?_
    rintro e w2 ⟨rfl, hB2⟩
    have F : Hid (Below w.heap.size w w2) := bel_on hB1 hB2
    clear hB1 hB2
    by_cases h1 : z < 1
    · go_wp2_with fail
      go_ret
      exact ⟨rfl, F.out⟩
    · have h2 : 5 < z := by omega
      have h3 : 1 ≤ z := by omega
      go_wp2_with fail
      go_ret
      exact ⟨rfl, F.out⟩
  obtain ⟨n, rfl⟩ : ∃ n : Nat, z = n := ⟨z.toNat, by omega⟩
  have h1 : 1 ≤ n := by omega
  have h5 : n ≤ 5 := by omega
  obtain ⟨n2, hn2⟩ : ∃ n2, n * n = n2 := ⟨_, rfl⟩
  obtain ⟨n3, hn3⟩ : ∃ n3, n2 * n = n3 := ⟨_, rfl⟩
  have m2 : (n : Int) * (n : Int) = (n2 : Int) := by rw [← hn2]; exact (Int.natCast_mul n n).symm
  have m3 : (n2 : Int) * (n : Int) = (n3 : Int) := by rw [← hn3]; exact (Int.natCast_mul n2 n).symm
  have b2 : n2 ≤ 25 := by rw [← hn2]; exact Nat.mul_le_mul h5 h5
  have b3 : n3 ≤ 125 := by rw [← hn3]; exact Nat.mul_le_mul b2 h5
  have HN3 : Hid (n * n * n = n3) := by rw [hn2, hn3]; rfl
  have hmk1 := run_make_row' (P := Try.prog) 29 3 (.int .i64 0) 8 Try.underlying29 infoZ rfl .i64 .i64 n (by omega) (by omega)
  have hmk3 := run_make_row' (P := Try.prog) 29 3 (.int .i64 0) 8 Try.underlying29 infoZ rfl .i64 .i64 n3 (by omega) (by omega)
  refine (tnew_ok n w1 h1 h5).mono ?_
  rintro e w2 ⟨S, rfl, hS, hV2, hB2⟩
  have C2 : Below w.heap.size w w2 := bel_on hB1 hB2
  have lS := World.rowIs.lt hV2
  obtain ⟨w3, hw3⟩ : ∃ w3, w2.alloc (.cells (madeCells #[.int .i64 0] n) 3) = w3 := ⟨_, rfl⟩
  obtain ⟨w4, hw4⟩ : ∃ w4, w3.alloc (.cells (madeCells #[.int .i64 0] n3) 3) = w4 := ⟨_, rfl⟩
  have s3 : w3.heap.size = w2.heap.size + 1 := by rw [← hw3]; simp
  have B3 : Below w2.heap.size w2 w3 := by rw [← hw3]; exact bel_al (Below.refl _ _) _
  have B4 : Below w3.heap.size w3 w4 := by rw [← hw4]; exact bel_al (Below.refl _ _) _
  have R3 : w3.rowIs w2.heap.size 3 n (fun _ => .int .i64 0) := by rw [← hw3]; exact World.rowIs_made w2 _ n _
  have R4 : w4.rowIs w3.heap.size 3 n3 (fun _ => .int .i64 0) := by rw [← hw4]; exact World.rowIs_made w3 _ n3 _
  have HA : Hid (SI w S w2.heap.size w3.heap.size n n3 M.k0 (fun _ => 0) (fun _ => 0) w4) :=
    ⟨(hV2.below B3).below B4, M.TI.zero n, (R3.of_block (B4.block _ R3.lt)).congr (fun _ _ => rfl), R4.congr (fun _ _ => rfl), fun _ _ _ _ _ _ => Nat.zero_le _, bel_on (bel_on C2 B3) B4, by have := hB1.size; omega, C2.size, by have := C2.size; omega, by omega, by omega, by omega⟩
  obtain ⟨Wb, hWb⟩ : ∃ Wb, w2.heap.size = Wb := ⟨_, rfl⟩
  obtain ⟨Wa, hWa⟩ : ∃ Wa, w3.heap.size = Wa := ⟨_, rfl⟩
  have HN : Hid (n * n = n2 ∧ n2 * n = n3) := ⟨hn2, hn3⟩
  clear hz hV2 hB1 hB2 hS C2 B3 B4 R3 R4 lS s3 hn2 hn3
  go_wp2_with fail
  rw [hWb, hWa] at HA
  clear hWb hWa hw3 hw4 hmk1 hmk3 m2 m3
  go_loopw [10, 11, 12, 13, 14, 15, 16] (fun u _ _ _ _ _ _ wr => ∃ (i : Nat) (k : M.Kt) (W ws : Nat → Nat), u = .int .i64 (i : Nat) ∧ i ≤ m ∧ i ≤ 80 ∧ Hid (SI w S Wb Wa n n3 k W ws wr)) (fun u _ _ _ _ _ _ _ => 80 - (intOf u).toNat)
  case atStart => exact ⟨0, _, _, _, rfl, Nat.zero_le _, Nat.zero_le _, HA⟩
  case round =>
    clear HA
    obtain ⟨i, k, W, ws, rfl, hi, hi2, HA⟩ := hrel
    by_cases hlt : i < m ∧ i < 80
    case neg =>
      by_cases hlt2 : i < m
      · have hii : (i : Int) < m := by omega
        have hi80 : (80 : Int) ≤ (i : Int) := by omega
        go_wp2_with fail
        go_ret
        exact ⟨rfl, HA.out.bl⟩
      · obtain rfl : m = i := by omega
        go_wp2_with fail
        go_ret
        exact ⟨rfl, HA.out.bl⟩
    obtain ⟨hlt, hlt2⟩ := hlt
    have hii : (i : Int) < m := by omega
    have hi80 : (i : Int) < 80 := by omega
    obtain ⟨b, off, a, c, rfl, hb, hcell, hI, hmx⟩ := (HM.out.later HA.out.bl) i (by omega)
    obtain ⟨l, hll⟩ : ∃ l, ssAt ss i = l := ⟨_, rfl⟩
    rw [hll] at hcell hI hmx
    clear hll
    by_cases h2 : 2 ≤ l.length
    case neg =>
      obtain ⟨L, hL⟩ : ∃ L, l.length = L := ⟨_, rfl⟩
      rw [hL] at hcell h2 hmx
      have h2i : (L : Int) < 2 := by omega
      clear h2 hL hI
      go_wp2_with fail
      go_roundw
      case rel => exact ⟨i + 1, _, _, _, by go_num, by omega, by omega, HA⟩
      case measure => simp [intOf]; omega
    obtain ⟨b2, o2, rfl, hb2, hc0⟩ := hI 0 (by omega)
    obtain ⟨b3, o3, e3, _, hc1⟩ := hI 1 (by omega)
    cases e3
    obtain ⟨x, hx⟩ : ∃ x, l[0]?.getD 0 = x := ⟨_, rfl⟩
    obtain ⟨y, hy⟩ : ∃ y, l[1]?.getD 0 = y := ⟨_, rfl⟩
    rw [hx, Nat.add_zero] at hc0
    rw [hy] at hc1
    obtain ⟨L, hL⟩ : ∃ L, l.length = L := ⟨_, rfl⟩
    rw [hL] at hcell h2 hmx
    have h2i : (2 : Int) ≤ (L : Int) := by omega
    have h1i : (1 : Int) < (L : Int) := by omega
    have h0i : (0 : Int) < (L : Int) := by omega
    have h1n : 1 < L := by omega
    have h0n : 0 < L := by omega
    unfold maxLen at hmx
    clear hx hy hL hI
    go_upto_if 63 with fail
    go_cut [11] from 41 to 168 (fun _ w' => ∃ (k : M.Kt) (W : Nat → Nat), Hid (SI w S Wb Wa n n3 k W ws w'))
    case first =>
      by_cases h9 : y = 9
      · subst h9
        have hw := twrite_ok x wr HA.out.tv h5
        by_cases hx : 0 ≤ x ∧ x < n
        · obtain ⟨p, rfl⟩ : ∃ p : Nat, x = p := ⟨x.toNat, by omega⟩
          have hp : p < n := by omega
          by_cases hk : 60 ≤ k p p p
          · have e : M.wrT n k (p : Int) = (k, 4) := by unfold M.wrT; rw [if_neg (by omega), if_pos (by simpa using hk)]
            rw [e] at hw
            have HK : Hid (60 ≤ k p p p) := hk
            clear e hk hx
            go_wp2_with fail
            refine hw.mono ?_
            rintro e w5 ⟨rfl, hV5, hF5⟩
            have H5 : Hid (SI w S Wb Wa n n3 k W ws w5) := HA.out.frm hV5 HA.out.ti (fun _ _ _ => Nat.le_refl _) hF5
            clear hw hV5 hF5 HA hcell hc0 hc1
            rw [terr_ne (by decide)]
            go_wp2_with fail
            go_meet
            case rel => exact ⟨k, W, H5⟩
          · have e : M.wrT n k (p : Int) = (M.wrK k p, 0) := by unfold M.wrT; rw [if_neg (by omega), if_neg (by simpa using hk)]; simp
            rw [e] at hw
            have HK : Hid (¬ 60 ≤ k p p p) := hk
            obtain ⟨v, hv⟩ : ∃ v, W p = v := ⟨_, rfl⟩
            obtain ⟨v1, hv1⟩ : ∃ v1, v + 1 = v1 := ⟨_, rfl⟩
            have hv60 : v ≤ 60 := by rw [← hv]; exact HA.out.ti.cap p hp
            have hvi : (v : Int) + 1 = (v1 : Int) := by omega
            have hpi : (p : Int) < n := by omega
            have HW : Hid (∀ w5, TV S n (M.wrK k p) w5 → Frm (fun j => j = S) wr w5 → w5.cell? ⟨Wb, p, none⟩ = some (.int .i64 (v : Nat)) ∧ w5.frozen? ⟨Wb, p, none⟩ = false ∧ SI w S Wb Wa n n3 (M.wrK k p) (M.more1 W p) ws (w5.setCell ⟨Wb, p, none⟩ (.int .i64 (v1 : Nat)))) := fun w5 h1 h2 => HA.out.wrote hp hk h1 h2 hv hv1
            clear e hk hx hv hv1
            go_wp2_with fail
            refine hw.mono ?_
            rintro e w5 ⟨rfl, hV5, hF5⟩
            obtain ⟨d0, d1, d2⟩ := HW.out w5 hV5 hF5
            have H5 : Hid (SI w S Wb Wa n n3 (M.wrK k p) (M.more1 W p) ws (w5.setCell ⟨Wb, p, none⟩ (.int .i64 (v1 : Nat)))) := d2
            clear hw hV5 hF5 HA hcell hc0 hc1 HW d2
            rw [terr_zero]
            go_wp2_with fail
            go_meet
            case rel => exact ⟨_, _, H5⟩
        · have e : M.wrT n k x = (k, 1) := by unfold M.wrT; rw [if_pos hx]
          rw [e] at hw
          have HX : Hid (¬ (0 ≤ x ∧ x < n)) := hx
          clear e hx
          go_wp2_with fail
          refine hw.mono ?_
          rintro e w5 ⟨rfl, hV5, hF5⟩
          have H5 : Hid (SI w S Wb Wa n n3 k W ws w5) := HA.out.frm hV5 HA.out.ti (fun _ _ _ => Nat.le_refl _) hF5
          clear hw hV5 hF5 HA hcell hc0 hc1
          rw [terr_ne (by decide)]
          go_wp2_with fail
          go_meet
          case rel => exact ⟨k, W, H5⟩
      · have h9' : (y == 9) = false := by simp [h9]
        have H9 : Hid (y ≠ 9) := h9
        have ht : ∀ w4, Below wr.heap.size wr w4 → Calls Try.prog 8 #[.pointer (some ⟨S, 0, none⟩), .int .i64 x, .int .i64 y] w4 fun e w' => e = .returned (terr (M.teT n k x y).2) ∧ Hid (SI w S Wb Wa n n3 (M.teT n k x y).1 W ws w') := fun w4 h4 => by
          refine (ttell_ok x y w4 (HA.out.tv.below h4) h5).mono ?_
          rintro e w' ⟨rfl, hV, hF⟩
          exact ⟨rfl, (HA.out.later h4).frm hV (HA.out.ti.teT x y) (M.teT_mono n k x y) hF⟩
        clear h9
        go_wp2_with fail
        go_region_with (go_at_call 8; refine (ht _ (below_drewN _ _)).mono ?_; rintro e w6 ⟨rfl, H6⟩)
        all_goals (go_wp2_with fail; go_meet)
        all_goals exact ⟨_, _, H6⟩
    case rest =>
      obtain ⟨k, W, HA⟩ := hcut
      clear hcell hc0 hc1 h2i h1i h0i h1n h0n h2 hb hb2
      obtain ⟨wo, hwo⟩ : ∃ wo, wo = wc := ⟨_, rfl⟩
      subst hwo
      go_wp2_with fail
      go_loopw [12, 13, 14, 15, 16] (fun u _ _ _ _ wr => ∃ (p : Nat) (ws : Nat → Nat), u = .int .i64 (p : Nat) ∧ p ≤ n ∧ Hid (SI w S Wb Wa n n3 k W ws wr)) (fun u _ _ _ _ _ => n - (intOf u).toNat)
      case atStart => exact ⟨0, _, rfl, Nat.zero_le _, HA⟩
      case round =>
        clear HA
        obtain ⟨p, ws, rfl, hp, HA⟩ := hrel
        by_cases hltp : p < n
        case neg =>
          obtain rfl : n = p := by omega
          go_wp2_with fail
          go_roundw
          case rel => exact ⟨i + 1, _, _, _, by go_num, by omega, by omega, HA⟩
          case measure => simp [intOf]; omega
        have hpi : (p : Int) < n := by omega
        obtain ⟨wp, hwp⟩ : ∃ wp, wp = wr := ⟨_, rfl⟩
        subst hwp
        go_wp2_with fail
        go_loopw [13, 14, 15, 16] (fun u _ _ _ wr => ∃ (q : Nat) (ws : Nat → Nat), u = .int .i64 (q : Nat) ∧ q ≤ n ∧ Hid (SI w S Wb Wa n n3 k W ws wr)) (fun u _ _ _ _ => n - (intOf u).toNat)
        case atStart => exact ⟨0, _, rfl, Nat.zero_le _, HA⟩
        case round =>
          clear HA
          obtain ⟨q, ws, rfl, hq, HA⟩ := hrel
          by_cases hltq : q < n
          case neg =>
            obtain rfl : n = q := by omega
            go_wp2_with fail
            go_roundw
            case rel => exact ⟨p + 1, _, by go_num, by omega, HA⟩
            case measure => simp [intOf]; omega
          have hqi : (q : Int) < n := by omega
          obtain ⟨wq, hwq⟩ : ∃ wq, wq = wr := ⟨_, rfl⟩
          subst hwq
          go_wp2_with fail
          go_loopw [14, 15, 16] (fun u _ _ wr => ∃ (r : Nat) (ws : Nat → Nat), u = .int .i64 (r : Nat) ∧ r ≤ n ∧ Hid (SI w S Wb Wa n n3 k W ws wr)) (fun u _ _ _ => n - (intOf u).toNat)
          case atStart => exact ⟨0, _, rfl, Nat.zero_le _, HA⟩
          case round =>
            clear HA
            obtain ⟨r, ws, rfl, hr, HA⟩ := hrel
            by_cases hltr : r < n
            case neg =>
              obtain rfl : n = r := by omega
              go_wp2_with fail
              go_roundw
              case rel => exact ⟨q + 1, _, by go_num, by omega, HA⟩
              case measure => simp [intOf]; omega
            have hri : (r : Int) < n := by omega
            have k1 := tknows_ok p q r wr HA.out.tv h5 hltp hltq hltr
            have k2 := tknows_ok q q r wr HA.out.tv h5 hltq hltq hltr
            have k3 := tstable_ok p r wr HA.out.tv h5 hltp hltr
            have HK4 : Hid (∀ w', Below wr.heap.size wr w' → Calls Try.prog 9 #[.pointer (some ⟨S, 0, none⟩), .int .i64 (q : Nat), .int .i64 (q : Nat), .int .i64 (r : Nat)] w' fun e w'' => e = .returned (.int .i64 (k q q r : Nat)) ∧ w' = w'') := fun w' hB => tknows_ok q q r w' (HA.out.tv.below hB) h5 hltq hltq hltr
            have e1 := HA.out.ti.snd p q r hltp hltq hltr
            have e2 := HA.out.ti.le p q r hltp hltq hltr
            have e3 := HA.out.le p q r hltp hltq hltr
            have e4 := M.lst_le (fun b => k p b r) (k p p r) hltq
            have cb := HA.out.wb.cell hltr
            have hat : (p * n + q) * n + r < n3 := by rw [← HN3.out]; exact M.place_lt hltp hltq hltr
            have ca := HA.out.wa.cell hat
            have fa := HA.out.wa.frozen ((p * n + q) * n + r)
            obtain ⟨g1, hg1⟩ : ∃ g1, p * n = g1 := ⟨_, rfl⟩
            obtain ⟨g2, hg2⟩ : ∃ g2, g1 + q = g2 := ⟨_, rfl⟩
            obtain ⟨g3, hg3⟩ : ∃ g3, g2 * n = g3 := ⟨_, rfl⟩
            obtain ⟨g4, hg4⟩ : ∃ g4, g3 + r = g4 := ⟨_, rfl⟩
            have i1 : (p : Int) * (n : Int) = (g1 : Int) := by rw [← hg1]; exact (Int.natCast_mul p n).symm
            have i2 : (g1 : Int) + (q : Int) = (g2 : Int) := by omega
            have i3 : (g2 : Int) * (n : Int) = (g3 : Int) := by rw [← hg3]; exact (Int.natCast_mul g2 n).symm
            have i4 : (g3 : Int) + (r : Int) = (g4 : Int) := by omega
            have v1 : g1 ≤ 25 := by rw [← hg1]; exact Nat.mul_le_mul (show p ≤ 5 by omega) h5
            have v2 : g2 ≤ 30 := by omega
            have v3 : g3 ≤ 150 := by rw [← hg3]; exact Nat.mul_le_mul v2 h5
            have hg : (p * n + q) * n + r = g4 := by rw [hg1, hg2, hg3, hg4]
            rw [hg] at e3 hat ca fa
            have hati : (g4 : Int) < (n3 : Int) := by omega
            have HF : Hid (∀ x w', k p q r = x → Below wr.heap.size wr w' → w'.cell? ⟨Wa, g4, none⟩ = wr.cell? ⟨Wa, g4, none⟩ ∧ w'.frozen? ⟨Wa, g4, none⟩ = false ∧ SI w S Wb Wa n n3 k W (M.upN ws g4 x) (w'.setCell ⟨Wa, g4, none⟩ (.int .i64 (x : Nat)))) := fun x w' hx hB => ⟨hB.cell (p := ⟨Wa, g4, none⟩) HA.out.wa.lt, (HA.out.later hB).wa.frozen _, (HA.out.later hB).look hltq hltr hg hx⟩
            obtain ⟨x, hx⟩ : ∃ x, k p q r = x := ⟨_, rfl⟩
            obtain ⟨y, hy⟩ : ∃ y, k q q r = y := ⟨_, rfl⟩
            obtain ⟨t, ht⟩ : ∃ t, M.lst (fun b => k p b r) (k p p r) n = t := ⟨_, rfl⟩
            obtain ⟨f, hf⟩ : ∃ f, W r = f := ⟨_, rfl⟩
            obtain ⟨g, hgg⟩ : ∃ g, ws g4 = g := ⟨_, rfl⟩
            have HF2 : Hid (∀ w', Below wr.heap.size wr w' → w'.cell? ⟨Wa, g4, none⟩ = some (.int .i64 (g : Nat)) ∧ w'.frozen? ⟨Wa, g4, none⟩ = false ∧ SI w S Wb Wa n n3 k W (M.upN ws g4 x) (w'.setCell ⟨Wa, g4, none⟩ (.int .i64 (x : Nat)))) := fun w' hB => by
              obtain ⟨d0, d1, d2⟩ := HF.out x w' hx hB
              exact ⟨by rw [d0, ca, hgg], d1, d2⟩
            rw [hx] at k1 e1 e2 e3
            rw [hy] at k2 HK4 e1
            rw [ht] at k3 e4
            rw [hf] at e2 cb
            rw [hgg] at e3 ca
            have e5 : t ≤ y := by
              have : k p q r ≤ k q q r := HA.out.ti.snd p q r hltp hltq hltr
              have e4' : t ≤ k p q r := e4
              omega
            clear e4 HF hx hy ht hf hgg hg hg1 hg2 hg3 hg4 HA
            have j1 : (x : Int) ≤ (y : Int) := by omega
            have j2 : (x : Int) ≤ (f : Int) := by omega
            have j3 : (g : Int) ≤ (x : Int) := by omega
            have j4 : (t : Int) ≤ (y : Int) := by omega
            go_wp2_with fail
            refine k1.mono ?_
            rintro e w' ⟨rfl, rfl⟩
            go_wp2_with fail
            refine k2.mono ?_
            rintro e w' ⟨rfl, rfl⟩
            go_wp2_with fail
            refine k3.mono ?_
            rintro e w5 ⟨rfl, hB5⟩
            have k4 := HK4.out w5 hB5
            go_wp2_with fail
            refine k4.mono ?_
            rintro e w6 ⟨rfl, rfl⟩
            obtain ⟨d0, d1, d2⟩ := HF2.out w5 hB5
            have H5 : Hid (SI w S Wb Wa n n3 k W (M.upN ws g4 x) (w5.setCell ⟨Wa, g4, none⟩ (.int .i64 (x : Nat)))) := d2
            clear k1 k2 k3 k4 HK4 HF2 d2 cb ca fa hB5
            go_wp2_with fail
            go_roundw
            case rel => exact ⟨r + 1, _, by go_num, by omega, H5⟩
            case measure => simp [intOf]; omega
end Go.Proofs.Ytelonimdpeenaaa
