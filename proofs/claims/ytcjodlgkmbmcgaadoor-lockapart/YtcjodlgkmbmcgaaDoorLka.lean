/- Who writes is alone (law LockApart), the walk. -/
import Derived.Test.YtcjodlgkmbmcgaaDoorLka0
import Derived.Test.YtcjodlgkmbmcgaaDoorSac
import Derived.BigQuiet
namespace Go.Proofs.YtcjodlgkmbmcgaaDoor
open Go.RowKit
set_option maxRecDepth 100000 in
set_option maxHeartbeats 20000000 in
theorem ka_walk (zs : List Dz) (p : Option Addr) (n cap : Nat) (w : World) (hty : Ety w) (hl : zs.length = n) (_ : n ≤ maxLen) (hc : HasD zs p w) :
    Calls Tryd.prog 4 #[.slice p n cap] w fun e w' => e = .returned (.bool true) ∧ Below w.heap.size w w' := by
  have hf := lockFact_ok w hty
  have HC : Hid (HasD zs p w) := hc
  obtain ⟨i0, hi0, hz0, hz1, hz2⟩ := info_parts infoZT
  obtain ⟨a0, ha0, hy0, hy1, hy2⟩ := infoAct_parts infoAct
  obtain ⟨N, hN⟩ : ∃ N, w.heap.size = N := ⟨_, rfl⟩
  rw [hN] at hf ⊢
  clear hc hty
  go_enter Tryd.func4, Tryd.ntmps4
  go_wp2_with fail
  refine hf.mono ?_
  rintro e w1 ⟨rfl, hB1⟩
  have H1 : Hid (Below N w w1) := hB1
  clear hf hB1
  go_wp2_with fail
  refine (lnew_ok (O := fun k => k = w1.heap.size) w1 rfl).mono ?_
  rintro e w2 ⟨S, hS, rfl, hT2, hB2⟩
  rw [← hS] at hT2
  have H2 : Hid (TV (fun k => k = S) S M.lk0 w2 ∧ Below N w w2 ∧ N ≤ w2.heap.size) := by
    have h1 := H1.out.trans (hB2.mono (by have := H1.out.size; omega))
    exact ⟨hT2, h1, by have := h1.size; omega⟩
  have HSN : Hid (N ≤ S) := by show N ≤ S; rw [hS, ← hN]; exact H1.out.size
  clear hT2 hB2 hS H1
  go_wp2_with fail
  go_loopw [5, 6] (fun v u wr => ∃ j : Nat, u = .int .i64 (j : Nat) ∧ j ≤ 20 ∧ Hid (wr.ownsRow N 3 1 v j (fcl (fun _ => .int .i64 (-1)) j) ∧ TV (fun k => k = S) S M.lk0 wr ∧ Below N w wr ∧ N ≤ wr.heap.size)) (fun _ u _ => 20 - (intOf u).toNat)
  case atStart => exact ⟨0, rfl, Nat.zero_le _, ⟨World.ownsRow_nil _ _ _ _, H2.out⟩⟩
  case round =>
    clear H2
    obtain ⟨j, rfl, hj, HJ⟩ := hrel
    by_cases hjl : j < 20
    · have hji : (j : Int) < 20 := by omega
      have hfs : fcl (fun _ => Value.int .i64 (-1)) (j + 1) = fcl (fun _ => .int .i64 (-1)) j ++ [.int .i64 (-1)] := by unfold fcl; rw [List.range_succ, List.map_append]; rfl
      obtain ⟨xs, hxs⟩ : ∃ xs, fcl (fun _ => Value.int .i64 (-1)) j = xs := ⟨_, rfl⟩
      have HFS : Hid (fcl (fun _ => Value.int .i64 (-1)) (j + 1) = xs ++ [.int .i64 (-1)]) := by show _ = _; rw [hfs, hxs]
      rw [hxs] at HJ
      have hnw := HJ.out.2.2.2
      clear hfs hxs
      go_wp2_with (at_builtin; refine wpList_append_own _ rfl _ _ 31 rfl N 3 i0 (.int .i64 0) 1 8 Tryd.underlying31 hi0 hz0 hz1 hz2 rfl (by decide) _ _ _ rfl (HJ.out.1.alloc _) ⟨wr.heap.size, 0, none⟩ 1 1 [.int .i64 (-1)] rfl rfl (World.news_of_block (cs := #[.int .i64 (-1)]) (t := 3) (fr := (0, 0)) (heap_alloc_new wr _)) (by simp [Value.oneCell']) (by unfold maxLen; omega) (by omega) (by simp; omega) ?_)
      intro v5 w5 hown5 hgrow5 _
      have H5 : Hid (w5.ownsRow N 3 1 v5 (j + 1) (fcl (fun _ => .int .i64 (-1)) (j + 1)) ∧ TV (fun k => k = S) S M.lk0 w5 ∧ Below N w w5 ∧ N ≤ w5.heap.size) := ⟨by rw [HFS.out]; exact hown5, l1_step HJ.out.2.1 HJ.out.1 HJ.out.2.2.1 HJ.out.2.2.2 hgrow5⟩
      clear hown5 hgrow5 HJ HFS
      go_wp2_with fail
      go_roundw
      case rel => exact ⟨j + 1, by go_num, by omega, H5⟩
      case measure => simp [intOf]; omega
    obtain rfl : j = 20 := by omega
    obtain ⟨vF, hvF⟩ : ∃ vF, u5 = vF := ⟨_, rfl⟩
    subst hvF
    have H6 : Hid (AQ N S (fun k => k = S) M.lk0 [] 0 (fun _ => -1) (fun _ => 0) u5 (.slice none 0 0) (.slice none 0 0) w wr) := by
      obtain ⟨k1, k2, k3, k4⟩ := HJ.out
      have hne : u5.ownBlock ≠ some S := by obtain ⟨u, h1, _⟩ := k2; exact rowIs_owns h1.blk k1 (by decide)
      have hlt := k2.lt
      exact ⟨k2, k1, World.ownsRow_nil _ _ _ _, World.ownsRow_nil _ _ _ _, fun g e x => hne (x ▸ e), fun g e => by simp [Value.ownBlock] at e, fun g e => by simp [Value.ownBlock] at e, fun g _ e => by simp [Value.ownBlock] at e, fun g _ e => by simp [Value.ownBlock] at e, fun g e => by simp [Value.ownBlock] at e, k3, k4, fun k hk x => by have := HSN.out; omega, fun k x => by omega⟩
    obtain ⟨gF, cF, hgF⟩ : ∃ g c, u5 = .slice (some ⟨g, 0, none⟩) 20 c := by
      rcases HJ.out.1.2 with ⟨e, h0⟩ | ⟨g, c, cur, e, _⟩
      · omega
      · exact ⟨g, c, e⟩
    subst hgF
    clear HJ hjl
    go_wp2_with fail
    go_loopw [7, 8, 9] (fun vD vA u w7 => ∃ (i : Nat) (O : Nat → Prop) (s : M.Lk) (fr at_ : Nat → Int), u = .int .i64 (i : Nat) ∧ i ≤ n ∧ i ≤ 80 ∧ Hid (AQ N S O s s.ac s.ac.length fr at_ (.slice (some ⟨gF, 0, none⟩) 20 cF) vD vA w w7 ∧ M.LG s ∧ M.LA s (fun t o => fr (t * 4 + o)) at_ ∧ (∀ j, fr j < i) ∧ (∀ j, j < s.ac.length → at_ j < i))) (fun _ _ u _ => 80 - (intOf u).toNat)
    case atStart => exact ⟨0, _, _, _, _, rfl, Nat.zero_le _, Nat.zero_le _, ⟨H6.out, M.LG.zero, M.LA.zero _ _, fun _ => by omega, fun j hj => absurd hj (Nat.not_lt_zero _)⟩⟩
    case round =>
      clear H6
      obtain ⟨i, O, s, fr, at_, rfl, hi, hi2, HP⟩ := hrel
      by_cases hlt : i < n ∧ i < 80
      case neg =>
        have ha := lacts_ok wr HP.out.1.tv HP.out.2.1
        obtain ⟨pD, cD, rfl, _⟩ := owns_capA HP.out.1.dw
        have hsa : ∀ w' q c, Below wr.heap.size wr w' → HasAc (az s.ac) q w' → Calls Tryd.prog 12 #[.slice q s.ac.length c, .slice pD s.ac.length cD] w' fun e w'' => e = .returned (.bool true) ∧ Below N w w'' := fun w' q c hb hh => by
          have hl := HP.out.1.later hb
          refine (same_acts (az s.ac) q pD s.ac.length c cD w' (az_len _) (by have := HP.out.2.1.len; unfold maxLen; omega) hh (hasAc_of_owns rfl hl.dw)).mono ?_
          rintro e w'' ⟨rfl, hB⟩
          exact ⟨rfl, hl.bl.trans (hB.mono hl.ns)⟩
        have hx : Hid (i < n → i = 80) := (by omega : i < n → i = 80)
        obtain ⟨L, hL⟩ : ∃ L, s.ac.length = L := ⟨_, rfl⟩
        rw [hL] at ha hsa
        simp only [hL]
        clear hL HP hlt
        by_cases hn : i < n
        · obtain rfl : i = 80 := hx.out hn
          have hn2 : (80 : Int) < n := by omega
          go_wp2_with fail
          refine ha.mono ?_
          rintro e w3 ⟨q, c, rfl, h1, h2, h3⟩
          have hs := hsa w3 q c h3 h2
          clear ha hsa h1 h2 h3
          go_wp2_with fail
          refine hs.mono ?_
          rintro e w4 ⟨rfl, hB⟩
          go_wp2_with fail
          go_ret
          exact ⟨rfl, hB⟩
        · obtain rfl : n = i := by omega
          go_wp2_with fail
          refine ha.mono ?_
          rintro e w3 ⟨q, c, rfl, h1, h2, h3⟩
          have hs := hsa w3 q c h3 h2
          clear ha hsa h1 h2 h3
          go_wp2_with fail
          refine hs.mono ?_
          rintro e w4 ⟨rfl, hB⟩
          go_wp2_with fail
          go_ret
          exact ⟨rfl, hB⟩
      obtain ⟨hlt, hlt2⟩ := hlt
      have hii : (i : Int) < n := by omega
      have hi80 : (i : Int) < 80 := by omega
      obtain ⟨b, off, rfl, hd⟩ := (HC.out.later (by rw [hN]; exact HP.out.1.bl)) i (by omega)
      obtain ⟨⟨k, t, o, x⟩, hz⟩ : ∃ d, dAt zs i = d := ⟨_, rfl⟩
      rw [hz] at hd
      have c0 := hd.c0
      have c1 := hd.c1
      have c2 := hd.c2
      have c3 := hd.c3
      have hb := hd.lt
      simp only at c0 c1 c2 c3
      obtain ⟨A, hA⟩ : ∃ A, wr.heap.size = A := ⟨_, rfl⟩
      obtain ⟨wa, hwa⟩ : ∃ wa, wr.alloc (.cells #[.int .i64 k, .int .i64 t, .int .i64 o, .int .i64 x] 30) = wa := ⟨_, rfl⟩
      have Da : DeAt ⟨k, t, o, x⟩ A 0 wa := by rw [← hwa, ← hA]; exact deAt_new wr ⟨k, t, o, x⟩
      have Ba : Below wr.heap.size wr wa := by rw [← hwa]; exact bel_al (Below.refl _ _) _
      have HQ := HP.out.1.later Ba
      have lgA : gF < A := by rw [← hA]; exact (HP.out.1.fw.lt gF rfl).2
      have hnA : ¬ nxO O wa A := fun e => by
        have h1 := Da.lt
        rcases e with e | e
        · have := HP.out.1.ob A e; omega
        · omega
      have dd := ldo_ok k t o x wa HQ.may.1 HQ.may.2 HP.out.2.1
      have q0 : wa.cell? ⟨A, 0, none⟩ = some (.int .i64 k) := Da.c0
      have q1 : wa.cell? ⟨A, 1, none⟩ = some (.int .i64 t) := Da.c1
      have q2 : wa.cell? ⟨A, 2, none⟩ = some (.int .i64 o) := Da.c2
      have q3 : wa.cell? ⟨A, 3, none⟩ = some (.int .i64 x) := Da.c3
      have lA := Da.lt
      obtain ⟨s', hs'⟩ : ∃ s', (lkZ s k t o x).1 = s' := ⟨_, rfl⟩
      obtain ⟨cd, hcd⟩ : ∃ cd, (lkZ s k t o x).2 = cd := ⟨_, rfl⟩
      have hbad := @lkz_bad s k t o x
      have hzero := @lkz_zero s k t o x
      rw [hs', hcd] at dd hbad hzero
      have hG' : M.LG s' := by rw [← hs']; exact HP.out.2.1.z k t o x
      have HX : Hid (∀ w', TV (nxO O wa) S s' w' → Frm (nxO O wa) wa w' → AQ N S (fun j => nxO O wa j ∧ j < w'.heap.size) s' s.ac s.ac.length fr at_ (.slice (some ⟨gF, 0, none⟩) 20 cF) u7 u8 w w' ∧ DeAt ⟨k, t, o, x⟩ A 0 w') := fun w' h1 h2 => ⟨HQ.did h1 h2, by
        have hb := h2.block A Da.lt hnA
        exact ⟨by have := h2.size; have := Da.lt; omega, (World.cell?_of_block (a := ⟨A, 0, none⟩) hb).trans Da.c0, (World.cell?_of_block (a := ⟨A, 1, none⟩) hb).trans Da.c1, (World.cell?_of_block (a := ⟨A, 2, none⟩) hb).trans Da.c2, (World.cell?_of_block (a := ⟨A, 3, none⟩) hb).trans Da.c3⟩⟩
      have HG : Hid (M.LG s ∧ M.LG s' ∧ M.LA s (fun t o => fr (t * 4 + o)) at_ ∧ (∀ j, fr j < i) ∧ (∀ j, j < s.ac.length → at_ j < i)) := ⟨HP.out.2.1, hG', HP.out.2.2⟩
      clear hz hd Da Ba HQ hnA HP hs' hcd hG'
      by_cases h0 : cd = 0
      case neg =>
        obtain ⟨e1, e2⟩ := hbad h0
        rw [terr_ne h0] at dd
        clear hbad hzero
        go_wp2_with fail
        refine dd.mono ?_
        rintro e w3 ⟨rfl, h3, h4⟩
        have H3 : Hid (AQ N S (fun j => nxO O wa j ∧ j < w3.heap.size) s' s'.ac s'.ac.length fr at_ (.slice (some ⟨gF, 0, none⟩) 20 cF) u7 u8 w w3 ∧ M.LG s' ∧ M.LA s' (fun t o => fr (t * 4 + o)) at_ ∧ (∀ j, fr j < ((i + 1 : Nat) : Int)) ∧ (∀ j, j < s'.ac.length → at_ j < ((i + 1 : Nat) : Int))) := by
          have h5 := (HX.out w3 h3 h4).1
          rw [e1]
          exact ⟨h5, HG.out.2.1, HG.out.2.2.1.same e1 e2, fun j => by have := HG.out.2.2.2.1 j; omega, fun j hj => by have := HG.out.2.2.2.2 j hj; omega⟩
        clear dd h3 h4 HX HG c0 c1 c2 c3
        go_wp2_with fail
        go_roundw
        case rel => (repeat apply Exists.intro); refine ⟨?_, rfl⟩; exact ⟨i + 1, _, s', fr, at_, by go_num, by omega, by omega, H3⟩
        case measure => simp [intOf]; omega
      obtain ⟨hin, hw⟩ := hzero h0
      subst h0
      obtain ⟨⟨k0, k3⟩, ⟨t0, t5⟩, ⟨o0, o4⟩, hx2⟩ := dIn_true hin
      rw [terr_zero] at dd
      clear hbad hzero hin
      obtain ⟨t, rfl⟩ : ∃ n : Nat, t = n := ⟨t.toNat, by omega⟩
      obtain ⟨o, rfl⟩ : ∃ n : Nat, o = n := ⟨o.toNat, by omega⟩
      rw [Int.toNat_natCast, Int.toNat_natCast] at hw
      have ht4 : (t : Int) ≤ 4 := by omega
      have ho3 : (o : Int) ≤ 3 := by omega
      have ht4n : t ≤ 4 := by omega
      have ho3n : o ≤ 3 := by omega
      rcases hw with ⟨hk, rfl⟩ | ⟨rfl, rfl⟩ | ⟨rfl, he, rfl⟩
      · have hk2 : (k == 2) = false := by simp; omega
        have hk3 : (k != 3) = true := by simp; omega
        have hk3' : (k == 3) = false := by simp; omega
        go_wp2_with fail
        refine dd.mono ?_
        rintro e w3 ⟨rfl, h3, h4⟩
        obtain ⟨h5, h6⟩ := HX.out w3 h3 h4
        have H3 : Hid (AQ N S (fun j => nxO O wa j ∧ j < w3.heap.size) (M.sGot s t o k.toNat) s.ac s.ac.length fr at_ (.slice (some ⟨gF, 0, none⟩) 20 cF) u7 u8 w w3 ∧ M.LG (M.sGot s t o k.toNat) ∧ M.LA (M.sGot s t o k.toNat) (fun t o => fr (t * 4 + o)) at_ ∧ (∀ j, fr j < ((i + 1 : Nat) : Int)) ∧ (∀ j, j < s.ac.length → at_ j < ((i + 1 : Nat) : Int))) :=
          ⟨h5, HG.out.2.1, HG.out.2.2.1.got HG.out.1.li.le t o k.toNat (by omega), fun j => by have := HG.out.2.2.2.1 j; omega, fun j hj => by have := HG.out.2.2.2.2 j hj; omega⟩
        have r0 : w3.cell? ⟨A, 0, none⟩ = some (.int .i64 k) := h6.c0
        have r1 : w3.cell? ⟨A, 1, none⟩ = some (.int .i64 (t : Nat)) := h6.c1
        have r2 : w3.cell? ⟨A, 2, none⟩ = some (.int .i64 (o : Nat)) := h6.c2
        have r3 : w3.cell? ⟨A, 3, none⟩ = some (.int .i64 x) := h6.c3
        have lA3 := h6.lt
        clear dd h3 h4 h5 h6 HX HG c0 c1 c2 c3 q0 q1 q2 q3 hwa
        go_wp2_with fail
        go_roundw
        case rel => (repeat apply Exists.intro); refine ⟨?_, rfl⟩; exact ⟨i + 1, _, M.sGot s t o k.toNat, fr, at_, by go_num, by omega, by omega, H3⟩
        case measure => simp [intOf]; omega
      · obtain ⟨g4, hg4⟩ : ∃ g, t * 4 = g := ⟨_, rfl⟩
        obtain ⟨g, hg⟩ : ∃ g, g4 + o = g := ⟨_, rfl⟩
        have i1 : (t : Int) * 4 = (g4 : Int) := by omega
        have i2 : (g4 : Int) + (o : Int) = (g : Int) := by omega
        have hg20 : g < 20 := by omega
        have hgi : (g : Int) < 20 := by omega
        have HGG : Hid (t * 4 + o = g) := (by omega : t * 4 + o = g)
        go_wp2_with fail
        refine dd.mono ?_
        rintro e w3 ⟨rfl, h3, h4⟩
        obtain ⟨h5, h6⟩ := HX.out w3 h3 h4
        have lgF : gF < w3.heap.size := (h5.fw.lt gF rfl).2
        have hcF := h5.fw.cellAt g hg20
        rw [fcl_at _ hg20] at hcF
        have hfF := h5.fw.frozenAt g
        have h7 := h5.setF (g := gF) (c := cF) (i := g) (z := (i : Int)) rfl
        have H3 : Hid (AQ N S (fun j => nxO O wa j ∧ j < w3.heap.size) (M.sFree s t o) s.ac s.ac.length (M.upd1 fr g (i : Int)) at_ (.slice (some ⟨gF, 0, none⟩) 20 cF) u7 u8 w (w3.setCell ⟨gF, g, none⟩ (.int .i64 (i : Nat))) ∧ M.LG (M.sFree s t o) ∧ M.LA (M.sFree s t o) (fun x y => M.upd1 fr g (i : Int) (x * 4 + y)) at_ ∧ (∀ j, M.upd1 fr g (i : Int) j < ((i + 1 : Nat) : Int)) ∧ (∀ j, j < s.ac.length → at_ j < ((i + 1 : Nat) : Int))) :=
          ⟨h7, HG.out.2.1, by rw [← HGG.out]; exact HG.out.2.2.1.free t o (i : Int) (fun j => by have := HG.out.2.2.2.1 j; omega) (fun j hj => by have := HG.out.2.2.2.2 j hj; omega), fun j => by
            unfold M.upd1
            split
            · omega
            · have := HG.out.2.2.2.1 j; omega, fun j hj => by have := HG.out.2.2.2.2 j hj; omega⟩
        have r0 : w3.cell? ⟨A, 0, none⟩ = some (.int .i64 2) := h6.c0
        have r1 : w3.cell? ⟨A, 1, none⟩ = some (.int .i64 (t : Nat)) := h6.c1
        have r2 : w3.cell? ⟨A, 2, none⟩ = some (.int .i64 (o : Nat)) := h6.c2
        have r3 : w3.cell? ⟨A, 3, none⟩ = some (.int .i64 x) := h6.c3
        have lA3 := h6.lt
        obtain ⟨wz, hwz⟩ : ∃ wz, w3.setCell ⟨gF, g, none⟩ (.int .i64 (i : Nat)) = wz := ⟨_, rfl⟩
        rw [hwz] at H3
        have hbz : wz.heap[A]? = w3.heap[A]? := by rw [← hwz]; exact Below.heap_setCell _ _ _ _ (show A ≠ gF by omega)
        have y0 : wz.cell? ⟨A, 0, none⟩ = some (.int .i64 2) := (World.cell?_of_block (a := ⟨A, 0, none⟩) hbz).trans r0
        have lAz : A < wz.heap.size := by rw [← hwz]; simpa [World.setCell] using lA3
        clear dd h3 h4 h5 h6 h7 HX HG c0 c1 c2 c3 q0 q1 q2 q3 hwa hbz HGG
        go_wp2_with fail
        go_roundw
        case rel => (repeat apply Exists.intro); refine ⟨?_, rfl⟩; exact ⟨i + 1, _, M.sFree s t o, M.upd1 fr g (i : Int), at_, by go_num, by omega, by omega, H3⟩
        case measure => simp [intOf]; omega
      · obtain ⟨x, rfl⟩ : ∃ n : Nat, x = n := ⟨x.toNat, by have := hx2 rfl; omega⟩
        have hx1 : x < 2 := by have := hx2 rfl; omega
        rw [Int.toNat_natCast] at he
        rw [Int.toNat_natCast] at dd HX HG
        clear hx2
        go_wp2_with fail
        refine dd.mono ?_
        rintro e w3 ⟨rfl, h3, h4⟩
        obtain ⟨h5, h6⟩ := HX.out w3 h3 h4
        obtain ⟨pD, cD, rfl, _⟩ := owns_capA h5.dw
        obtain ⟨pA, cA, rfl⟩ := owns_slice h5.aw
        obtain ⟨L, hL⟩ : ∃ L, s.ac.length = L := ⟨_, rfl⟩
        have HL : Hid (s.ac.length = L) := hL
        have HLA : Hid (M.LA (M.sAct s t o x) (fun t o => fr (t * 4 + o)) (M.upd1 at_ L (i : Int))) := by show M.LA _ _ _; rw [← hL]; exact HG.out.2.2.1.act he (i : Int)
        have HOK : Hid (∀ q, q < L → (M.sat s.ac q).tx ≠ t → (M.sat s.ac q).it = o → ((M.sat s.ac q).wr = 1 ∨ x = 1) → at_ q ≤ fr ((M.sat s.ac q).tx * 4 + o)) := fun q hq h1 h2 h3 => HG.out.2.2.1.ok HG.out.1.li (by omega) he (by rw [hL]; exact hq) h1 h2 h3
        have hL24 : L ≤ 24 := by rw [← hL]; exact HG.out.1.len
        rw [hL] at h5
        simp only [hL]
        have HAQ : Hid (AQ N S (fun j => nxO O wa j ∧ j < w3.heap.size) (M.sAct s t o x) s.ac L fr at_ (.slice (some ⟨gF, 0, none⟩) 20 cF) (.slice pD L cD) (.slice pA L cA) w w3 ∧ DeAt ⟨3, (t : Nat), (o : Nat), (x : Nat)⟩ A 0 w3) := ⟨h5, h6⟩
        have r0 : w3.cell? ⟨A, 0, none⟩ = some (.int .i64 3) := h6.c0
        have r1 : w3.cell? ⟨A, 1, none⟩ = some (.int .i64 (t : Nat)) := h6.c1
        have r2 : w3.cell? ⟨A, 2, none⟩ = some (.int .i64 (o : Nat)) := h6.c2
        have lA3 := h6.lt
        clear dd h3 h4 h5 h6 HX c0 c1 c2 c3 q0 q1 q2 q3 hwa hL he
        go_wp2_with fail
        clear r0 r1 r2 lA3
        go_loopw [11] (fun u w8 => ∃ q : Nat, u = .int .i64 (q : Nat) ∧ q ≤ L ∧ ∃ m, w8 = w3.drewN m) (fun u _ => L - (intOf u).toNat)
        case atStart => exact ⟨0, rfl, Nat.zero_le _, 0, rfl⟩
        case round =>
          obtain ⟨q, rfl, hq, m, rfl⟩ := hrel
          obtain ⟨hQ, hD⟩ := HAQ.out
          have r0 : w3.cell? ⟨A, 0, none⟩ = some (.int .i64 3) := hD.c0
          have r1 : w3.cell? ⟨A, 1, none⟩ = some (.int .i64 (t : Nat)) := hD.c1
          have r2 : w3.cell? ⟨A, 2, none⟩ = some (.int .i64 (o : Nat)) := hD.c2
          have r3 : w3.cell? ⟨A, 3, none⟩ = some (.int .i64 (x : Nat)) := hD.c3
          have lA8 := hD.lt
          by_cases hqL : q < L
          · have hqi : (q : Int) < L := by omega
            have hdw := hQ.dw
            rw [HL.out] at hdw
            obtain ⟨bD, oD, rfl, hac⟩ := (hasAc_of_owns HL.out hdw) q (by rw [az_len, HL.out]; exact hqL)
            rw [aAt_az] at hac
            have d0 := hac.c0
            have d1 := hac.c1
            have d2 := hac.c2
            have lD := hac.lt
            simp only [azN] at d0 d1 d2
            obtain ⟨bA, oA, rfl, lAt, _, a1⟩ := (owns_FI hQ.aw) q hqL
            simp only at a1
            have hT5 := (HG.out.1.aok).tx q
            have hok := HOK.out q hqL
            have hW2 := (HG.out.1.aok).wr q
            obtain ⟨T, hT⟩ : ∃ T, (M.sat s.ac q).tx = T := ⟨_, rfl⟩
            obtain ⟨I, hI⟩ : ∃ T, (M.sat s.ac q).it = T := ⟨_, rfl⟩
            obtain ⟨W, hW⟩ : ∃ T, (M.sat s.ac q).wr = T := ⟨_, rfl⟩
            rw [hT] at d0 hok hT5
            rw [hI] at d1 hok
            rw [hW] at d2 hok hW2
            obtain ⟨g4, hg4⟩ : ∃ g, T * 4 = g := ⟨_, rfl⟩
            obtain ⟨g, hg⟩ : ∃ g, g4 + o = g := ⟨_, rfl⟩
            have i1 : (T : Int) * 4 = (g4 : Int) := by omega
            have i2 : (g4 : Int) + (o : Int) = (g : Int) := by omega
            have hg20 : g < 20 := by omega
            have hgi : (g : Int) < 20 := by omega
            rw [show T * 4 + o = g by omega] at hok
            have hcF := hQ.fw.cellAt g hg20
            rw [fcl_at _ hg20] at hcF
            have lF := (hQ.fw.lt gF rfl).2
            obtain ⟨zf, hzf⟩ : ∃ z, fr g = z := ⟨_, rfl⟩
            obtain ⟨za, hza⟩ : ∃ z, at_ q = z := ⟨_, rfl⟩
            rw [hzf] at hcF hok
            rw [hza] at a1 hok
            obtain ⟨X, hX⟩ : ∃ X, W + x = X := ⟨_, rfl⟩
            have i3 : (W : Int) + (x : Int) = (X : Int) := by omega
            have HOKq : Hid (T ≠ t → I = o → (W = 1 ∨ x = 1) → za ≤ zf) := hok
            have hX4 : X < 4 := by omega
            have hg16 : g4 ≤ 16 := by omega
            have HWX : Hid (W < 2 ∧ x < 2 ∧ W + x = X) := ⟨hW2, hx1, hX⟩
            clear hac hdw hQ hD hok hzf hza hT hI hW hg hg4 hX hW2
            by_cases e1 : T = t
            · have b1 : ((T : Int) != (t : Int)) = false := by rw [e1]; simp
              have b1' : ((T : Int) == (t : Int)) = true := by rw [e1]; simp
              clear e1 HOKq
              go_wp2_with fail
              go_big_quiet (fail)
              go_wp2_with fail
              go_roundw
              case rel => exact ⟨q + 1, by go_num, by omega, m + nq, rfl⟩
              case measure => simp [intOf]; omega
            have b1 : ((T : Int) != (t : Int)) = true := by simp; omega
            have b1' : ((T : Int) == (t : Int)) = false := by simp; omega
            by_cases e2 : I = o
            case neg =>
              have b2 : ((I : Int) == (o : Int)) = false := by simp; omega
              clear e1 e2 HOKq
              go_wp2_with fail
              go_big_quiet (fail)
              go_wp2_with fail
              go_roundw
              case rel => exact ⟨q + 1, by go_num, by omega, m + nq, rfl⟩
              case measure => simp [intOf]; omega
            have b2 : ((I : Int) == (o : Int)) = true := by rw [e2]; simp
            by_cases e3 : 0 < X
            case neg =>
              have b3 : decide ((0 : Int) < (X : Int)) = false := decide_eq_false (by omega)
              have b3' : decide (0 < X) = false := decide_eq_false e3
              clear e1 e2 e3 HOKq
              go_wp2_with fail
              go_big_quiet (fail)
              go_wp2_with fail
              go_roundw
              case rel => exact ⟨q + 1, by go_num, by omega, m + nq, rfl⟩
              case measure => simp [intOf]; omega
            have b3 : decide ((0 : Int) < (X : Int)) = true := decide_eq_true (by omega)
            have b3' : decide (0 < X) = true := decide_eq_true e3
            have hle := HOKq.out e1 e2 (by have := HWX.out; omega)
            have b4 : decide (zf < za) = false := decide_eq_false (by omega)
            clear e1 e2 e3 HOKq
            go_wp2_with fail
            go_big_quiet (fail)
            go_wp2_with fail
            go_roundw
            case rel => exact ⟨q + 1, by go_num, by omega, m + nq, rfl⟩
            case measure => simp [intOf]; omega
          · obtain rfl : L = q := by omega
            obtain ⟨w4, hw4⟩ : ∃ w4, w3.drewN m = w4 := ⟨_, rfl⟩
            have hQ4 := hQ.later (below_drewN w3 m)
            have hD4 := hD.later (below_drewN w3 m) hD.lt
            rw [hw4] at hQ4 hD4 ⊢
            have r0 : w4.cell? ⟨A, 0, none⟩ = some (.int .i64 3) := hD4.c0
            have r1 : w4.cell? ⟨A, 1, none⟩ = some (.int .i64 (t : Nat)) := hD4.c1
            have r2 : w4.cell? ⟨A, 2, none⟩ = some (.int .i64 (o : Nat)) := hD4.c2
            have r3 : w4.cell? ⟨A, 3, none⟩ = some (.int .i64 (x : Nat)) := hD4.c3
            have lA4 := hD4.lt
            have HQ4 : Hid (AQ N S (fun j => nxO O wa j ∧ j < w3.heap.size) (M.sAct s t o x) s.ac L fr at_ (.slice (some ⟨gF, 0, none⟩) 20 cF) (.slice pD L cD) (.slice pA L cA) w w4) := hQ4
            have hdw : Hid (w4.ownsRow N 38 3 (.slice pD L cD) L (acells s.ac)) := by have h := hQ4.dw; rw [HL.out] at h; exact h
            have hns := hQ4.ns
            obtain ⟨xs, hxs⟩ : ∃ xs, acells s.ac = xs := ⟨_, rfl⟩
            have HXS : Hid (acells s.ac = xs) := hxs
            rw [hxs] at hdw
            clear hQ hD hQ4 hD4 hw4 hxs HOK
            go_wp2_with (at_builtin; refine wpList_append_lies _ rfl _ _ 34 rfl N 38 a0 (.agg #[.int .i64 0, .int .i64 0, .int .i64 0]) 3 24 Tryd.underlying34 ha0 hy0 hy1 hy2 rfl (by decide) (.slice pD L cD) L xs rfl (hdw.out.alloc _) ⟨w4.heap.size, 0, none⟩ 1 1 [.int .i64 (t : Nat), .int .i64 (o : Nat), .int .i64 (x : Nat)] rfl rfl (World.news_of_block (cs := #[.int .i64 (t : Nat), .int .i64 (o : Nat), .int .i64 (x : Nat)]) (t := 38) (fr := (0, 0)) (heap_alloc_new w4 _)) (by simp [Value.oneCell']) (by omega) (by unfold maxLen; omega) (by omega) (by simp; omega) (w4.heap.size + 1) (by simp) ?_)
            intro g5 c5 w5 ho5 hg5 hat5 lt5
            have HQ5 : Hid (AQ N S (fun j => nxO O wa j ∧ j < w3.heap.size) (M.sAct s t o x) (s.ac ++ [⟨t, o, x⟩]) L fr at_ (.slice (some ⟨gF, 0, none⟩) 20 cF) (.slice (some ⟨g5, 0, none⟩) (L + 1) c5) (.slice pA L cA) w w5) := by
              have h := HQ4.out.appD (x := .cells #[.int .i64 (t : Nat), .int .i64 (o : Nat), .int .i64 (x : Nat)] 38) (w5 := w5) (g := g5) (c := c5) (a := ⟨t, o, x⟩) (by rw [HL.out, HXS.out]; exact ho5) hg5 hat5
              rw [HL.out] at h
              exact h
            have haw : Hid (w5.ownsRow N 3 1 (.slice pA L cA) L (fcl (fun j => .int .i64 (at_ j)) L)) := HQ5.out.aw
            have hns5 := HQ5.out.ns
            obtain ⟨ys, hys⟩ : ∃ ys, fcl (fun j => Value.int .i64 (at_ j)) L = ys := ⟨_, rfl⟩
            have HYS : Hid (fcl (fun j => Value.int .i64 (at_ j)) L = ys) := hys
            rw [hys] at haw
            clear HQ4 hdw ho5 hg5 hat5 r0 r1 r2 r3 lA4 hns hys HXS
            go_wp2_with (at_builtin; refine wpList_append_lies _ rfl _ _ 31 rfl N 3 i0 (.int .i64 0) 1 8 Tryd.underlying31 hi0 hz0 hz1 hz2 rfl (by decide) (.slice pA L cA) L ys rfl (haw.out.alloc _) ⟨w5.heap.size, 0, none⟩ 1 1 [.int .i64 (i : Nat)] rfl rfl (World.news_of_block (cs := #[.int .i64 (i : Nat)]) (t := 3) (fr := (0, 0)) (heap_alloc_new w5 _)) (by simp [Value.oneCell']) (by omega) (by unfold maxLen; omega) (by omega) (by simp; omega) (w5.heap.size + 1) (by simp) ?_)
            intro g6 c6 w6 ho6 hg6 hat6 lt6
            have H6 : Hid (AQ N S (fun j => nxO O wa j ∧ j < w3.heap.size) (M.sAct s t o x) (M.sAct s t o x).ac (M.sAct s t o x).ac.length fr (M.upd1 at_ L (i : Int)) (.slice (some ⟨gF, 0, none⟩) 20 cF) (.slice (some ⟨g5, 0, none⟩) (L + 1) c5) (.slice (some ⟨g6, 0, none⟩) (L + 1) c6) w w6 ∧ M.LG (M.sAct s t o x) ∧ M.LA (M.sAct s t o x) (fun t o => fr (t * 4 + o)) (M.upd1 at_ L (i : Int)) ∧ (∀ j, fr j < ((i + 1 : Nat) : Int)) ∧ (∀ j, j < (M.sAct s t o x).ac.length → M.upd1 at_ L (i : Int) j < ((i + 1 : Nat) : Int))) := by
              have h := HQ5.out.appA (x := .cells #[.int .i64 (i : Nat)] 3) (w5 := w6) (g := g6) (c := c6) (i := (i : Int)) (by rw [HYS.out]; exact ho6) hg6 hat6
              have e : (M.sAct s t o x).ac.length = L + 1 := by show (s.ac ++ [⟨t, o, x⟩] : List M.SAct).length = L + 1; rw [List.length_append, HL.out]; rfl
              rw [e]
              refine ⟨h, HG.out.2.1, HLA.out, fun j => by have := HG.out.2.2.2.1 j; omega, fun j hj => ?_⟩
              unfold M.upd1
              split
              · omega
              · have := HG.out.2.2.2.2 j (by rw [HL.out]; omega); omega
            clear HQ5 haw ho6 hg6 hat6 HYS HG HLA HAQ hns5
            go_wp2_with fail
            go_roundw
            case rel => (repeat apply Exists.intro); refine ⟨?_, rfl⟩; exact ⟨i + 1, _, M.sAct s t o x, fr, M.upd1 at_ L (i : Int), by go_num, by omega, by omega, H6⟩
            case measure => simp [intOf]; omega
end Go.Proofs.YtcjodlgkmbmcgaaDoor
