/- One tells another one at the document's own table (package whensteadref2, Tell). -/
import Derived.Test.YtelonimdpeenaaaDoorRefT3
import Derived.BigQuiet
namespace Go.Proofs.YtelonimdpeenaaaDoor
open Go.RowKit
/-- A telling that has come to number (ob, ow): the numbers as they are by then in a list at p. -/
structure TL (N : Nat) (G : Nat → Prop) (n m : Nat) (k : M.Kt) (W : Nat → Nat) (v : TT) (f t ob ow : Nat) (p : Option Addr) (w0 w : World) : Prop where
  ws : WS N G n m k W v w0 w
  cur : ∃ g, FI G m (nF g) p w ∧ M.Row3 n g (M.tlD k f t n ob ow)
section
variable {N : Nat} {G : Nat → Prop} {n m : Nat} {k : M.Kt} {W : Nat → Nat} {v : TT} {f t ob ow : Nat} {p : Option Addr} {w0 w w' : World}
theorem TL.later (h : TL N G n m k W v f t ob ow p w0 w) (hb : Below w.heap.size w w') : TL N G n m k W v f t ob ow p w0 w' := by
  obtain ⟨g, h1, h2⟩ := h.cur
  exact ⟨h.ws.later hb, g, h1.later hb, h2⟩
theorem TL.row (h : TL N G n m k W v f t ob n p w0 w) : TL N G n m k W v f t (ob + 1) 0 p w0 w := by
  obtain ⟨g, h1, h2⟩ := h.cur
  exact ⟨h.ws, g, h1, h2.tl_row⟩
theorem TL.same (h : TL N G n m k W v f t ob ow p w0 w) (hb : ob < n) (hx : ¬ k t ob ow < M.tlN k f t ob ow) : TL N G n m k W v f t ob (ow + 1) p w0 w := by
  obtain ⟨g, h1, h2⟩ := h.cur
  exact ⟨h.ws, g, h1, h2.tl_same hb hx⟩
/-- the number that stands there -/
theorem TL.at_ (h : TL N G n m k W v f t ob ow p w0 w) (hm : n * n * n = m) (ht : t < n) (hb : ob < n) (hw : ow < n) {i : Nat} (hi : (t * n + ob) * n + ow = i) : ∃ b off, p = some ⟨b, off, none⟩ ∧ b < w.heap.size ∧ w.cell? ⟨b, off + i, none⟩ = some (.int .i64 (k t ob ow : Nat)) := by
  obtain ⟨g, h1, h2⟩ := h.cur
  have him : i < m := by rw [← hi, ← hm]; exact M.place_lt ht hb hw
  obtain ⟨b, off, e1, e2, _, e4⟩ := h1.at_ (by omega)
  refine ⟨b, off, e1, e2, ?_⟩
  rw [e4 i him]
  simp only [nF]
  rw [← hi, h2 t ob ow ht hb hw, M.tlD_at]
/-- a number of the table as it was -/
theorem WS.at_ (h : WS N G n m k W v w0 w) (hm : n * n * n = m) {a b c : Nat} (ha : a < n) (hb : b < n) (hc : c < n) {i : Nat} (hi : (a * n + b) * n + c = i) {bk ok : Nat} (hp : v.pk = some ⟨bk, ok, none⟩) : w.cell? ⟨bk, ok + i, none⟩ = some (.int .i64 (k a b c : Nat)) := by
  obtain ⟨g, h1, h2⟩ := h.rt.kn
  have him : i < m := by rw [← hi, ← hm]; exact M.place_lt ha hb hc
  obtain ⟨b', off, e1, e2, _, e4⟩ := h1.at_ (by omega)
  rw [hp] at e1
  cases e1
  rw [e4 i him]
  simp only [nF]
  rw [← hi, h2 a b c ha hb hc]
end
theorem tl_place {N : Nat} {G : Nat → Prop} {n m : Nat} {k : M.Kt} {W : Nat → Nat} {f t ob ow : Nat} {p : Option Addr} {w0 wr : World} {bk ok ck cd : Nat} {pd : Option Addr} (w5 : World) (a b cc i vv : Nat) (h : Hid (TL N G n m k W ⟨some ⟨bk, ok, none⟩, ck, pd, cd⟩ f t ob ow p w0 wr)) (h5 : n ≤ 5) (hm : Hid (n * n * n = m)) (habc : a < n ∧ b < n ∧ cc < n) (hi : Hid ((a * n + b) * n + cc = i)) (hv : Hid (k a b cc = vv)) (hB : Below wr.heap.size wr w5) :
    Calls Tryd.prog 16 #[.agg #[.int .i64 (n : Nat), .slice (some ⟨bk, ok, none⟩) m ck, .slice pd n cd], .int .i64 (a : Nat), .int .i64 (b : Nat), .int .i64 (cc : Nat)] w5 fun e w' => e = .returned (.int .i64 (i : Nat)) ∧ Hid (TL N G n m k W ⟨some ⟨bk, ok, none⟩, ck, pd, cd⟩ f t ob ow p w0 w') ∧ w'.cell? ⟨N, 1, none⟩ = some (.slice (some ⟨bk, ok, none⟩) m ck) ∧ w'.cell? ⟨bk, ok + i, none⟩ = some (.int .i64 (vv : Nat)) := by
  refine (place_ok n m a b cc i ⟨some ⟨bk, ok, none⟩, ck, pd, cd⟩ w5 h5 habc.1 habc.2.1 habc.2.2 hi.out).mono ?_
  rintro e w' ⟨rfl, hB'⟩
  have h9 := h.out.later (bel_on hB hB')
  refine ⟨rfl, h9, h9.ws.lb.c1, ?_⟩
  rw [h9.ws.at_ hm.out habc.1 habc.2.1 habc.2.2 hi.out rfl, hv.out]
theorem rtell_set {N : Nat} {G : Nat → Prop} {n m : Nat} {k : M.Kt} {W : Nat → Nat} {v : TT} {f t ob ow x i : Nat} {p : Option Addr} {w0 w : World} (c : Nat) (h : TL N G n m k W v f t ob ow p w0 w) (h5 : n ≤ 5) (hm : n * n * n = m) (ht : t < n) (hb : ob < n) (hw : ow < n) (hi : (t * n + ob) * n + ow = i) (hv : M.tlN k f t ob ow = x) (hx : k t ob ow < x) :
    Calls Tryd.prog 15 #[.slice p m c, .int .i64 (i : Nat), .int .i64 (x : Nat)] w fun e w' => ∃ p' c', e = .returned (.slice p' m c') ∧ Hid (TL N G n m k W v f t ob (ow + 1) p' w0 w') := by
  obtain ⟨g, h1, h2⟩ := h.cur
  have him : i < m := by rw [← hi, ← hm]; exact M.place_lt ht hb hw
  have hm125 : m ≤ 125 := by rw [← hm]; exact Nat.mul_le_mul (Nat.mul_le_mul h5 h5) h5
  refine (withN_ok g m i x p c w (by omega) him h1).mono ?_
  rintro e w' ⟨p', c', rfl, hF, hB⟩
  refine ⟨p', c', rfl, h.ws.later hB, _, hF.mono (fun j _ hj => h.ws.fr j (by have := h.ws.sz; omega)), ?_⟩
  rw [← hi]
  exact h2.tl_set hb hw hv hx
set_option maxRecDepth 100000 in
set_option maxHeartbeats 8000000 in
theorem rtell_do {G : Nat → Prop} {n m : Nat} {k : M.Kt} {W : Nat → Nat} (v : TT) (f t : Nat) (w : World) (h5 : n ≤ 5) (hm : n * n * n = m) (hf : f < n) (ht : t < n) (hne : f ≠ t) (hR : RT G n m k W v w) (hG : ∀ j, w.heap.size ≤ j → G j) :
    Calls Tryd.prog 9 #[rtV n m v, .int .i64 (f : Nat), .int .i64 (t : Nat)] w fun e w' => ∃ v', e = .returned (.tuple #[rtV n m v', .int .i64 0]) ∧ RT G n m (M.tlJ k f t n) W v' w' ∧ Below w.heap.size w w' := by
  have hWS := ws_begin hR hG
  obtain ⟨N, hN⟩ : ∃ N, w.heap.size = N := ⟨_, rfl⟩
  obtain ⟨G', hG'⟩ : ∃ G' : Nat → Prop, (fun j => G j ∧ j ≠ w.heap.size ∧ j ≠ w.heap.size + 1) = G' := ⟨_, rfl⟩
  have HGG : Hid (∀ j, G' j → G j) := by rw [← hG']; exact fun j hj => hj.1
  rw [hG', hN] at hWS
  rw [hN]
  obtain ⟨pk, ck, pd, cd⟩ := v
  simp only at hWS
  obtain ⟨w2, hw2⟩ : ∃ w2, (w.alloc (.cells #[.int .i64 (n : Nat), .slice pk m ck, .slice pd n cd] 31)).alloc (.cells #[.int .i64 0, .slice none 0 0, .slice none 0 0] 31) = w2 := ⟨_, rfl⟩
  rw [hw2] at hWS
  have hmp : 0 < m := by rw [← hm]; exact Nat.mul_pos (Nat.mul_pos (by omega) (by omega)) (by omega)
  obtain ⟨g0, hg0, hr0⟩ := hWS.rt.kn
  obtain ⟨bk, ok, e1, hbk, _, _⟩ := hg0.at_ hmp
  simp only at e1
  subst e1
  have HT : Hid (TL N G' n m k W ⟨some ⟨bk, ok, none⟩, ck, pd, cd⟩ f t 0 0 (some ⟨bk, ok, none⟩) w w2) := ⟨hWS, g0, hg0, hr0.tl_zero f t⟩
  have l0 := hWS.lb.c0
  have l1 := hWS.lb.c1
  simp only at l1
  have HM : Hid (n * n * n = m) := hm
  have hin1 := fun w' => in_is (f : Int) 0 ((n : Int) - 1) true w' (inB_true (by omega) (by omega))
  have hin2 := fun w' => in_is (t : Int) 0 ((n : Int) - 1) true w' (inB_true (by omega) (by omega))
  have hfz : ((f : Int) == (t : Int)) = false := by simp; omega
  have hfz' : (f == t) = false := by simp; omega
  have HN : Hid (f ≠ t) := hne
  clear hWS hR hG hG' hg0 hr0 hbk hne hm
  go_enter Tryd.func9, Tryd.ntmps9
  go_wp2_with fail
  refine (hin1 _).mono ?_
  rintro e w' ⟨rfl, rfl⟩
  go_wp2_with fail
  refine (hin2 _).mono ?_
  rintro e w' ⟨rfl, rfl⟩
  go_wp2_with fail
  clear l0 l1 hin1 hin2 hfz hfz' hw2
  obtain ⟨wo, hwo⟩ : ∃ wo, wo = w2 := ⟨_, rfl⟩
  subst hwo
  go_loopw [8, 9, 10, 11, 12] (fun s u _ _ _ wr => ∃ (ob : Nat) (p : Option Addr) (c : Nat), s = .slice p m c ∧ u = .int .i64 (ob : Nat) ∧ ob ≤ n ∧ Hid (TL N G' n m k W ⟨some ⟨bk, ok, none⟩, ck, pd, cd⟩ f t ob 0 p w wr)) (fun _ u _ _ _ _ => n - (intOf u).toNat)
  case atStart => exact ⟨0, _, _, rfl, rfl, Nat.zero_le _, HT⟩
  case round =>
    clear HT
    obtain ⟨ob, p, c, rfl, rfl, hob, HT⟩ := hrel
    have l0 := HT.out.ws.lb.c0
    by_cases hltb : ob < n
    case neg =>
      obtain rfl : n = ob := by omega
      have HE : Hid (WS N G' n m (M.tlJ k f t n) W ⟨p, c, pd, cd⟩ w (wr.setCell ⟨N, 1, none⟩ (.slice p m c))) := by
        obtain ⟨g, h1, h2⟩ := HT.out.cur
        exact HT.out.ws.setK (Below.refl _ _) c h1 h2.tl_end
      have g1 := HT.out.ws.lb.fz 1
      have l1 := HT.out.ws.lb.c1
      simp only at l1
      obtain ⟨wz, hwz⟩ : ∃ wz, wr.setCell ⟨N, 1, none⟩ (.slice p m c) = wz := ⟨_, rfl⟩
      rw [hwz] at HE
      obtain ⟨F1, F2, F3⟩ := HE.out.ret HGG.out
      have HF : Hid _ := F1
      have HF2 : Hid _ := F2
      have HF3 : Hid _ := F3
      have l0' := HE.out.lb.c0
      have l1' := HE.out.lb.c1
      have l2' := HE.out.lb.c2
      have z0 := HE.out.zb.c0
      have z1 := HE.out.zb.c1
      have z2 := HE.out.zb.c2
      have j0 := HE.out.zb.fz 0
      have j1 := HE.out.zb.fz 1
      have j2 := HE.out.zb.fz 2
      simp only at l1' l2'
      clear F1 F2 F3 HT HE
      go_wp2_with fail
      refine bodyPost_ret (v := .tuple #[rtV n m ⟨p, c, pd, cd⟩, .int .i64 0]) (results_tabc rfl _ _ (N + 1) n m ⟨p, c, pd, cd⟩ 0 rfl rfl HF.out) rfl ⟨_, rfl, HF2.out, HF3.out⟩
    have hbi : (ob : Int) < n := by omega
    obtain ⟨wp, hwp⟩ : ∃ wp, wp = wr := ⟨_, rfl⟩
    subst hwp
    go_wp2_with fail
    clear l0
    go_loopw [8, 10, 11, 12] (fun s u _ _ wr => ∃ (ow : Nat) (p : Option Addr) (c : Nat), s = .slice p m c ∧ u = .int .i64 (ow : Nat) ∧ ow ≤ n ∧ Hid (TL N G' n m k W ⟨some ⟨bk, ok, none⟩, ck, pd, cd⟩ f t ob ow p w wr)) (fun _ u _ _ _ => n - (intOf u).toNat)
    case atStart => exact ⟨0, _, _, rfl, rfl, Nat.zero_le _, HT⟩
    case round =>
      clear HT
      obtain ⟨ow, p, c, rfl, rfl, how, HT⟩ := hrel
      have l0 := HT.out.ws.lb.c0
      have l1 := HT.out.ws.lb.c1
      have l2 := HT.out.ws.lb.c2
      simp only at l1 l2
      by_cases hltw : ow < n
      case neg =>
        obtain rfl : n = ow := by omega
        have HT2 : Hid (TL N G' n m k W ⟨some ⟨bk, ok, none⟩, ck, pd, cd⟩ f t (ob + 1) 0 p w wr) := HT.out.row
        clear HT
        go_wp2_with fail
        go_roundw
        case rel => exact ⟨ob + 1, _, _, rfl, by go_num, by omega, HT2⟩
        case measure => simp [intOf]; omega
      have hwi : (ow : Int) < n := by omega
      have hm125 : m ≤ 125 := by rw [← HM.out]; exact Nat.mul_le_mul (Nat.mul_le_mul h5 h5) h5
      obtain ⟨i1, hi1⟩ : ∃ i, (f * n + ob) * n + ow = i := ⟨_, rfl⟩
      obtain ⟨i2, hi2⟩ : ∃ i, (f * n + f) * n + ow = i := ⟨_, rfl⟩
      obtain ⟨i3, hi3⟩ : ∃ i, (t * n + ob) * n + ow = i := ⟨_, rfl⟩
      have him1 : i1 < m := by rw [← hi1, ← HM.out]; exact M.place_lt hf hltb hltw
      have him2 : i2 < m := by rw [← hi2, ← HM.out]; exact M.place_lt hf hf hltw
      have him3 : i3 < m := by rw [← hi3, ← HM.out]; exact M.place_lt ht hltb hltw
      have hiz1 : (i1 : Int) < (m : Int) := by omega
      have hiz2 : (i2 : Int) < (m : Int) := by omega
      have hiz3 : (i3 : Int) < (m : Int) := by omega
      obtain ⟨x, hx⟩ : ∃ x, k f ob ow = x := ⟨_, rfl⟩
      obtain ⟨y, hy⟩ : ∃ y, k f f ow = y := ⟨_, rfl⟩
      obtain ⟨z, hz⟩ : ∃ z, k t ob ow = z := ⟨_, rfl⟩
      obtain ⟨nn, hnn⟩ : ∃ nn, M.tlN k f t ob ow = nn := ⟨_, rfl⟩
      have e1 : nn = if ob = t ∧ x < y then y else x := by rw [← hnn, ← hx, ← hy]; rfl
      have HI1 : Hid ((f * n + ob) * n + ow = i1) := hi1
      have HI2 : Hid ((f * n + f) * n + ow = i2) := hi2
      have HI3 : Hid ((t * n + ob) * n + ow = i3) := hi3
      have HX : Hid (k f ob ow = x) := hx
      have HY : Hid (k f f ow = y) := hy
      have HZ : Hid (k t ob ow = z) := hz
      have HNN : Hid (M.tlN k f t ob ow = nn) := hnn
      have E1 : Hid (nn = if ob = t ∧ x < y then y else x) := e1
      clear hi1 hi2 hi3 hx hy hz hnn e1
      go_wp2_with fail
      go_cut [11] from 46 to 54 (fun u w' => u = .int .i64 (x : Nat) ∧ Hid (TL N G' n m k W ⟨some ⟨bk, ok, none⟩, ck, pd, cd⟩ f t ob ow p w w'))
      case first =>
        go_region_with (go_at_call 16; refine (tl_place _ f ob ow i1 x HT h5 HM ⟨hf, hltb, hltw⟩ HI1 HX (below_drewN _ _)).mono ?_; rintro e w6 ⟨rfl, H6, d0, d1⟩)
        all_goals (go_wp2_with fail; go_meet)
        all_goals exact ⟨rfl, H6⟩
      case rest =>
        obtain ⟨rfl, HT2⟩ := hcut
        clear HT l0 l1 l2
        have l0 := HT2.out.ws.lb.c0
        have l1 := HT2.out.ws.lb.c1
        have l2 := HT2.out.ws.lb.c2
        simp only at l1 l2
        go_upto_region 13 with fail
        go_cut [70] from 55 to 70 (fun u w' => ∃ bb : Bool, u = .bool bb ∧ Hid (bb = decide (ob = t ∧ x < y)) ∧ Hid (TL N G' n m k W ⟨some ⟨bk, ok, none⟩, ck, pd, cd⟩ f t ob ow p w w'))
        case first =>
          by_cases hot : ob = t
          · have hoi : ((ob : Int) == (t : Int)) = true := by simp; omega
            have hoi' : (ob == t) = true := by simp; omega
            have HO : Hid (ob = t) := hot
            have hmk : ∀ W2, Below wc.heap.size wc W2 → W2.cell? ⟨N, 0, none⟩ = some (.int .i64 (n : Nat)) ∧ W2.cell? ⟨N, 1, none⟩ = some (.slice (some ⟨bk, ok, none⟩) m ck) ∧ W2.cell? ⟨N, 2, none⟩ = some (.slice pd n cd) ∧ W2.cell? ⟨bk, ok + i2, none⟩ = some (.int .i64 (y : Nat)) := fun W2 hW2 => by
              have h9 := (HT2.out.later hW2).ws
              exact ⟨h9.lb.c0, h9.lb.c1, h9.lb.c2, by rw [h9.at_ HM.out hf hf hltw HI2.out rfl, HY.out]⟩
            clear hot
            by_cases hxy : x < y
            · have hxi : (x : Int) < (y : Int) := by omega
              go_region_held3 (fun W => W.cell? ⟨N, 0, none⟩ = some (.int .i64 (n : Nat)) ∧ W.cell? ⟨N, 1, none⟩ = some (.slice (some ⟨bk, ok, none⟩) m ck) ∧ W.cell? ⟨N, 2, none⟩ = some (.slice pd n cd) ∧ W.cell? ⟨bk, ok + i2, none⟩ = some (.int .i64 (y : Nat))) (first | exact hmk _ ((Below.refl _ wc).drew) | exact hmk _ (bel_on ((Below.refl _ wc).drew) hB9)) (first | (go_at_call 16; refine (place_ok n m f f ow i2 ⟨some ⟨bk, ok, none⟩, ck, pd, cd⟩ _ h5 hf hf hltw HI2.out).mono ?_; rintro e w9 ⟨rfl, hB9⟩))
              all_goals (go_wp2_with fail; go_meet)
              all_goals exact ⟨true, rfl, (decide_eq_true ⟨HO.out, hxy⟩).symm, HT2.out.later (bel_on ((Below.refl _ wc).drew) hB9)⟩
            · have hxi : (y : Int) ≤ (x : Int) := by omega
              have HXY : Hid (¬ x < y) := hxy
              have hxn : y ≤ x := by omega
              clear hxy
              go_region_held3 (fun W => W.cell? ⟨N, 0, none⟩ = some (.int .i64 (n : Nat)) ∧ W.cell? ⟨N, 1, none⟩ = some (.slice (some ⟨bk, ok, none⟩) m ck) ∧ W.cell? ⟨N, 2, none⟩ = some (.slice pd n cd) ∧ W.cell? ⟨bk, ok + i2, none⟩ = some (.int .i64 (y : Nat))) (first | exact hmk _ ((Below.refl _ wc).drew) | exact hmk _ (bel_on ((Below.refl _ wc).drew) hB9)) (first | (go_at_call 16; refine (place_ok n m f f ow i2 ⟨some ⟨bk, ok, none⟩, ck, pd, cd⟩ _ h5 hf hf hltw HI2.out).mono ?_; rintro e w9 ⟨rfl, hB9⟩))
              all_goals (go_wp2_with fail; go_meet)
              all_goals exact ⟨decide (x < y), rfl, (by have h := HO.out; simp [h] : decide (x < y) = decide (ob = t ∧ x < y)), HT2.out.later (bel_on ((Below.refl _ wc).drew) hB9)⟩
          · have hoi : ((ob : Int) == (t : Int)) = false := by simp; omega
            have hoi' : (ob == t) = false := by simp; omega
            have HO : Hid (¬ ob = t) := hot
            clear hot
            go_big_quiet (fail)
            go_wp2_with fail
            go_meet
            exact ⟨false, rfl, (decide_eq_false (fun h => HO.out h.1)).symm, HT2.out.later (below_drewN _ _)⟩
        case rest =>
          obtain ⟨bb, rfl, HBB, HT⟩ := hcut
          clear HT2 l0 l1 l2
          have l0 := HT.out.ws.lb.c0
          have l1 := HT.out.ws.lb.c1
          have l2 := HT.out.ws.lb.c2
          simp only at l1 l2
          go_upto_if 70 with fail
          go_cut [11] from 71 to 79 (fun u w' => u = .int .i64 (nn : Nat) ∧ Hid (TL N G' n m k W ⟨some ⟨bk, ok, none⟩, ck, pd, cd⟩ f t ob ow p w w'))
          case first =>
            cases bb with
            | true =>
              go_wp2_with fail
              go_region_with (go_at_call 16; refine (tl_place _ f f ow i2 y HT h5 HM ⟨hf, hf, hltw⟩ HI2 HY (below_drewN _ _)).mono ?_; rintro e w6 ⟨rfl, H6, d0, d1⟩)
              all_goals (go_wp2_with fail; go_meet)
              all_goals exact ⟨by rw [E1.out, if_pos (of_decide_eq_true HBB.out.symm)], H6⟩
            | false =>
              go_wp2_with fail
              go_meet
              exact ⟨by rw [E1.out, if_neg (of_decide_eq_false HBB.out.symm)], HT⟩
          case rest =>
            obtain ⟨rfl, HT2⟩ := hcut
            clear HT l0 l1 l2
            have l0 := HT2.out.ws.lb.c0
            have l1 := HT2.out.ws.lb.c1
            have l2 := HT2.out.ws.lb.c2
            simp only at l1 l2
            go_wp2_with fail
            refine (place_ok n m t ob ow i3 ⟨some ⟨bk, ok, none⟩, ck, pd, cd⟩ _ h5 ht hltb hltw HI3.out).mono ?_
            rintro e w7 ⟨rfl, hB7⟩
            have HT7 : Hid (TL N G' n m k W ⟨some ⟨bk, ok, none⟩, ck, pd, cd⟩ f t ob ow p w w7) := HT2.out.later hB7
            obtain ⟨b8, o8, e8, hb8, hc8⟩ := HT7.out.at_ HM.out ht hltb hltw HI3.out
            subst e8
            rw [HZ.out] at hc8
            clear HT2 l0 l1 l2 hB7
            by_cases hzn : z < nn
            · have hzi : (z : Int) < (nn : Int) := by omega
              have hset := rtell_set c HT7.out h5 HM.out ht hltb hltw HI3.out HNN.out (by rw [HZ.out]; exact hzn)
              go_wp2_with fail
              refine hset.mono ?_
              rintro e w9 ⟨p9, c9, rfl, HT9⟩
              clear hset HT7 hc8
              go_wp2_with fail
              go_roundw
              case rel => exact ⟨ow + 1, _, _, rfl, by go_num, by omega, HT9⟩
              case measure => simp [intOf]; omega
            · have hzi : (nn : Int) ≤ (z : Int) := by omega
              have hzm : nn ≤ z := by omega
              have HT9 : Hid (TL N G' n m k W ⟨some ⟨bk, ok, none⟩, ck, pd, cd⟩ f t ob (ow + 1) (some ⟨b8, o8, none⟩) w w7) := HT7.out.same hltb (by rw [HZ.out, HNN.out]; exact hzn)
              clear hzn HT7
              go_wp2_with fail
              go_roundw
              case rel => exact ⟨ow + 1, _, _, rfl, by go_num, by omega, HT9⟩
              case measure => simp [intOf]; omega
end Go.Proofs.YtelonimdpeenaaaDoor
