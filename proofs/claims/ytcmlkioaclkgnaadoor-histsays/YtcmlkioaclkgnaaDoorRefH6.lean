/- The document's tries (whensteadref3, rest): op by op. -/
import Derived.Test.YtcmlkioaclkgnaaDoorRefH5
import Derived.Test.YtcmlkioaclkgnaaDoorHi9
import Derived.BigRegion
namespace Go.Proofs.YtcmlkioaclkgnaaDoor
open Go.RowKit

theorem hasI_at {c : List Nat} {p : Option Addr} {w : World} (h : HasI (ints c) p w) {j : Nat} (hj : j < c.length) {x : Nat} (hx : M.row c j = x) : ∃ b off, p = some ⟨b, off, none⟩ ∧ b < w.heap.size ∧ w.cell? ⟨b, off + j, none⟩ = some (.int .i64 (x : Nat)) := by
  obtain ⟨b, off, h1, h2, h3⟩ := h j (by rw [ints_length]; exact hj)
  exact ⟨b, off, h1, h2, by rw [h3, ints_get, hx]⟩
theorem icells_lenH (c : List Nat) : (icells c).length = c.length := by simp [icells]
theorem icells_oneH (c : List Nat) : ∀ u ∈ icells c, u.oneCell' = true := by
  intro u hu
  obtain ⟨x, _, rfl⟩ := List.mem_map.1 hu
  rfl
theorem hasI_cellsH {c : List Nat} {q : Option Addr} {w : World} (h : HasI (ints c) q w) : ∀ ad, q = some ad → ∀ j u, (icells c)[j]? = some u → w.cell? (ad.add j) = some u := by
  intro ad e j u hu
  have hj : j < c.length := by
    have := (List.getElem?_eq_some_iff.1 hu).1
    rwa [icells_lenH] at this
  obtain ⟨b, off, e2, _, hc⟩ := hasI_at h hj rfl
  rw [e] at e2
  cases e2
  have : u = .int .i64 (M.row c j : Nat) := by
    unfold icells at hu
    rw [List.getElem?_map, List.getElem?_eq_getElem hj] at hu
    unfold M.row
    rw [List.getElem?_eq_getElem hj]
    exact (Option.some.inj hu).symm
  rw [this]
  rw [Addr.add_lit]
  exact hc
theorem or_ltN {n d i : Nat} (hd : d < 2 ^ n) (hi : i < n) : d ||| 2 ^ i < 2 ^ n := Nat.or_lt_two_pow hd (Nat.pow_lt_pow_right (by omega) hi)
theorem goB_sub {all : Bool} {h : List M.HOp} {d : Nat} {v : Nat → Nat} {i : Nat} : M.goB all h d v i = true ↔ d.testBit i = false ∧ M.subB (M.preS all h i) d = true ∧ ((M.hop h i).wr = 0 → v (M.hop h i).ob = (M.hop h i).va) := by
  rw [M.goB_pre, M.subB_iff]
theorem goB_not {all : Bool} {h : List M.HOp} {d : Nat} {v : Nat → Nat} {i : Nat} (hno : ¬ (d.testBit i = false ∧ M.subB (M.preS all h i) d = true ∧ ((M.hop h i).wr = 0 → v (M.hop h i).ob = (M.hop h i).va))) : M.goB all h d v i = false := by
  cases e : M.goB all h d v i with
  | false => rfl
  | true => exact absurd (goB_sub.1 e) hno
theorem hasN_of_owns {O : Nat → Prop} {w : World} {base n cap g : Nat} {m : List Nat} (hm : m.length = n) (h : w.ownsRow base 3 1 (.slice (some ⟨g, 0, none⟩) n cap) n (icells m)) (hO : ¬ O g) : HasN O (ints m) (some ⟨g, 0, none⟩) w := fun j hj => by
  obtain ⟨b, off, e, h1, h2⟩ := hasI_of_owns hm h j hj
  cases e
  exact ⟨g, 0, rfl, h1, hO, h2⟩
/-- the blocks where one was stuck, but for three of a call's own -/
def O8 (O : Nat → Prop) (N B g : Nat) : Nat → Prop := fun b => O9 O N b ∧ b ≠ B ∧ b ≠ g
theorem best_zero_some {all : Bool} {h : List M.HOp} {d : Nat} {v : Nat → Nat} {k : Nat} (e : M.best all h k d v = none) : k ≠ 0 := fun c => by subst c; simp [M.best] at e
set_option maxRecDepth 100000 in
set_option maxHeartbeats 64000000 in
theorem rest_step (all : Bool) (h : List M.HOp) (p : Option Addr) (n cap : Nat) (pp : Option Addr) (capp X base k : Nat) (hl : h.length = n) (hk : HOk h) (ih : RestSpec all h p n cap pp capp X base k) : RestSpec all h p n cap pp capp X base (k + 1) := by
  intro O d x y z t q m ct L c w hs hOb hc hpre ht hnil hO htl hmk hd hcn hx hy hzl hm hcb
  by_cases hin : [x, y, z] ∈ L d
  · exact rest_known all h p n cap pp capp X k O d x y z t q m ct L c w hs hl ht htl hmk hd hcn hm (by omega) hin
  have hn10 : n ≤ 10 := hl ▸ hk.len
  have hN : 2 ^ n ≤ 1024 := Nat.pow_le_pow_right (n := 2) (by omega) hn10
  obtain ⟨N, hNe⟩ : ∃ N, 2 ^ n = N := ⟨_, rfl⟩
  have HNE : Hid (2 ^ n = N) := hNe
  rw [hNe] at hs hd hN
  clear hNe
  obtain ⟨w1, hw1⟩ : ∃ w1, w.alloc (.cells (tvC x y z) 46) = w1 := ⟨_, rfl⟩
  have hB1 : Below w.heap.size w w1 := hw1 ▸ bel_al (Below.refl _ _) _
  have b11 : Blk w1 w.heap.size (tvC x y z) 46 := hw1 ▸ Blk.new _ _ _
  have hbase : base ≤ w.heap.size := by
    obtain ⟨G, f, h9⟩ := hs
    exact Nat.le_trans (hOb X h9.oX) (Nat.le_of_lt h9.blk.lt)
  have hs1 : SX (O9 O w.heap.size) X N L c w1 := (hs.own (O' := O9 O w.heap.size) (fun b hb ho => ⟨ho, by omega⟩)).later hB1
  have HFI : Hid (FR all h O X N c k d x y z w 0 w1) := ⟨⟨L, c, hs1, hm, by omega⟩, Frm.of_below hB1, b11, fun j hj => absurd hj (Nat.not_lt_zero _)⟩
  have hcall := has_ok d x y z w1 hs1 hd (by omega)
  rw [decide_eq_false hin] at hcall
  have HIN : Hid ([x, y, z] ∉ L d) := hin
  have v0 := b11.cell 0
  have v1 := b11.cell 1
  have v2 := b11.cell 2
  have hmn : ((m : Int) == (n : Int)) = false := by simp; omega
  have hdI : Hid (d < N) := hd
  have hd9 : d < 1024 := by omega
  have HNN : Hid (N ≤ 1024) := hN
  clear hin b11 hs hs1 hm hB1 hd hN
  go_enter Tryd.func16, Tryd.ntmps16
  go_wp2_with fail
  refine hcall.mono ?_
  rintro e w2 ⟨rfl, hB2⟩
  have HF2 : Hid (FR all h O X N c k d x y z w 0 w2) := HFI.out.later hB2
  clear hcall hB2 HFI hw1 v0 v1 v2
  go_wp2_with fail
  go_loopw [13] (fun u wr => ∃ i : Nat, u = .int .i64 i ∧ i ≤ n ∧ Hid (FR all h O X N c k d x y z w i wr)) (fun u _ => n - (intOf u).toNat)
  case atStart => exact ⟨0, rfl, Nat.zero_le _, HF2⟩
  case round =>
    clear HF2
    obtain ⟨i, rfl, hi, HF⟩ := hrel
    by_cases hlt : i < n
    · obtain ⟨b, off, rfl, hb9, hop⟩ := (hc.later (HF.out.bel hOb hbase) (Nat.le_refl _)) i (by rw [hz_len]; omega)
      rw [oAt_hzO] at hop
      have hob3 := hk.ob i
      have hva := hk.va i
      obtain ⟨A, hA⟩ : ∃ A, M.hop h i = A := ⟨_, rfl⟩
      have HA : Hid (M.hop h i = A) := hA
      rw [hA] at hop hob3 hva
      obtain ⟨pr, ob, wt, va, fr, te⟩ := A
      have HOP : Hid (OpAt (hzO ⟨pr, ob, wt, va, fr, te⟩) b (off + i * 6) wr) := hop
      simp only [hzO] at hop
      simp only at hob3 hva
      obtain ⟨hbl, k0, k1, k2, k3, k4, k5⟩ := hop
      obtain ⟨bp, op, rfl, hbp, hcp⟩ := hasI_at (hpre.later (HF.out.bel hOb hbase)).a (j := i) (by rw [preL_len]; omega) (preL_at all h (by omega))
      obtain ⟨ps, hps⟩ : ∃ ps, M.preS all h i = ps := ⟨_, rfl⟩
      have HPS : Hid (M.preS all h i = ps) := hps
      have hpsl : ps < 1024 := by
        have := preS_lt all h i
        rw [hps, hl, HNE.out] at this
        have := HNN.out
        omega
      rw [hps] at hcp
      have hin9 : (i : Int) < (n : Int) := by omega
      have hbit := fun W => bit_any d i W (by omega) (by omega)
      have hwit := fun W => within_any ps d W (by omega) (by omega)
      have hb11 := HF.out.b11
      obtain ⟨x0, hx0⟩ : ∃ q, M.vf [x, y, z] ob = q := ⟨_, rfl⟩
      have HX : Hid (M.vf [x, y, z] ob = x0) := hx0
      have e7 := hb11.cell ob
      rw [tri_get x y z ob hob3, hx0] at e7
      have l11 := hb11.lt
      have hob9 : (ob : Int) < 3 := by omega
      have HSKIP : Hid (¬ (d.testBit i = false ∧ M.subB ps d = true ∧ (wt = 0 → x0 = va)) → FR all h O X N c k d x y z w (i + 1) wr) := fun hno => HF.out.skip (goB_not (by
        rw [HPS.out, HA.out]
        simp only
        rw [HX.out]
        exact hno))
      have HGOES : Hid (d.testBit i = false ∧ M.subB ps d = true ∧ (wt = 0 → x0 = va) → M.goB all h d (M.vf [x, y, z]) i = true) := fun hgo => goB_sub.2 (by
        rw [HPS.out, HA.out]
        simp only
        rw [HX.out]
        exact hgo)
      clear hps hx0 hA
      cases hbi : d.testBit i with
      | true =>
        have HS : Hid (FR all h O X N c k d x y z w (i + 1) wr) := HSKIP.out (fun e => by have := e.1; rw [hbi] at this; cases this)
        rw [hbi] at hbit
        clear hbi hb11
        go_wp2_with fail
        go_big_quiet ((go_at_call 24; exact Calls.quiet_of_same ((hbit _).mono (fun e w' h => ⟨h.1, h.2.symm⟩))))
        go_wp2_with fail
        go_roundw
        case rel => exact ⟨i + 1, by go_num, by omega, HS.out.later (bel_drN (Below.refl _ _) _)⟩
        case measure => simp [intOf]; omega
      | false =>
        rw [hbi] at hbit
        cases hsb : M.subB ps d with
        | false =>
          have HS : Hid (FR all h O X N c k d x y z w (i + 1) wr) := HSKIP.out (fun e => by have := e.2.1; rw [hsb] at this; cases this)
          rw [hsb] at hwit
          clear hbi hsb hb11
          go_wp2_with fail
          go_big_quiet (first | (go_at_call 24; exact Calls.quiet_of_same ((hbit _).mono (fun e w' h => ⟨h.1, h.2.symm⟩))) | (go_at_call 25; exact Calls.quiet_of_same ((hwit _).mono (fun e w' h => ⟨h.1, h.2.symm⟩))))
          go_wp2_with fail
          go_roundw
          case rel => exact ⟨i + 1, by go_num, by omega, HS.out.later (bel_drN (Below.refl _ _) _)⟩
          case measure => simp [intOf]; omega
        | true =>
          rw [hsb] at hwit
          by_cases hwx : wt = 0 ∧ x0 ≠ va
          · have HS : Hid (FR all h O X N c k d x y z w (i + 1) wr) := HSKIP.out (fun e => hwx.2 (e.2.2 hwx.1))
            have hd2 : ((wt : Int) == 0) = true := by rw [hwx.1]; rfl
            have hd3 : ((x0 : Int) != (va : Int)) = true := by simpa using (fun e => hwx.2 (by omega) : ¬ (x0 : Int) = va)
            clear hbi hsb hb11 hwx
            go_wp2_with fail
            go_big_quiet (first | (go_at_call 24; exact Calls.quiet_of_same ((hbit _).mono (fun e w' h => ⟨h.1, h.2.symm⟩))) | (go_at_call 25; exact Calls.quiet_of_same ((hwit _).mono (fun e w' h => ⟨h.1, h.2.symm⟩))))
            go_wp2_with fail
            go_roundw
            case rel => exact ⟨i + 1, by go_num, by omega, HS.out.later (bel_drN (Below.refl _ _) _)⟩
            case measure => simp [intOf]; omega
          · have hrd : wt = 0 → x0 = va := fun e => by
              apply Classical.byContradiction
              intro hne
              exact hwx ⟨e, hne⟩
            by_cases hw0 : wt = 0
            · have hd2 : ((wt : Int) == 0) = true := by rw [hw0]; rfl
              have hd3 : ((x0 : Int) != (va : Int)) = false := by have := hrd hw0; simp; omega
              clear hw0 hwx
              have HGO : Hid (M.goB all h d (M.vf [x, y, z]) i = true) := HGOES.out ⟨hbi, hsb, hrd⟩
              have HBI : Hid (d.testBit i = false) := hbi
              obtain ⟨p2, hp2⟩ : ∃ p2, 2 ^ i = p2 := ⟨_, rfl⟩
              have HP2 : Hid (2 ^ i = p2) := hp2
              have hp2l : p2 ≤ 512 := by
                rw [← hp2]
                have : 2 ^ i ≤ 2 ^ 9 := Nat.pow_le_pow_right (by omega) (by omega)
                omega
              obtain ⟨d2, hd2e⟩ : ∃ d2, d ||| 2 ^ i = d2 := ⟨_, rfl⟩
              have HD2 : Hid (d ||| 2 ^ i = d2) := hd2e
              have hsum : d + p2 = d2 := by rw [← hd2e, ← hp2, add_pow_or d i hbi, Nat.one_shiftLeft]
              have hsr : (d : Int) + (p2 : Int) = (d2 : Int) := by omega
              have hd2l : d2 < 2048 := by omega
              have hwr : IntKind.i64.wrap ((d2 : Nat) : Int) = (d2 : Int) := i64_wrap_nat d2 (by omega)
              have hpow := fun W => pow2_any i p2 W (by omega) HP2
              obtain ⟨x', hx'⟩ : ∃ q, nv ob va 0 x = q := ⟨_, rfl⟩
              obtain ⟨y', hy'⟩ : ∃ q, nv ob va 1 y = q := ⟨_, rfl⟩
              obtain ⟨z', hz'⟩ : ∃ q, nv ob va 2 z = q := ⟨_, rfl⟩
              have hxl : x' < 1000001 := hx' ▸ nv_lt hx hva
              have hyl : y' < 1000001 := hy' ▸ nv_lt hy hva
              have hzl9 : z' < 1000001 := hz' ▸ nv_lt hzl hva
              have HVF : Hid (M.vf [x', y', z'] = M.setv (M.vf [x, y, z]) ob va) := by show _ = _; rw [← hx', ← hy', ← hz']; exact vf_nv x y z ob va hob3
              have v0 := hb11.cell 0
              have v1 := hb11.cell 1
              have v2 := hb11.cell 2
              clear hbi hsb hb11 hrd hp2 hd2e hsum
              go_wp2_with fail
              go_big_quiet (first | (go_at_call 24; exact Calls.quiet_of_same ((hbit _).mono (fun e w' h => ⟨h.1, h.2.symm⟩))) | (go_at_call 25; exact Calls.quiet_of_same ((hwit _).mono (fun e w' h => ⟨h.1, h.2.symm⟩))))
              obtain ⟨wq, hwq⟩ : ∃ wq, wr.drewN nq = wq := ⟨_, rfl⟩
              have hBq : Below wr.heap.size wr wq := hwq ▸ bel_drN (Below.refl _ _) _
              simp only [hwq]
              clear hwq v0 v1 v2 e7
              have FQ : Hid (FR all h O X N c k d x y z w i wq) := HF.out.later hBq
              have hb11 := FQ.out.b11
              have v0 := hb11.cell 0
              have v1 := hb11.cell 1
              have v2 := hb11.cell 2
              have l11q := hb11.lt
              obtain ⟨w3, hw3⟩ : ∃ w3, wq.alloc (.cells (tvC x y z) 46) = w3 := ⟨_, rfl⟩
              have hB3 : Below wq.heap.size wq w3 := hw3 ▸ bel_al (Below.refl _ _) _
              have b14 : Blk w3 wq.heap.size (tvC x y z) 46 := hw3 ▸ Blk.new _ _ _
              have o3 := (HOP.out.later hBq HOP.out.lt).later hB3 (by have := hBq.size; omega)
              clear hb11 k0 k1 k2 k3 k4 k5
              obtain ⟨g0, k0, k1, k2, k3, k4, k5⟩ := o3
              simp only [hzO] at k0 k1 k2 k3 k4 k5
              have e7 := b14.cell ob
              rw [tri_get x y z ob hob3, HX.out] at e7
              have f7 := b14.frozen ob
              have l14 := b14.lt
              have b15 : Blk (w3.setCell ⟨wq.heap.size, ob, none⟩ (.int .i64 (va : Nat))).drew wq.heap.size (tvC x' y' z') 46 := by
                rw [← hx', ← hy', ← hz', ← tri_set x y z ob va hob3]; exact b14.set ob _
              have hB5 : Below wq.heap.size wq (w3.setCell ⟨wq.heap.size, ob, none⟩ (.int .i64 (va : Nat))).drew := (hB3.setCell (p := ⟨wq.heap.size, ob, none⟩) (Nat.le_refl _) _).drew
              have B15 : Hid _ := b15
              have HB5 : Hid _ := hB5
              clear b14 b15 hB5
              go_wp2_with fail
              go_region
              obtain ⟨w5, hw5⟩ : ∃ w5, (w3.setCell ⟨wq.heap.size, ob, none⟩ (.int .i64 (va : Nat))).drew = w5 := ⟨_, rfl⟩
              simp only [hw5]
              have b15 : Blk w5 wq.heap.size (tvC x' y' z') 46 := by rw [← hw5]; exact B15.out
              have hB5 : Below wq.heap.size wq w5 := by rw [← hw5]; exact HB5.out
              clear hw5 hw3 k0 k1 k2 k3 k4 k5 e7 f7 B15 HB5 v0 v1 v2 hB3
              have R5 : Hid (Frm (O9 O w.heap.size) wq w5) := Frm.of_below hB5
              have hz5 : HasI (ints t) q w5 := (ht.frm (FQ.out.frm.trans (Frm.of_below hB5))).a
              obtain ⟨i0, hi0, hiz0, hiz1, hiz2⟩ := infoIh_parts infoIh
              go_wp2_with (at_builtin; (refine wpList_append_ownAny _ rfl _ _ 28 rfl w5.heap.size 3 i0 (.int .i64 0) 1 8 Tryd.underlying28 hi0 hiz0 hiz1 hiz2 rfl (by decide) _ 0 [] rfl (World.ownsRow_nil _ _ _ _) q m ct (icells t) rfl (by rw [icells_lenH, htl, Nat.mul_one]) hnil (hasI_cellsH hz5) (icells_oneH t) (by unfold maxLen; omega) (by omega) (Nat.le_refl _) ?_); intro v6 w6 ho6 hg6)
              have hB6 : Below w5.heap.size w5 w6 := (Below.refl _ w5).grown hg6 (Nat.le_refl _) (fun j e => by cases e)
              rw [Nat.zero_add, List.nil_append] at ho6
              obtain ⟨L', c', hsq, hm', hc'⟩ := FQ.out.ex
              have hTT : tryT (k + 1) = 10 * tryT k + 2 := rfl
              have hiT : i * tryT k ≤ 9 * tryT k := Nat.mul_le_mul_right _ (by omega)
              have hcq : c' + tryT k ≤ 4398046511104 := by omega
              have HC9 : Hid (c' + tryT k ≤ c + i * tryT k + tryT k) := by show _ ≤ _; omega
              have HC8 : Hid (c' + tryT k ≤ c + tryT (k + 1)) := by show _ ≤ _; omega
              obtain ⟨R, hR⟩ : ∃ R, M.best all h k d2 (M.vf [x', y', z']) = R := ⟨_, rfl⟩
              have HBR : Hid (M.best all h k (d ||| 2 ^ i) (M.setv (M.vf [x, y, z]) (M.hop h i).ob (M.hop h i).va) = R) := by
                show _ = _
                rw [HD2.out, HA.out, ← HVF.out]
                exact hR
              have hcells : ∀ W, Below w5.heap.size w5 W → W.cell? ⟨wq.heap.size, 0, none⟩ = some (.int .i64 (x' : Nat)) ∧ W.cell? ⟨wq.heap.size, 1, none⟩ = some (.int .i64 (y' : Nat)) ∧ W.cell? ⟨wq.heap.size, 2, none⟩ = some (.int .i64 (z' : Nat)) := fun W hW => by
                have := b15.below hW b15.lt
                exact ⟨this.cell 0, this.cell 1, this.cell 2⟩
              have hih : ∀ (g cc : Nat) (W : World), Below w5.heap.size w5 W → W.ownsRow w5.heap.size 3 1 (.slice (some ⟨g, 0, none⟩) (m + 1) cc) (m + 1) (icells t ++ [.int .i64 (i : Nat)]) →
                  Calls Tryd.prog 16 #[.slice (some ⟨b, off, none⟩) n cap, .slice (some ⟨bp, op, none⟩) n capp, .pointer (some ⟨X, 0, none⟩), .slice (some ⟨g, 0, none⟩) (m + 1) cc, .int .i64 (d2 : Nat), .agg (tvC x' y' z')] W fun e w' => ∃ q' m' ct', e = .returned (.slice q' m' ct') ∧
                    (M.told (t ++ [i]) R).length = m' ∧ HasI (ints (M.told (t ++ [i]) R)) q' w' ∧ (∃ L9, SX (O9 O w.heap.size) X N L9 (c' + tryT k) w' ∧ M.Memo all h (fun e l => l ∈ L9 e)) ∧ Frm (O9 O w.heap.size) wq w' ∧
                    (w'.cell? ⟨wq.heap.size, 0, none⟩ = some (.int .i64 (x' : Nat)) ∧ w'.cell? ⟨wq.heap.size, 1, none⟩ = some (.int .i64 (y' : Nat)) ∧ w'.cell? ⟨wq.heap.size, 2, none⟩ = some (.int .i64 (z' : Nat))) := fun g cc W hW ho => by
                have hBW : Below wq.heap.size wq W := bel_on hB5 hW
                have hgl := (ho.lt g rfl)
                have sz5 : wq.heap.size < w5.heap.size := b15.lt
                have sW := hW.size
                have szq := FQ.out.b11.lt
                have hsW : SX (O8 (O := O) w.heap.size wq.heap.size g) X N L' c' W := (hsq.own (O' := O8 O w.heap.size wq.heap.size g) (fun K hK ho9 => ⟨ho9, by omega, by omega⟩)).later hBW
                have bW := FQ.out.bel hOb hbase
                have hbq : base ≤ wq.heap.size := by omega
                rw [← icells_snoc] at ho
                have hrec := ih (O8 O w.heap.size wq.heap.size g) d2 x' y' z' (t ++ [i]) (some ⟨g, 0, none⟩) (m + 1) cc L' c' W (by rw [HNE.out]; exact hsW) (fun K hK => hOb K hK.1.1) ((hc.later bW (Nat.le_refl _)).later hBW hbq) ((hpre.later bW).later (hBW.mono hbq)) (hasN_of_owns (by simp [htl]) ho (fun e => e.2.2 rfl)) (fun e => by cases e)
                  (fun K hK => ⟨⟨hO K (by omega), by omega⟩, by omega, by omega⟩) (by simp [htl]) (by omega) (by rw [HNE.out, ← HD2.out, ← HNE.out]; exact or_ltN (by rw [HNE.out]; exact hdI.out) hlt) (by rw [← HD2.out, ← hl]; exact M.done_next (by omega) HBI.out (by rw [hl]; exact hcn)) hxl hyl hzl9 hm' hcq
                rw [hR, HNE.out] at hrec
                refine hrec.mono ?_
                rintro e w' ⟨q', m', ct', rfl, h1, h2, ⟨L9, h3, h4⟩, h5⟩
                have cW := hcells W hW
                have nB : ¬ O8 O w.heap.size wq.heap.size g wq.heap.size := fun e => e.2.1 rfl
                refine ⟨q', m', ct', rfl, h1, h2, ⟨L9, h3.own (fun _ _ e => e.1), h4⟩, (Frm.of_below hBW).trans (h5.mono (fun _ _ e => e.1)), (h5.cell (p := ⟨wq.heap.size, 0, none⟩) (by show wq.heap.size < _; omega) nB).trans cW.1, (h5.cell (p := ⟨wq.heap.size, 1, none⟩) (by show wq.heap.size < _; omega) nB).trans cW.2.1, (h5.cell (p := ⟨wq.heap.size, 2, none⟩) (by show wq.heap.size < _; omega) nB).trans cW.2.2⟩
              have hmk9 := hcells
              have sz6 := hB6.size
              have szo : ∀ j, v6.ownBlock = some j → w5.heap.size ≤ j := fun j e => (ho6.lt j e).1
              clear hcells hsq hm' hc' hcq hTT hiT hR hB5 b15 hz5 hg6 hbit hwit
              cases R with
              | some l =>
                have HB : Hid (M.best all h (k + 1) d (M.vf [x, y, z]) = some (i :: l)) := M.best_first (by omega) HGO.out HBR.out (fun j hj hg => FQ.out.no j hj hg)
                have HLN : Hid (l.length = k) := (M.best_sound HBR.out).1
                go_region_held_law (fun W => W.cell? ⟨wq.heap.size, 0, none⟩ = some (.int .i64 (x' : Nat)) ∧ W.cell? ⟨wq.heap.size, 1, none⟩ = some (.int .i64 (y' : Nat)) ∧ W.cell? ⟨wq.heap.size, 2, none⟩ = some (.int .i64 (z' : Nat))) (first | exact hmk9 _ hB6.drew | exact hmk9 _ ((bel_al hB6 _).drew) | exact hmk9 _ hB7 | exact hc9) (first | (refine step_append_lies _ (by rfl) _ _ _ (by rfl) w5.heap.size 3 i0 _ 1 8 Tryd.underlying28 hi0 hiz0 hiz1 hiz2 rfl (by omega) v6 m (icells t) (by rfl) ((ho6.alloc _).drew) ⟨w6.heap.size, 0, none⟩ 1 1 [.int .i64 (i : Nat)] (by rfl) (by rfl) (World.news_of_block (cs := #[.int .i64 (i : Nat)]) (t := 3) (fr := (0, 0)) (heap_alloc_new w6 _)) (by simp [Value.oneCell']) (by omega) (by unfold maxLen; omega) (by omega) (by simp; omega) (w6.heap.size + 1) (by simp) ?_; intro g7 c7 w7 ho7 hg7 ha7 hl7; have hB7 : Below w5.heap.size w5 w7 := ((bel_al hB6 _).drew).grown hg7 (Nat.le_trans sz6 (by simp)) szo) | (go_at_call 15; refine (hpow _).mono ?_; rintro e w8 ⟨rfl, rfl⟩) | (go_at_call 16; refine (hih g7 c7 _ hB7 ho7).mono ?_; rintro e w9 ⟨q9, m9, c9, rfl, hl9, hi9, hs9, hf9, hc9⟩))
                all_goals (have hm9 : m9 = n := by rw [← hl9]; simp [M.told, HLN.out, htl]; omega)
                all_goals (have hd9 : ((m9 : Int) == (n : Int)) = true := by rw [hm9]; exact beq_self_eq_true _)
                all_goals (obtain ⟨L9, h3, h4⟩ := hs9)
                all_goals (have HEND : Hid (HasI (ints (M.told t (M.best all h (k + 1) d (M.vf [x, y, z])))) q9 w9 ∧ (∃ L', SX O X N L' (c + tryT (k + 1)) w9 ∧ M.Memo all h (fun e l => l ∈ L' e)) ∧ Frm O w w9) := (show _ ∧ _ from by rw [HB.out]; exact ⟨by simpa [M.told] using hi9, ⟨L9, SX.mono (h3.own (fun _ _ e => e.1)) HC8.out, h4⟩, FQ.out.frm.trans (hf9.mono (fun _ _ e => e.1))⟩))
                all_goals (have HLEN : Hid ((M.told t (M.best all h (k + 1) d (M.vf [x, y, z]))).length = m9) := (show _ = _ from by rw [HB.out, ← hl9]; simp [M.told]))
                all_goals clear hm9 hl9 hi9 h3 h4 hf9 hc9 hih hmk9 szo hB7 ho7 hg7 ha7
                all_goals go_wp2_with fail
                all_goals go_ret
                all_goals exact ⟨q9, m9, c9, rfl, HLEN.out, HEND.out.1, by rw [HNE.out]; exact HEND.out.2⟩
              | none =>
                have hk0 := best_zero_some HBR.out
                go_region_held_law (fun W => W.cell? ⟨wq.heap.size, 0, none⟩ = some (.int .i64 (x' : Nat)) ∧ W.cell? ⟨wq.heap.size, 1, none⟩ = some (.int .i64 (y' : Nat)) ∧ W.cell? ⟨wq.heap.size, 2, none⟩ = some (.int .i64 (z' : Nat))) (first | exact hmk9 _ hB6.drew | exact hmk9 _ ((bel_al hB6 _).drew) | exact hmk9 _ hB7 | exact hc9) (first | (refine step_append_lies _ (by rfl) _ _ _ (by rfl) w5.heap.size 3 i0 _ 1 8 Tryd.underlying28 hi0 hiz0 hiz1 hiz2 rfl (by omega) v6 m (icells t) (by rfl) ((ho6.alloc _).drew) ⟨w6.heap.size, 0, none⟩ 1 1 [.int .i64 (i : Nat)] (by rfl) (by rfl) (World.news_of_block (cs := #[.int .i64 (i : Nat)]) (t := 3) (fr := (0, 0)) (heap_alloc_new w6 _)) (by simp [Value.oneCell']) (by omega) (by unfold maxLen; omega) (by omega) (by simp; omega) (w6.heap.size + 1) (by simp) ?_; intro g7 c7 w7 ho7 hg7 ha7 hl7; have hB7 : Below w5.heap.size w5 w7 := ((bel_al hB6 _).drew).grown hg7 (Nat.le_trans sz6 (by simp)) szo) | (go_at_call 15; refine (hpow _).mono ?_; rintro e w8 ⟨rfl, rfl⟩) | (go_at_call 16; refine (hih g7 c7 _ hB7 ho7).mono ?_; rintro e w9 ⟨q9, m9, c9, rfl, hl9, hi9, hs9, hf9, hc9⟩))
                all_goals (have hm9 : m9 = m + 1 := by rw [← hl9]; simp [M.told, htl])
                all_goals (have hd9 : ((m9 : Int) == (n : Int)) = false := by simp; omega)
                all_goals (obtain ⟨L9, h3, h4⟩ := hs9)
                all_goals (have HS : Hid (FR all h O X N c k d x y z w (i + 1) w9) := FQ.out.tried h3 h4 HC9.out (FQ.out.frm.trans (hf9.mono (fun _ _ e => e.1))) hf9 HBR.out)
                all_goals clear hm9 hl9 hi9 h3 h4 hf9 hc9 hih hmk9 szo hB7 ho7 hg7 ha7
                all_goals go_wp2_with fail
                all_goals go_roundw
                all_goals first | exact ⟨i + 1, by go_num, by omega, HS⟩ | (simp [intOf]; omega)
            · have hd2 : ((wt : Int) == 0) = false := by simp; omega
              clear hw0 hwx
              have HGO : Hid (M.goB all h d (M.vf [x, y, z]) i = true) := HGOES.out ⟨hbi, hsb, hrd⟩
              have HBI : Hid (d.testBit i = false) := hbi
              obtain ⟨p2, hp2⟩ : ∃ p2, 2 ^ i = p2 := ⟨_, rfl⟩
              have HP2 : Hid (2 ^ i = p2) := hp2
              have hp2l : p2 ≤ 512 := by
                rw [← hp2]
                have : 2 ^ i ≤ 2 ^ 9 := Nat.pow_le_pow_right (by omega) (by omega)
                omega
              obtain ⟨d2, hd2e⟩ : ∃ d2, d ||| 2 ^ i = d2 := ⟨_, rfl⟩
              have HD2 : Hid (d ||| 2 ^ i = d2) := hd2e
              have hsum : d + p2 = d2 := by rw [← hd2e, ← hp2, add_pow_or d i hbi, Nat.one_shiftLeft]
              have hsr : (d : Int) + (p2 : Int) = (d2 : Int) := by omega
              have hd2l : d2 < 2048 := by omega
              have hwr : IntKind.i64.wrap ((d2 : Nat) : Int) = (d2 : Int) := i64_wrap_nat d2 (by omega)
              have hpow := fun W => pow2_any i p2 W (by omega) HP2
              obtain ⟨x', hx'⟩ : ∃ q, nv ob va 0 x = q := ⟨_, rfl⟩
              obtain ⟨y', hy'⟩ : ∃ q, nv ob va 1 y = q := ⟨_, rfl⟩
              obtain ⟨z', hz'⟩ : ∃ q, nv ob va 2 z = q := ⟨_, rfl⟩
              have hxl : x' < 1000001 := hx' ▸ nv_lt hx hva
              have hyl : y' < 1000001 := hy' ▸ nv_lt hy hva
              have hzl9 : z' < 1000001 := hz' ▸ nv_lt hzl hva
              have HVF : Hid (M.vf [x', y', z'] = M.setv (M.vf [x, y, z]) ob va) := by show _ = _; rw [← hx', ← hy', ← hz']; exact vf_nv x y z ob va hob3
              have v0 := hb11.cell 0
              have v1 := hb11.cell 1
              have v2 := hb11.cell 2
              clear hbi hsb hb11 hrd hp2 hd2e hsum
              go_wp2_with fail
              go_big_quiet (first | (go_at_call 24; exact Calls.quiet_of_same ((hbit _).mono (fun e w' h => ⟨h.1, h.2.symm⟩))) | (go_at_call 25; exact Calls.quiet_of_same ((hwit _).mono (fun e w' h => ⟨h.1, h.2.symm⟩))))
              obtain ⟨wq, hwq⟩ : ∃ wq, wr.drewN nq = wq := ⟨_, rfl⟩
              have hBq : Below wr.heap.size wr wq := hwq ▸ bel_drN (Below.refl _ _) _
              simp only [hwq]
              clear hwq v0 v1 v2 e7
              have FQ : Hid (FR all h O X N c k d x y z w i wq) := HF.out.later hBq
              have hb11 := FQ.out.b11
              have v0 := hb11.cell 0
              have v1 := hb11.cell 1
              have v2 := hb11.cell 2
              have l11q := hb11.lt
              obtain ⟨w3, hw3⟩ : ∃ w3, wq.alloc (.cells (tvC x y z) 46) = w3 := ⟨_, rfl⟩
              have hB3 : Below wq.heap.size wq w3 := hw3 ▸ bel_al (Below.refl _ _) _
              have b14 : Blk w3 wq.heap.size (tvC x y z) 46 := hw3 ▸ Blk.new _ _ _
              have o3 := (HOP.out.later hBq HOP.out.lt).later hB3 (by have := hBq.size; omega)
              clear hb11 k0 k1 k2 k3 k4 k5
              obtain ⟨g0, k0, k1, k2, k3, k4, k5⟩ := o3
              simp only [hzO] at k0 k1 k2 k3 k4 k5
              have e7 := b14.cell ob
              rw [tri_get x y z ob hob3, HX.out] at e7
              have f7 := b14.frozen ob
              have l14 := b14.lt
              have b15 : Blk (w3.setCell ⟨wq.heap.size, ob, none⟩ (.int .i64 (va : Nat))).drew wq.heap.size (tvC x' y' z') 46 := by
                rw [← hx', ← hy', ← hz', ← tri_set x y z ob va hob3]; exact b14.set ob _
              have hB5 : Below wq.heap.size wq (w3.setCell ⟨wq.heap.size, ob, none⟩ (.int .i64 (va : Nat))).drew := (hB3.setCell (p := ⟨wq.heap.size, ob, none⟩) (Nat.le_refl _) _).drew
              have B15 : Hid _ := b15
              have HB5 : Hid _ := hB5
              clear b14 b15 hB5
              go_wp2_with fail
              go_region
              obtain ⟨w5, hw5⟩ : ∃ w5, (w3.setCell ⟨wq.heap.size, ob, none⟩ (.int .i64 (va : Nat))).drew = w5 := ⟨_, rfl⟩
              simp only [hw5]
              have b15 : Blk w5 wq.heap.size (tvC x' y' z') 46 := by rw [← hw5]; exact B15.out
              have hB5 : Below wq.heap.size wq w5 := by rw [← hw5]; exact HB5.out
              clear hw5 hw3 k0 k1 k2 k3 k4 k5 e7 f7 B15 HB5 v0 v1 v2 hB3
              have R5 : Hid (Frm (O9 O w.heap.size) wq w5) := Frm.of_below hB5
              have hz5 : HasI (ints t) q w5 := (ht.frm (FQ.out.frm.trans (Frm.of_below hB5))).a
              obtain ⟨i0, hi0, hiz0, hiz1, hiz2⟩ := infoIh_parts infoIh
              go_wp2_with (at_builtin; (refine wpList_append_ownAny _ rfl _ _ 28 rfl w5.heap.size 3 i0 (.int .i64 0) 1 8 Tryd.underlying28 hi0 hiz0 hiz1 hiz2 rfl (by decide) _ 0 [] rfl (World.ownsRow_nil _ _ _ _) q m ct (icells t) rfl (by rw [icells_lenH, htl, Nat.mul_one]) hnil (hasI_cellsH hz5) (icells_oneH t) (by unfold maxLen; omega) (by omega) (Nat.le_refl _) ?_); intro v6 w6 ho6 hg6)
              have hB6 : Below w5.heap.size w5 w6 := (Below.refl _ w5).grown hg6 (Nat.le_refl _) (fun j e => by cases e)
              rw [Nat.zero_add, List.nil_append] at ho6
              obtain ⟨L', c', hsq, hm', hc'⟩ := FQ.out.ex
              have hTT : tryT (k + 1) = 10 * tryT k + 2 := rfl
              have hiT : i * tryT k ≤ 9 * tryT k := Nat.mul_le_mul_right _ (by omega)
              have hcq : c' + tryT k ≤ 4398046511104 := by omega
              have HC9 : Hid (c' + tryT k ≤ c + i * tryT k + tryT k) := by show _ ≤ _; omega
              have HC8 : Hid (c' + tryT k ≤ c + tryT (k + 1)) := by show _ ≤ _; omega
              obtain ⟨R, hR⟩ : ∃ R, M.best all h k d2 (M.vf [x', y', z']) = R := ⟨_, rfl⟩
              have HBR : Hid (M.best all h k (d ||| 2 ^ i) (M.setv (M.vf [x, y, z]) (M.hop h i).ob (M.hop h i).va) = R) := by
                show _ = _
                rw [HD2.out, HA.out, ← HVF.out]
                exact hR
              have hcells : ∀ W, Below w5.heap.size w5 W → W.cell? ⟨wq.heap.size, 0, none⟩ = some (.int .i64 (x' : Nat)) ∧ W.cell? ⟨wq.heap.size, 1, none⟩ = some (.int .i64 (y' : Nat)) ∧ W.cell? ⟨wq.heap.size, 2, none⟩ = some (.int .i64 (z' : Nat)) := fun W hW => by
                have := b15.below hW b15.lt
                exact ⟨this.cell 0, this.cell 1, this.cell 2⟩
              have hih : ∀ (g cc : Nat) (W : World), Below w5.heap.size w5 W → W.ownsRow w5.heap.size 3 1 (.slice (some ⟨g, 0, none⟩) (m + 1) cc) (m + 1) (icells t ++ [.int .i64 (i : Nat)]) →
                  Calls Tryd.prog 16 #[.slice (some ⟨b, off, none⟩) n cap, .slice (some ⟨bp, op, none⟩) n capp, .pointer (some ⟨X, 0, none⟩), .slice (some ⟨g, 0, none⟩) (m + 1) cc, .int .i64 (d2 : Nat), .agg (tvC x' y' z')] W fun e w' => ∃ q' m' ct', e = .returned (.slice q' m' ct') ∧
                    (M.told (t ++ [i]) R).length = m' ∧ HasI (ints (M.told (t ++ [i]) R)) q' w' ∧ (∃ L9, SX (O9 O w.heap.size) X N L9 (c' + tryT k) w' ∧ M.Memo all h (fun e l => l ∈ L9 e)) ∧ Frm (O9 O w.heap.size) wq w' ∧
                    (w'.cell? ⟨wq.heap.size, 0, none⟩ = some (.int .i64 (x' : Nat)) ∧ w'.cell? ⟨wq.heap.size, 1, none⟩ = some (.int .i64 (y' : Nat)) ∧ w'.cell? ⟨wq.heap.size, 2, none⟩ = some (.int .i64 (z' : Nat))) := fun g cc W hW ho => by
                have hBW : Below wq.heap.size wq W := bel_on hB5 hW
                have hgl := (ho.lt g rfl)
                have sz5 : wq.heap.size < w5.heap.size := b15.lt
                have sW := hW.size
                have szq := FQ.out.b11.lt
                have hsW : SX (O8 (O := O) w.heap.size wq.heap.size g) X N L' c' W := (hsq.own (O' := O8 O w.heap.size wq.heap.size g) (fun K hK ho9 => ⟨ho9, by omega, by omega⟩)).later hBW
                have bW := FQ.out.bel hOb hbase
                have hbq : base ≤ wq.heap.size := by omega
                rw [← icells_snoc] at ho
                have hrec := ih (O8 O w.heap.size wq.heap.size g) d2 x' y' z' (t ++ [i]) (some ⟨g, 0, none⟩) (m + 1) cc L' c' W (by rw [HNE.out]; exact hsW) (fun K hK => hOb K hK.1.1) ((hc.later bW (Nat.le_refl _)).later hBW hbq) ((hpre.later bW).later (hBW.mono hbq)) (hasN_of_owns (by simp [htl]) ho (fun e => e.2.2 rfl)) (fun e => by cases e)
                  (fun K hK => ⟨⟨hO K (by omega), by omega⟩, by omega, by omega⟩) (by simp [htl]) (by omega) (by rw [HNE.out, ← HD2.out, ← HNE.out]; exact or_ltN (by rw [HNE.out]; exact hdI.out) hlt) (by rw [← HD2.out, ← hl]; exact M.done_next (by omega) HBI.out (by rw [hl]; exact hcn)) hxl hyl hzl9 hm' hcq
                rw [hR, HNE.out] at hrec
                refine hrec.mono ?_
                rintro e w' ⟨q', m', ct', rfl, h1, h2, ⟨L9, h3, h4⟩, h5⟩
                have cW := hcells W hW
                have nB : ¬ O8 O w.heap.size wq.heap.size g wq.heap.size := fun e => e.2.1 rfl
                refine ⟨q', m', ct', rfl, h1, h2, ⟨L9, h3.own (fun _ _ e => e.1), h4⟩, (Frm.of_below hBW).trans (h5.mono (fun _ _ e => e.1)), (h5.cell (p := ⟨wq.heap.size, 0, none⟩) (by show wq.heap.size < _; omega) nB).trans cW.1, (h5.cell (p := ⟨wq.heap.size, 1, none⟩) (by show wq.heap.size < _; omega) nB).trans cW.2.1, (h5.cell (p := ⟨wq.heap.size, 2, none⟩) (by show wq.heap.size < _; omega) nB).trans cW.2.2⟩
              have hmk9 := hcells
              have sz6 := hB6.size
              have szo : ∀ j, v6.ownBlock = some j → w5.heap.size ≤ j := fun j e => (ho6.lt j e).1
              clear hcells hsq hm' hc' hcq hTT hiT hR hB5 b15 hz5 hg6 hbit hwit
              cases R with
              | some l =>
                have HB : Hid (M.best all h (k + 1) d (M.vf [x, y, z]) = some (i :: l)) := M.best_first (by omega) HGO.out HBR.out (fun j hj hg => FQ.out.no j hj hg)
                have HLN : Hid (l.length = k) := (M.best_sound HBR.out).1
                go_region_held_law (fun W => W.cell? ⟨wq.heap.size, 0, none⟩ = some (.int .i64 (x' : Nat)) ∧ W.cell? ⟨wq.heap.size, 1, none⟩ = some (.int .i64 (y' : Nat)) ∧ W.cell? ⟨wq.heap.size, 2, none⟩ = some (.int .i64 (z' : Nat))) (first | exact hmk9 _ hB6.drew | exact hmk9 _ ((bel_al hB6 _).drew) | exact hmk9 _ hB7 | exact hc9) (first | (refine step_append_lies _ (by rfl) _ _ _ (by rfl) w5.heap.size 3 i0 _ 1 8 Tryd.underlying28 hi0 hiz0 hiz1 hiz2 rfl (by omega) v6 m (icells t) (by rfl) ((ho6.alloc _).drew) ⟨w6.heap.size, 0, none⟩ 1 1 [.int .i64 (i : Nat)] (by rfl) (by rfl) (World.news_of_block (cs := #[.int .i64 (i : Nat)]) (t := 3) (fr := (0, 0)) (heap_alloc_new w6 _)) (by simp [Value.oneCell']) (by omega) (by unfold maxLen; omega) (by omega) (by simp; omega) (w6.heap.size + 1) (by simp) ?_; intro g7 c7 w7 ho7 hg7 ha7 hl7; have hB7 : Below w5.heap.size w5 w7 := ((bel_al hB6 _).drew).grown hg7 (Nat.le_trans sz6 (by simp)) szo) | (go_at_call 15; refine (hpow _).mono ?_; rintro e w8 ⟨rfl, rfl⟩) | (go_at_call 16; refine (hih g7 c7 _ hB7 ho7).mono ?_; rintro e w9 ⟨q9, m9, c9, rfl, hl9, hi9, hs9, hf9, hc9⟩))
                all_goals (have hm9 : m9 = n := by rw [← hl9]; simp [M.told, HLN.out, htl]; omega)
                all_goals (have hd9 : ((m9 : Int) == (n : Int)) = true := by rw [hm9]; exact beq_self_eq_true _)
                all_goals (obtain ⟨L9, h3, h4⟩ := hs9)
                all_goals (have HEND : Hid (HasI (ints (M.told t (M.best all h (k + 1) d (M.vf [x, y, z])))) q9 w9 ∧ (∃ L', SX O X N L' (c + tryT (k + 1)) w9 ∧ M.Memo all h (fun e l => l ∈ L' e)) ∧ Frm O w w9) := (show _ ∧ _ from by rw [HB.out]; exact ⟨by simpa [M.told] using hi9, ⟨L9, SX.mono (h3.own (fun _ _ e => e.1)) HC8.out, h4⟩, FQ.out.frm.trans (hf9.mono (fun _ _ e => e.1))⟩))
                all_goals (have HLEN : Hid ((M.told t (M.best all h (k + 1) d (M.vf [x, y, z]))).length = m9) := (show _ = _ from by rw [HB.out, ← hl9]; simp [M.told]))
                all_goals clear hm9 hl9 hi9 h3 h4 hf9 hc9 hih hmk9 szo hB7 ho7 hg7 ha7
                all_goals go_wp2_with fail
                all_goals go_ret
                all_goals exact ⟨q9, m9, c9, rfl, HLEN.out, HEND.out.1, by rw [HNE.out]; exact HEND.out.2⟩
              | none =>
                have hk0 := best_zero_some HBR.out
                go_region_held_law (fun W => W.cell? ⟨wq.heap.size, 0, none⟩ = some (.int .i64 (x' : Nat)) ∧ W.cell? ⟨wq.heap.size, 1, none⟩ = some (.int .i64 (y' : Nat)) ∧ W.cell? ⟨wq.heap.size, 2, none⟩ = some (.int .i64 (z' : Nat))) (first | exact hmk9 _ hB6.drew | exact hmk9 _ ((bel_al hB6 _).drew) | exact hmk9 _ hB7 | exact hc9) (first | (refine step_append_lies _ (by rfl) _ _ _ (by rfl) w5.heap.size 3 i0 _ 1 8 Tryd.underlying28 hi0 hiz0 hiz1 hiz2 rfl (by omega) v6 m (icells t) (by rfl) ((ho6.alloc _).drew) ⟨w6.heap.size, 0, none⟩ 1 1 [.int .i64 (i : Nat)] (by rfl) (by rfl) (World.news_of_block (cs := #[.int .i64 (i : Nat)]) (t := 3) (fr := (0, 0)) (heap_alloc_new w6 _)) (by simp [Value.oneCell']) (by omega) (by unfold maxLen; omega) (by omega) (by simp; omega) (w6.heap.size + 1) (by simp) ?_; intro g7 c7 w7 ho7 hg7 ha7 hl7; have hB7 : Below w5.heap.size w5 w7 := ((bel_al hB6 _).drew).grown hg7 (Nat.le_trans sz6 (by simp)) szo) | (go_at_call 15; refine (hpow _).mono ?_; rintro e w8 ⟨rfl, rfl⟩) | (go_at_call 16; refine (hih g7 c7 _ hB7 ho7).mono ?_; rintro e w9 ⟨q9, m9, c9, rfl, hl9, hi9, hs9, hf9, hc9⟩))
                all_goals (have hm9 : m9 = m + 1 := by rw [← hl9]; simp [M.told, htl])
                all_goals (have hd9 : ((m9 : Int) == (n : Int)) = false := by simp; omega)
                all_goals (obtain ⟨L9, h3, h4⟩ := hs9)
                all_goals (have HS : Hid (FR all h O X N c k d x y z w (i + 1) w9) := FQ.out.tried h3 h4 HC9.out (FQ.out.frm.trans (hf9.mono (fun _ _ e => e.1))) hf9 HBR.out)
                all_goals clear hm9 hl9 hi9 h3 h4 hf9 hc9 hih hmk9 szo hB7 ho7 hg7 ha7
                all_goals go_wp2_with fail
                all_goals go_roundw
                all_goals first | exact ⟨i + 1, by go_num, by omega, HS⟩ | (simp [intOf]; omega)
    · obtain rfl : i = n := by omega
      have hno : M.best all h (k + 1) d (M.vf [x, y, z]) = none := M.best_fail (fun j hj hg => HF.out.no j (by omega) hg)
      have HNO : Hid (M.best all h (k + 1) d (M.vf [x, y, z]) = none) := hno
      obtain ⟨L', c', ⟨G, f, h9⟩, hm', hc'⟩ := HF.out.ex
      have hTT : tryT (k + 1) = 10 * tryT k + 2 := rfl
      have hiT : i * tryT k ≤ 10 * tryT k := Nat.mul_le_mul_right _ (by omega)
      have hdN := hdI.out
      have hb11 := HF.out.b11
      have hrow := h9.own d hdN
      have hlen := h9.len d hdN
      obtain ⟨V, hV⟩ : ∃ V, f d = V := ⟨_, rfl⟩
      rw [hV] at hrow
      have hdI2 : (d : Int) < (N : Int) := by omega
      have qX := h9.blk.cell 0
      have qG := h9.row.cell (i := d) hdN
      rw [hV] at qG
      have lX := h9.blk.lt
      have lG := h9.row.lt
      have v0 := hb11.cell 0
      have v1 := hb11.cell 1
      have v2 := hb11.cell 2
      have l11 := hb11.lt
      obtain ⟨i0, hi0, hiz0, hiz1, hiz2⟩ := infoIh_parts (show (Tryd.prog.info? 46).map (fun i => (i.zero, i.size, i.bytes)) = some (some (.agg #[.int .i64 0, .int .i64 0, .int .i64 0]), 3, 24) by kernel_rfl)
      have hneG : Hid (V.ownBlock ≠ some G) := hV ▸ h9.neFG hdN
      have hneX : Hid (V.ownBlock ≠ some X) := hV ▸ h9.neFX hdN
      have FIN : Hid (∀ g cap2 w5, w5.ownsRow 0 46 3 (.slice (some ⟨g, 0, none⟩) ((L' d).length + 1) cap2) ((L' d).length + 1) (tcells (L' d) ++ [.int .i64 (x : Nat), .int .i64 (y : Nat), .int .i64 (z : Nat)]) → (wr.alloc (.cells #[.int .i64 (x : Nat), .int .i64 (y : Nat), .int .i64 (z : Nat)] 46)).drew.grownBy w5 V.ownBlock → (V.ownBlock = some g ∨ g = wr.heap.size + 1) →
          (∀ k, k < wr.heap.size → V.ownBlock ≠ some k → w5.heap[k]? = wr.heap[k]?) ∧ w5.frozen? ⟨G, d, none⟩ = false ∧
          HasI (ints t) q (w5.setCell ⟨G, d, none⟩ (.slice (some ⟨g, 0, none⟩) ((L' d).length + 1) cap2)) ∧
          (∃ L9, SX O X N L9 (c + tryT (k + 1)) (w5.setCell ⟨G, d, none⟩ (.slice (some ⟨g, 0, none⟩) ((L' d).length + 1) cap2)) ∧ M.Memo all h (fun e l => l ∈ L9 e)) ∧ Frm O w (w5.setCell ⟨G, d, none⟩ (.slice (some ⟨g, 0, none⟩) ((L' d).length + 1) cap2))) := by
        intro g cap2 w5 ho hg hat
        have keep : ∀ K, K < wr.heap.size → V.ownBlock ≠ some K → w5.heap[K]? = wr.heap[K]? := fun K hK hne => (hg.block K (Nat.lt_of_lt_of_le hK (by simp)) (Ne.symm hne)).trans (Below.heap_alloc wr _ K hK)
        have og : O9 O w.heap.size g := by
          rcases hat with e | e
          · exact h9.oF d g hdN (hV ▸ e)
          · exact ⟨hO g (by omega), by omega⟩
        have hp := h9.push hdN ho (fun K hK hne => keep K hK (hV ▸ hne)) (by rcases hat with e | e; exact .inl (hV ▸ e); exact .inr (by omega)) og
        have fr : Frm O w (w5.setCell ⟨G, d, none⟩ (.slice (some ⟨g, 0, none⟩) ((L' d).length + 1) cap2)) :=
          (((HF.out.frm.alloc _).drew.grown hg (fun K e => (h9.oF d K hdN (hV ▸ e)).1))).set (p := ⟨G, d, none⟩) h9.oG.1 _
        refine ⟨keep, (h9.row.of_block (keep G lG hneG.out)).frozen d, (ht.frm fr).a, ⟨_, SX.mono (c' := c + tryT (k + 1)) (hp.own (fun _ _ h => h.1)) (by omega), memo_more hm' (by rw [hl]; exact hcn) hno⟩, fr⟩
      have hlen9 : (L' d).length ≤ 4398046511104 := by omega
      clear hno h9 hm' hc' hTT hiT hb11 hV hlen
      go_wp2_with fail
      go_region_law (refine step_append_lies _ (by rfl) _ _ _ (by rfl) 0 46 i0 _ 3 24 Tryd.underlying55 hi0 hiz0 hiz1 hiz2 rfl (by omega) V (L' d).length (tcells (L' d)) (by rfl) ((hrow.alloc _).drew) ⟨wr.heap.size, 0, none⟩ 1 1 [.int .i64 (x : Nat), .int .i64 (y : Nat), .int .i64 (z : Nat)] (by rfl) (by rfl) (World.news_of_block (cs := #[.int .i64 (x : Nat), .int .i64 (y : Nat), .int .i64 (z : Nat)]) (t := 46) (fr := (0, 0)) (heap_alloc_new wr _)) (by simp [Value.oneCell']) (by omega) (by unfold maxLen; omega) (by omega) (Nat.zero_le _) (wr.heap.size + 1) (by simp) ?_; intro g cap2 w5 hown5 hgrow5 hat5 hlt5; have hfin := FIN.out g cap2 w5 hown5 hgrow5 hat5; have qX5 := (World.cell?_of_block (a := ⟨X, 0, none⟩) (hfin.1 X lX hneX.out)).trans qX; have qG5 := (World.cell?_of_block (a := ⟨G, d, none⟩) (hfin.1 G lG hneG.out)).trans qG; have fG5 := hfin.2.1)
      all_goals (have HFIN : Hid _ := hfin.2.2)
      all_goals clear hfin FIN hown5 hgrow5
      all_goals go_wp2_with fail
      all_goals go_ret
      all_goals exact ⟨q, m, ct, rfl, by rw [HNO.out]; exact htl, by rw [HNO.out]; exact HFIN.out.1, by rw [HNE.out]; exact HFIN.out.2⟩
end Go.Proofs.YtcmlkioaclkgnaaDoor
