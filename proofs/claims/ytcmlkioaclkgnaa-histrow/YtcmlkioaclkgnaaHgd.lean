/- Whether a row of places is good (whensteadlaw3.good). Written by mk_hgd.py. -/
import Derived.Test.YtcmlkioaclkgnaaHig
import Derived.Test.YtcmlkioaclkgnaaRefSet
namespace Go.Proofs.Ytcmlkioaclkgnaa
open Go.RowKit
namespace M
/-- do places that are given as whole numbers go on? -/
def gz (all : Bool) (h : List HOp) : Nat → (Nat → Nat) → List Int → Bool
  | _, _, [] => true
  | d, v, z :: r => decide (0 ≤ z ∧ z < h.length) && goB all h d v z.toNat && gz all h (d ||| 2 ^ z.toNat) (setv v (hop h z.toNat).ob (hop h z.toNat).va) r
theorem gz_iff {all : Bool} {h : List HOp} : ∀ {zs : List Int} {d : Nat} {v : Nat → Nat}, gz all h d v zs = true ↔ ∃ l : List Nat, zs = ints l ∧ GoodL all h d v l
  | [], d, v => ⟨fun _ => ⟨[], rfl, trivial⟩, fun _ => rfl⟩
  | z :: r, d, v => by
    simp only [gz]
    rw [Bool.and_eq_true, Bool.and_eq_true, decide_eq_true_eq, goB_iff, gz_iff]
    constructor
    · rintro ⟨⟨h1, h2⟩, l, rfl, h3⟩
      refine ⟨z.toNat :: l, ?_, by omega, h2, h3⟩
      simp only [ints, List.map_cons]
      congr 1
      omega
    · rintro ⟨l, e, hg⟩
      match l, hg with
      | [], _ => simp [ints] at e
      | i :: l, ⟨h1, h2, h3⟩ =>
        simp only [ints, List.map_cons, List.cons.injEq] at e
        obtain ⟨rfl, rfl⟩ := e
        rw [Int.toNat_natCast]
        exact ⟨⟨by omega, h2⟩, l, rfl, h3⟩
theorem gz_drop {all : Bool} {h : List HOp} {d : Nat} {v : Nat → Nat} {zs : List Int} {k : Nat} (hk : k < zs.length) : gz all h d v (zs.drop k) = (decide (0 ≤ zs[k]?.getD 0 ∧ zs[k]?.getD 0 < h.length) && goB all h d v (zs[k]?.getD 0).toNat && gz all h (d ||| 2 ^ (zs[k]?.getD 0).toNat) (setv v (hop h (zs[k]?.getD 0).toNat).ob (hop h (zs[k]?.getD 0).toNat).va) (zs.drop (k + 1))) := by
  rw [List.drop_eq_getElem_cons hk, List.getElem?_eq_getElem hk]
  rfl
/-- is a row good? -/
def goodZ (all : Bool) (h : List HOp) (zs : List Int) : Bool := zs.length == h.length && gz all h 0 (fun _ => 0) zs
theorem goodZ_iff {all : Bool} {h : List HOp} {zs : List Int} : goodZ all h zs = true ↔ ∃ l : List Nat, zs = ints l ∧ l.length = h.length ∧ GoodL all h 0 (fun _ => 0) l := by
  unfold goodZ
  rw [Bool.and_eq_true, beq_iff_eq, gz_iff]
  constructor
  · rintro ⟨h1, l, rfl, h2⟩
    exact ⟨l, rfl, by rw [ints_length] at h1; exact h1, h2⟩
  · rintro ⟨l, rfl, h1, h2⟩
    exact ⟨by rw [ints_length]; exact h1, l, rfl, h2⟩
end M
theorem pow10 {i : Nat} (h : i < 10) : 2 ^ i ≤ 512 := by
  have : 2 ^ i ≤ 2 ^ 9 := Nat.pow_le_pow_right (by omega) (by omega)
  omega

set_option maxRecDepth 100000 in
set_option maxHeartbeats 8000000 in
theorem good_over (h : List M.HOp) (p : Option Addr) (n cap : Nat) (zs : List Int) (q : Option Addr) (m capq : Nat) (w : World) (hl : h.length = n) (hk : HOk h) (hc : HasO (hz h) p w) (hlq : zs.length = m) (hmax : m ≤ maxLen) (hq : HasI zs q w) :
    Calls Try.prog 9 #[.slice p n cap, .slice q m capq, .bool true] w fun e w' => e = .returned (.bool (M.goodZ true h zs)) ∧ Below w.heap.size w w' := by
  unfold maxLen at hmax
  have hn10 := hk.len
  by_cases hmn : m = n
  · have HG : Hid (M.goodZ true h zs = M.gz true h 0 (fun _ => 0) zs) := by
      show _ = _
      unfold M.goodZ
      rw [hlq, hl, hmn]; simp
    have hd0 : ((m : Int) != (n : Int)) = false := by simp; omega
    obtain ⟨w1, hw1⟩ : ∃ w1, w.alloc (.cells (vaC 0 0 0) 38) = w1 := ⟨_, rfl⟩
    have hB1 : Below w.heap.size w w1 := hw1 ▸ bel_al (Below.refl _ _) _
    have b1 : Blk w1 w.heap.size (vaC 0 0 0) 38 := hw1 ▸ Blk.new _ _ _
    have hm10 : m ≤ 10 := by omega
    clear hmn
    go_enter Try.func9, Try.ntmps9
    go_wp2_with fail
    have HW1 : Hid (w.alloc (.cells #[.int .i64 0, .int .i64 0, .int .i64 0] 38) = w1) := hw1
    simp only [HW1.out]
    clear hw1
    go_loopw [8, 9] (fun sv kv wr => ∃ (k d x y z : Nat), kv = .int .i64 k ∧ sv = .int .i64 d ∧ k ≤ m ∧ d < 1024 ∧ Blk wr w.heap.size (vaC x y z) 38 ∧ Hid (M.gz true h 0 (fun _ => 0) zs = M.gz true h d (M.vf [x, y, z]) (zs.drop k)) ∧ Below w.heap.size w wr) (fun _ kv _ => m - (intOf kv).toNat)
    case atStart => exact ⟨0, 0, 0, 0, 0, rfl, rfl, Nat.zero_le _, by omega, b1, (show M.gz true h 0 (fun _ => 0) zs = _ by rw [List.drop_zero, show M.vf [0, 0, 0] = fun _ => 0 from M.vf_zero 3]), hB1⟩
    case round =>
      clear b1 hB1 HW1
      obtain ⟨k, d, x, y, z, rfl, rfl, hkm, hd, bv, hgz, hB⟩ := hrel
      obtain ⟨wo, hwo⟩ : ∃ wo, wo = wr := ⟨_, rfl⟩
      subst hwo
      by_cases hlt : k < m
      · obtain ⟨bq, oq, rfl, hbq, hcq⟩ := (hq.later hB) k (by omega)
        have hstep := @M.gz_drop true h d (M.vf [x, y, z]) zs k (by omega)
        obtain ⟨c, hcc⟩ : ∃ c, zs[k]?.getD 0 = c := ⟨_, rfl⟩
        rw [hcc] at hcq hstep
        have HST : Hid _ := hstep
        have hkmi : (k : Int) < (m : Int) := by omega
        clear hcc hstep
        by_cases hc0 : c < 0
        · have HF : Hid (M.goodZ true h zs = false) := by
            show _ = _
            rw [HG.out, hgz.out, HST.out, decide_eq_false (by omega), Bool.false_and, Bool.false_and]
          go_wp2_with fail
          go_ret
          exact ⟨by rw [HF.out]; rfl, hB⟩
        by_cases hcn : (n : Int) ≤ c
        · have HF : Hid (M.goodZ true h zs = false) := by
            show _ = _
            rw [HG.out, hgz.out, HST.out, decide_eq_false (by omega), Bool.false_and, Bool.false_and]
          go_wp2_with fail
          go_ret
          exact ⟨by rw [HF.out]; rfl, hB⟩
        obtain ⟨i, rfl⟩ : ∃ i : Nat, c = i := ⟨c.toNat, by omega⟩
        have hin : i < n := by omega
        have hini : (i : Int) < (n : Int) := by omega
        have hi0 : decide ((i : Int) < 0) = false := decide_eq_false (by omega)
        have hi1 : decide ((n : Int) ≤ (i : Int)) = false := decide_eq_false (by omega)
        have hi1n : decide (n ≤ i) = false := decide_eq_false (by omega)
        have HST2 : Hid (M.gz true h d (M.vf [x, y, z]) (zs.drop k) = (M.goB true h d (M.vf [x, y, z]) i && M.gz true h (d ||| 2 ^ i) (M.setv (M.vf [x, y, z]) (M.hop h i).ob (M.hop h i).va) (zs.drop (k + 1)))) := by
          show _ = _
          rw [HST.out, decide_eq_true (by omega), Bool.true_and, Int.toNat_natCast]
        have HFAIL : Hid (¬ M.Can true h d (M.vf [x, y, z]) i → M.goodZ true h zs = false) := fun hno => by
          rw [HG.out, hgz.out, HST2.out, go_no hno, Bool.false_and]
        clear hc0 hcn HST
        have hbit := fun W => bit_any d i W (by omega) (by omega)
        cases hbi : d.testBit i with
        | true =>
          have HF : Hid (M.goodZ true h zs = false) := HFAIL.out (fun cn => by have := cn.new; rw [hbi] at this; cases this)
          rw [hbi] at hbit
          clear hbi
          go_wp2_with fail
          refine (hbit _).mono ?_
          rintro e w3 ⟨rfl, rfl⟩
          go_wp2_with fail
          go_ret
          exact ⟨by rw [HF.out]; rfl, hB⟩
        | false =>
          rw [hbi] at hbit
          have HBI : Hid (d.testBit i = false) := hbi
          have hco := hc.later hB
          obtain ⟨b, off, rfl, hop⟩ := hco i (by rw [hz_len]; omega)
          rw [oAt_hzO] at hop
          have hob3 := hk.ob i
          have hva := hk.va i
          obtain ⟨A, hA⟩ : ∃ A, M.hop h i = A := ⟨_, rfl⟩
          have HA : Hid (M.hop h i = A) := hA
          rw [hA] at hop hob3
          obtain ⟨pr, ob, wt, va, fr, te⟩ := A
          have HOI : Hid (OpAt (hzO ⟨pr, ob, wt, va, fr, te⟩) b (off + i * 6) wo) := hop
          simp only at hob3
          clear hbi hA hop
          go_wp2_with fail
          refine (hbit _).mono ?_
          rintro e w3 ⟨rfl, rfl⟩
          clear hbit
          go_wp2_with fail
          go_loopw [11] (fun jv wr => ∃ j : Nat, jv = .int .i64 j ∧ j ≤ n ∧ Hid (∀ j', j' < j → M.aheadB true (M.hop h j') (M.hop h i) = true → d.testBit j' = true) ∧ Below wo.heap.size wo wr) (fun jv _ => n - (intOf jv).toNat)
          case atStart => exact ⟨0, rfl, Nat.zero_le _, fun j' h => absurd h (Nat.not_lt_zero _), Below.refl _ _⟩
          case round =>
            obtain ⟨j, rfl, hj, hzj, hBj⟩ := hrel
            have HBW : Hid (Below w.heap.size w wr) := hB.trans (hBj.mono hB.size)
            have hbv := bv.below hBj bv.lt
            have hcr := hco.later hBj
            obtain ⟨g0, k0, k1, k2, k3, k4, k5⟩ := HOI.out.later hBj HOI.out.lt
            simp only [hzO] at k0 k1 k2 k3 k4 k5
            by_cases hjn : j < n
            · obtain ⟨_, _, e0, hopj⟩ := hcr j (by rw [hz_len]; omega)
              cases e0
              rw [oAt_hzO] at hopj
              obtain ⟨J, hJ⟩ : ∃ J, M.hop h j = J := ⟨_, rfl⟩
              have HJ : Hid (M.hop h j = J) := hJ
              rw [hJ] at hopj
              obtain ⟨pj, oj, rj, vj, fj, tj⟩ := J
              simp only [hzO] at hopj
              obtain ⟨hbj, y0, y1, y2, y3, y4, y5⟩ := hopj
              have hjin : (j : Int) < (n : Int) := by omega
              have hbj9 := fun W => bit_any d j W (by omega) (by omega)
              clear hJ
              by_cases htf : tj ≤ fr
              · have hd1 : decide ((tj : Int) ≤ (fr : Int)) = true := decide_eq_true (by omega)
                have hd1n : decide (tj ≤ fr) = true := decide_eq_true htf
                have hah : M.aheadB true (M.hop h j) (M.hop h i) = true := by rw [HJ.out, HA.out]; unfold M.aheadB; rw [Bool.true_or, Bool.and_true]; exact decide_eq_true htf
                clear htf
                cases hb9 : d.testBit j with
                | true =>
                  have HZ : Hid (∀ j', j' < j + 1 → M.aheadB true (M.hop h j') (M.hop h i) = true → d.testBit j' = true) := fun j' hj' e => by
                    by_cases c : j' = j
                    · subst c; exact hb9
                    · exact hzj.out j' (by omega) e
                  rw [hb9] at hbj9
                  clear hb9 hah
                  go_wp2_with fail
                  go_big_quiet ((go_at_call 15; exact Calls.quiet_of_same ((hbj9 _).mono (fun e w' h => ⟨h.1, h.2.symm⟩))))
                  go_wp2_with fail
                  go_roundw
                  case rel => exact ⟨j + 1, by go_num, by omega, HZ, bel_drN hBj _⟩
                  case measure => simp [intOf]; omega
                | false =>
                  have HF : Hid (M.goodZ true h zs = false) := HFAIL.out (fun cn => by
                    have := cn.pre j (by omega) hah
                    rw [hb9] at this; cases this)
                  rw [hb9] at hbj9
                  clear hb9 hah
                  go_wp2_with fail
                  go_big_quiet ((go_at_call 15; exact Calls.quiet_of_same ((hbj9 _).mono (fun e w' h => ⟨h.1, h.2.symm⟩))))
                  go_wp2_with fail
                  go_ret
                  exact ⟨by rw [HF.out]; rfl, bel_drN HBW.out _⟩
              · have hd1 : decide ((tj : Int) ≤ (fr : Int)) = false := decide_eq_false (by omega)
                have hd1n : decide (tj ≤ fr) = false := decide_eq_false htf
                have hah : M.aheadB true (M.hop h j) (M.hop h i) = false := by rw [HJ.out, HA.out]; unfold M.aheadB; rw [Bool.true_or, Bool.and_true]; exact decide_eq_false htf
                have HZ : Hid (∀ j', j' < j + 1 → M.aheadB true (M.hop h j') (M.hop h i) = true → d.testBit j' = true) := fun j' hj' e => by
                  by_cases c : j' = j
                  · subst c; rw [hah] at e; cases e
                  · exact hzj.out j' (by omega) e
                clear htf hah
                go_wp2_with fail
                go_big_quiet (fail)
                go_wp2_with fail
                go_roundw
                case rel => exact ⟨j + 1, by go_num, by omega, HZ, bel_drN hBj _⟩
                case measure => simp [intOf]; omega
            · obtain rfl : j = n := by omega
              have HPRE : Hid (∀ j', j' < h.length → M.aheadB true (M.hop h j') (M.hop h i) = true → d.testBit j' = true) := fun j' hj' => hzj.out j' (by omega)
              obtain ⟨p2, hp2⟩ : ∃ p2, 2 ^ i = p2 := ⟨_, rfl⟩
              have HP2 : Hid (2 ^ i = p2) := hp2
              have hp2l : p2 ≤ 512 := by rw [← hp2]; exact pow10 (by omega)
              obtain ⟨x0, hx0⟩ : ∃ q, M.vf [x, y, z] ob = q := ⟨_, rfl⟩
              have HX : Hid (M.vf [x, y, z] ob = x0) := hx0
              have e7 := hbv.cell ob
              rw [vaC_get x y z ob hob3, hx0] at e7
              have f7 := hbv.frozen ob
              have hob9 : (ob : Int) < 3 := by omega
              have hcall := fun W => pow2_any i p2 W (by omega) HP2
              have hbvl := hbv.lt
              clear hp2 hx0 hzj
              by_cases hwx : wt = 0 ∧ x0 ≠ va
              · have HF : Hid (M.goodZ true h zs = false) := HFAIL.out (fun cn => by
                  have := cn.rd
                  rw [HA.out] at this
                  have := this hwx.1
                  simp only at this
                  rw [HX.out] at this
                  exact hwx.2 this)
                have hd2 : ((wt : Int) == 0) = true := by rw [hwx.1]; rfl
                have hd3 : ((x0 : Int) != (va : Int)) = true := by simpa using (fun e => hwx.2 (by omega) : ¬ (x0 : Int) = va)
                clear hwx
                go_wp2_with fail
                refine (hcall _).mono ?_
                rintro e w3 ⟨rfl, rfl⟩
                go_wp2_with fail
                go_big_quiet (fail)
                go_wp2_with fail
                go_ret
                exact ⟨by rw [HF.out]; rfl, bel_drN HBW.out _⟩
              · have HRD : Hid (wt = 0 → x0 = va) := fun e => by
                  apply Classical.byContradiction
                  intro hne
                  exact hwx ⟨e, hne⟩
                have HCAN : Hid (M.goB true h d (M.vf [x, y, z]) i = true) := M.goB_iff.2 ⟨HBI.out, HPRE.out, fun e => by
                  rw [HA.out] at e ⊢
                  simp only at e ⊢
                  rw [HX.out]
                  exact HRD.out e⟩
                have HNX : Hid (M.gz true h 0 (fun _ => 0) zs = M.gz true h (d + p2) (M.vf [nv ob va 0 x, nv ob va 1 y, nv ob va 2 z]) (zs.drop (k + 1))) := by
                  show _ = _
                  rw [hgz.out, HST2.out, HCAN.out, Bool.true_and, HA.out, vf_nv x y z ob va hob3, ← HP2.out, add_pow_or d i HBI.out, Nat.one_shiftLeft]
                have HD2 : Hid (d + p2 < 1024) := by
                  show _ < _
                  rw [← HP2.out, add_pow_or d i HBI.out, Nat.one_shiftLeft]
                  exact or_lt hd (by omega)
                by_cases hw0 : wt = 0
                · have hd2 : ((wt : Int) == 0) = true := by rw [hw0]; rfl
                  have hd3 : ((x0 : Int) != (va : Int)) = false := by have := HRD.out hw0; simp; omega
                  clear hw0 hwx
                  go_wp2_with fail
                  refine (hcall _).mono ?_
                  rintro e w3 ⟨rfl, rfl⟩
                  go_wp2_with fail
                  go_big_quiet (fail)
                  go_wp2_with fail
                  obtain ⟨wq, hwq⟩ : ∃ wq, wr.drewN nq = wq := ⟨_, rfl⟩
                  have hBq : Below wr.heap.size wr wq := hwq ▸ bel_drN (Below.refl _ _) _
                  simp only [hwq]
                  clear k0 k1 k2 k3 k4 k5 e7 f7 hwq
                  have hbq := hbv.below hBq hbv.lt
                  have e7 := hbq.cell ob
                  rw [vaC_get x y z ob hob3, HX.out] at e7
                  have f7 := hbq.frozen ob
                  obtain ⟨g0, k0, k1, k2, k3, k4, k5⟩ := (HOI.out.later hBj HOI.out.lt).later hBq g0
                  simp only [hzO] at k0 k1 k2 k3 k4 k5
                  have HB1 : Hid (Below w.heap.size w (wq.setCell ⟨w.heap.size, ob, none⟩ (.int .i64 (va : Nat)))) := (HBW.out.trans (hBq.mono HBW.out.size)).setCell (p := ⟨w.heap.size, ob, none⟩) (Nat.le_refl _) _
                  have HV1 : Hid (Blk (wq.setCell ⟨w.heap.size, ob, none⟩ (.int .i64 (va : Nat))) w.heap.size (vaC (nv ob va 0 x) (nv ob va 1 y) (nv ob va 2 z)) 38) := by
                    show Blk _ _ _ _
                    rw [← vaC_set x y z ob va hob3]; exact hbq.set ob _
                  clear hbq
                  go_region
                  go_wp2_with fail
                  go_roundw
                  case rel => exact ⟨k + 1, d + p2, nv ob va 0 x, nv ob va 1 y, nv ob va 2 z, by go_num, by go_num, by omega, HD2.out, HV1.out.below (by repeat first | exact Below.refl _ _ | apply bel_drN | apply Below.drew) HV1.out.lt, HNX, (by repeat first | exact HB1.out | apply bel_drN | apply Below.drew)⟩
                  case measure => simp [intOf]; omega
                · have hd2 : ((wt : Int) == 0) = false := by simp; omega
                  clear hw0 hwx
                  go_wp2_with fail
                  refine (hcall _).mono ?_
                  rintro e w3 ⟨rfl, rfl⟩
                  go_wp2_with fail
                  go_big_quiet (fail)
                  go_wp2_with fail
                  obtain ⟨wq, hwq⟩ : ∃ wq, wr.drewN nq = wq := ⟨_, rfl⟩
                  have hBq : Below wr.heap.size wr wq := hwq ▸ bel_drN (Below.refl _ _) _
                  simp only [hwq]
                  clear k0 k1 k2 k3 k4 k5 e7 f7 hwq
                  have hbq := hbv.below hBq hbv.lt
                  have e7 := hbq.cell ob
                  rw [vaC_get x y z ob hob3, HX.out] at e7
                  have f7 := hbq.frozen ob
                  obtain ⟨g0, k0, k1, k2, k3, k4, k5⟩ := (HOI.out.later hBj HOI.out.lt).later hBq g0
                  simp only [hzO] at k0 k1 k2 k3 k4 k5
                  have HB1 : Hid (Below w.heap.size w (wq.setCell ⟨w.heap.size, ob, none⟩ (.int .i64 (va : Nat)))) := (HBW.out.trans (hBq.mono HBW.out.size)).setCell (p := ⟨w.heap.size, ob, none⟩) (Nat.le_refl _) _
                  have HV1 : Hid (Blk (wq.setCell ⟨w.heap.size, ob, none⟩ (.int .i64 (va : Nat))) w.heap.size (vaC (nv ob va 0 x) (nv ob va 1 y) (nv ob va 2 z)) 38) := by
                    show Blk _ _ _ _
                    rw [← vaC_set x y z ob va hob3]; exact hbq.set ob _
                  clear hbq
                  go_region
                  go_wp2_with fail
                  go_roundw
                  case rel => exact ⟨k + 1, d + p2, nv ob va 0 x, nv ob va 1 y, nv ob va 2 z, by go_num, by go_num, by omega, HD2.out, HV1.out.below (by repeat first | exact Below.refl _ _ | apply bel_drN | apply Below.drew) HV1.out.lt, HNX, (by repeat first | exact HB1.out | apply bel_drN | apply Below.drew)⟩
                  case measure => simp [intOf]; omega
      · obtain rfl : k = m := by omega
        have HT : Hid (M.goodZ true h zs = true) := by
          show _ = _
          rw [HG.out, hgz.out, ← hlq, List.drop_length]; rfl
        go_wp2_with fail
        go_ret
        exact ⟨by rw [HT.out]; rfl, hB⟩
  · have HF : Hid (M.goodZ true h zs = false) := by
      show _ = _
      unfold M.goodZ
      rw [hlq, hl, show (m == n) = false by simpa using hmn, Bool.false_and]
    have hd0 : ((m : Int) != (n : Int)) = true := by simp; omega
    clear hmn
    go_enter Try.func9, Try.ntmps9
    go_wp2_with fail
    go_ret
    exact ⟨by rw [HF.out]; rfl, Below.refl _ _⟩

set_option maxRecDepth 100000 in
set_option maxHeartbeats 8000000 in
theorem good_there (h : List M.HOp) (p : Option Addr) (n cap : Nat) (zs : List Int) (q : Option Addr) (m capq : Nat) (w : World) (hl : h.length = n) (hk : HOk h) (hc : HasO (hz h) p w) (hlq : zs.length = m) (hmax : m ≤ maxLen) (hq : HasI zs q w) :
    Calls Try.prog 9 #[.slice p n cap, .slice q m capq, .bool false] w fun e w' => e = .returned (.bool (M.goodZ false h zs)) ∧ Below w.heap.size w w' := by
  unfold maxLen at hmax
  have hn10 := hk.len
  by_cases hmn : m = n
  · have HG : Hid (M.goodZ false h zs = M.gz false h 0 (fun _ => 0) zs) := by
      show _ = _
      unfold M.goodZ
      rw [hlq, hl, hmn]; simp
    have hd0 : ((m : Int) != (n : Int)) = false := by simp; omega
    obtain ⟨w1, hw1⟩ : ∃ w1, w.alloc (.cells (vaC 0 0 0) 38) = w1 := ⟨_, rfl⟩
    have hB1 : Below w.heap.size w w1 := hw1 ▸ bel_al (Below.refl _ _) _
    have b1 : Blk w1 w.heap.size (vaC 0 0 0) 38 := hw1 ▸ Blk.new _ _ _
    have hm10 : m ≤ 10 := by omega
    clear hmn
    go_enter Try.func9, Try.ntmps9
    go_wp2_with fail
    have HW1 : Hid (w.alloc (.cells #[.int .i64 0, .int .i64 0, .int .i64 0] 38) = w1) := hw1
    simp only [HW1.out]
    clear hw1
    go_loopw [8, 9] (fun sv kv wr => ∃ (k d x y z : Nat), kv = .int .i64 k ∧ sv = .int .i64 d ∧ k ≤ m ∧ d < 1024 ∧ Blk wr w.heap.size (vaC x y z) 38 ∧ Hid (M.gz false h 0 (fun _ => 0) zs = M.gz false h d (M.vf [x, y, z]) (zs.drop k)) ∧ Below w.heap.size w wr) (fun _ kv _ => m - (intOf kv).toNat)
    case atStart => exact ⟨0, 0, 0, 0, 0, rfl, rfl, Nat.zero_le _, by omega, b1, (show M.gz false h 0 (fun _ => 0) zs = _ by rw [List.drop_zero, show M.vf [0, 0, 0] = fun _ => 0 from M.vf_zero 3]), hB1⟩
    case round =>
      clear b1 hB1 HW1
      obtain ⟨k, d, x, y, z, rfl, rfl, hkm, hd, bv, hgz, hB⟩ := hrel
      obtain ⟨wo, hwo⟩ : ∃ wo, wo = wr := ⟨_, rfl⟩
      subst hwo
      by_cases hlt : k < m
      · obtain ⟨bq, oq, rfl, hbq, hcq⟩ := (hq.later hB) k (by omega)
        have hstep := @M.gz_drop false h d (M.vf [x, y, z]) zs k (by omega)
        obtain ⟨c, hcc⟩ : ∃ c, zs[k]?.getD 0 = c := ⟨_, rfl⟩
        rw [hcc] at hcq hstep
        have HST : Hid _ := hstep
        have hkmi : (k : Int) < (m : Int) := by omega
        clear hcc hstep
        by_cases hc0 : c < 0
        · have HF : Hid (M.goodZ false h zs = false) := by
            show _ = _
            rw [HG.out, hgz.out, HST.out, decide_eq_false (by omega), Bool.false_and, Bool.false_and]
          go_wp2_with fail
          go_ret
          exact ⟨by rw [HF.out]; rfl, hB⟩
        by_cases hcn : (n : Int) ≤ c
        · have HF : Hid (M.goodZ false h zs = false) := by
            show _ = _
            rw [HG.out, hgz.out, HST.out, decide_eq_false (by omega), Bool.false_and, Bool.false_and]
          go_wp2_with fail
          go_ret
          exact ⟨by rw [HF.out]; rfl, hB⟩
        obtain ⟨i, rfl⟩ : ∃ i : Nat, c = i := ⟨c.toNat, by omega⟩
        have hin : i < n := by omega
        have hini : (i : Int) < (n : Int) := by omega
        have hi0 : decide ((i : Int) < 0) = false := decide_eq_false (by omega)
        have hi1 : decide ((n : Int) ≤ (i : Int)) = false := decide_eq_false (by omega)
        have hi1n : decide (n ≤ i) = false := decide_eq_false (by omega)
        have HST2 : Hid (M.gz false h d (M.vf [x, y, z]) (zs.drop k) = (M.goB false h d (M.vf [x, y, z]) i && M.gz false h (d ||| 2 ^ i) (M.setv (M.vf [x, y, z]) (M.hop h i).ob (M.hop h i).va) (zs.drop (k + 1)))) := by
          show _ = _
          rw [HST.out, decide_eq_true (by omega), Bool.true_and, Int.toNat_natCast]
        have HFAIL : Hid (¬ M.Can false h d (M.vf [x, y, z]) i → M.goodZ false h zs = false) := fun hno => by
          rw [HG.out, hgz.out, HST2.out, go_no hno, Bool.false_and]
        clear hc0 hcn HST
        have hbit := fun W => bit_any d i W (by omega) (by omega)
        cases hbi : d.testBit i with
        | true =>
          have HF : Hid (M.goodZ false h zs = false) := HFAIL.out (fun cn => by have := cn.new; rw [hbi] at this; cases this)
          rw [hbi] at hbit
          clear hbi
          go_wp2_with fail
          refine (hbit _).mono ?_
          rintro e w3 ⟨rfl, rfl⟩
          go_wp2_with fail
          go_ret
          exact ⟨by rw [HF.out]; rfl, hB⟩
        | false =>
          rw [hbi] at hbit
          have HBI : Hid (d.testBit i = false) := hbi
          have hco := hc.later hB
          obtain ⟨b, off, rfl, hop⟩ := hco i (by rw [hz_len]; omega)
          rw [oAt_hzO] at hop
          have hob3 := hk.ob i
          have hva := hk.va i
          obtain ⟨A, hA⟩ : ∃ A, M.hop h i = A := ⟨_, rfl⟩
          have HA : Hid (M.hop h i = A) := hA
          rw [hA] at hop hob3
          obtain ⟨pr, ob, wt, va, fr, te⟩ := A
          have HOI : Hid (OpAt (hzO ⟨pr, ob, wt, va, fr, te⟩) b (off + i * 6) wo) := hop
          simp only at hob3
          clear hbi hA hop
          go_wp2_with fail
          refine (hbit _).mono ?_
          rintro e w3 ⟨rfl, rfl⟩
          clear hbit
          go_wp2_with fail
          go_loopw [11] (fun jv wr => ∃ j : Nat, jv = .int .i64 j ∧ j ≤ n ∧ Hid (∀ j', j' < j → M.aheadB false (M.hop h j') (M.hop h i) = true → d.testBit j' = true) ∧ Below wo.heap.size wo wr) (fun jv _ => n - (intOf jv).toNat)
          case atStart => exact ⟨0, rfl, Nat.zero_le _, fun j' h => absurd h (Nat.not_lt_zero _), Below.refl _ _⟩
          case round =>
            obtain ⟨j, rfl, hj, hzj, hBj⟩ := hrel
            have HBW : Hid (Below w.heap.size w wr) := hB.trans (hBj.mono hB.size)
            have hbv := bv.below hBj bv.lt
            have hcr := hco.later hBj
            obtain ⟨g0, k0, k1, k2, k3, k4, k5⟩ := HOI.out.later hBj HOI.out.lt
            simp only [hzO] at k0 k1 k2 k3 k4 k5
            by_cases hjn : j < n
            · obtain ⟨_, _, e0, hopj⟩ := hcr j (by rw [hz_len]; omega)
              cases e0
              rw [oAt_hzO] at hopj
              obtain ⟨J, hJ⟩ : ∃ J, M.hop h j = J := ⟨_, rfl⟩
              have HJ : Hid (M.hop h j = J) := hJ
              rw [hJ] at hopj
              obtain ⟨pj, oj, rj, vj, fj, tj⟩ := J
              simp only [hzO] at hopj
              obtain ⟨hbj, y0, y1, y2, y3, y4, y5⟩ := hopj
              have hjin : (j : Int) < (n : Int) := by omega
              have hbj9 := fun W => bit_any d j W (by omega) (by omega)
              clear hJ
              by_cases htf : tj ≤ fr
              · have hd1 : decide ((tj : Int) ≤ (fr : Int)) = true := decide_eq_true (by omega)
                have hd1n : decide (tj ≤ fr) = true := decide_eq_true htf
                by_cases hpe : pj = pr
                · have hd5 : ((pj : Int) == (pr : Int)) = true := by simp; omega
                  have hd5n : (pj == pr) = true := by simpa using hpe
                  have hah : M.aheadB false (M.hop h j) (M.hop h i) = true := by rw [HJ.out, HA.out]; unfold M.aheadB; rw [Bool.false_or, show decide (tj ≤ fr) = true from decide_eq_true htf, Bool.true_and]; simpa using hpe
                  clear hpe
                  clear htf
                  cases hb9 : d.testBit j with
                  | true =>
                    have HZ : Hid (∀ j', j' < j + 1 → M.aheadB false (M.hop h j') (M.hop h i) = true → d.testBit j' = true) := fun j' hj' e => by
                      by_cases c : j' = j
                      · subst c; exact hb9
                      · exact hzj.out j' (by omega) e
                    rw [hb9] at hbj9
                    clear hb9 hah
                    go_wp2_with fail
                    go_big_quiet ((go_at_call 15; exact Calls.quiet_of_same ((hbj9 _).mono (fun e w' h => ⟨h.1, h.2.symm⟩))))
                    go_wp2_with fail
                    go_roundw
                    case rel => exact ⟨j + 1, by go_num, by omega, HZ, bel_drN hBj _⟩
                    case measure => simp [intOf]; omega
                  | false =>
                    have HF : Hid (M.goodZ false h zs = false) := HFAIL.out (fun cn => by
                      have := cn.pre j (by omega) hah
                      rw [hb9] at this; cases this)
                    rw [hb9] at hbj9
                    clear hb9 hah
                    go_wp2_with fail
                    go_big_quiet ((go_at_call 15; exact Calls.quiet_of_same ((hbj9 _).mono (fun e w' h => ⟨h.1, h.2.symm⟩))))
                    go_wp2_with fail
                    go_ret
                    exact ⟨by rw [HF.out]; rfl, bel_drN HBW.out _⟩
                · have hd5 : ((pj : Int) == (pr : Int)) = false := by simp; omega
                  have hd5n : (pj == pr) = false := by simpa using hpe
                  have hah : M.aheadB false (M.hop h j) (M.hop h i) = false := by rw [HJ.out, HA.out]; unfold M.aheadB; rw [Bool.false_or, show decide (tj ≤ fr) = true from decide_eq_true htf, Bool.true_and]; simpa using hpe
                  clear hpe
                  have HZ : Hid (∀ j', j' < j + 1 → M.aheadB false (M.hop h j') (M.hop h i) = true → d.testBit j' = true) := fun j' hj' e => by
                    by_cases c : j' = j
                    · subst c; rw [hah] at e; cases e
                    · exact hzj.out j' (by omega) e
                  clear htf hah
                  go_wp2_with fail
                  go_big_quiet (fail)
                  go_wp2_with fail
                  go_roundw
                  case rel => exact ⟨j + 1, by go_num, by omega, HZ, bel_drN hBj _⟩
                  case measure => simp [intOf]; omega
              · have hd1 : decide ((tj : Int) ≤ (fr : Int)) = false := decide_eq_false (by omega)
                have hd1n : decide (tj ≤ fr) = false := decide_eq_false htf
                have hah : M.aheadB false (M.hop h j) (M.hop h i) = false := by rw [HJ.out, HA.out]; unfold M.aheadB; rw [show decide (tj ≤ fr) = false from decide_eq_false htf, Bool.false_and]
                have HZ : Hid (∀ j', j' < j + 1 → M.aheadB false (M.hop h j') (M.hop h i) = true → d.testBit j' = true) := fun j' hj' e => by
                  by_cases c : j' = j
                  · subst c; rw [hah] at e; cases e
                  · exact hzj.out j' (by omega) e
                clear htf hah
                go_wp2_with fail
                go_big_quiet (fail)
                go_wp2_with fail
                go_roundw
                case rel => exact ⟨j + 1, by go_num, by omega, HZ, bel_drN hBj _⟩
                case measure => simp [intOf]; omega
            · obtain rfl : j = n := by omega
              have HPRE : Hid (∀ j', j' < h.length → M.aheadB false (M.hop h j') (M.hop h i) = true → d.testBit j' = true) := fun j' hj' => hzj.out j' (by omega)
              obtain ⟨p2, hp2⟩ : ∃ p2, 2 ^ i = p2 := ⟨_, rfl⟩
              have HP2 : Hid (2 ^ i = p2) := hp2
              have hp2l : p2 ≤ 512 := by rw [← hp2]; exact pow10 (by omega)
              obtain ⟨x0, hx0⟩ : ∃ q, M.vf [x, y, z] ob = q := ⟨_, rfl⟩
              have HX : Hid (M.vf [x, y, z] ob = x0) := hx0
              have e7 := hbv.cell ob
              rw [vaC_get x y z ob hob3, hx0] at e7
              have f7 := hbv.frozen ob
              have hob9 : (ob : Int) < 3 := by omega
              have hcall := fun W => pow2_any i p2 W (by omega) HP2
              have hbvl := hbv.lt
              clear hp2 hx0 hzj
              by_cases hwx : wt = 0 ∧ x0 ≠ va
              · have HF : Hid (M.goodZ false h zs = false) := HFAIL.out (fun cn => by
                  have := cn.rd
                  rw [HA.out] at this
                  have := this hwx.1
                  simp only at this
                  rw [HX.out] at this
                  exact hwx.2 this)
                have hd2 : ((wt : Int) == 0) = true := by rw [hwx.1]; rfl
                have hd3 : ((x0 : Int) != (va : Int)) = true := by simpa using (fun e => hwx.2 (by omega) : ¬ (x0 : Int) = va)
                clear hwx
                go_wp2_with fail
                refine (hcall _).mono ?_
                rintro e w3 ⟨rfl, rfl⟩
                go_wp2_with fail
                go_big_quiet (fail)
                go_wp2_with fail
                go_ret
                exact ⟨by rw [HF.out]; rfl, bel_drN HBW.out _⟩
              · have HRD : Hid (wt = 0 → x0 = va) := fun e => by
                  apply Classical.byContradiction
                  intro hne
                  exact hwx ⟨e, hne⟩
                have HCAN : Hid (M.goB false h d (M.vf [x, y, z]) i = true) := M.goB_iff.2 ⟨HBI.out, HPRE.out, fun e => by
                  rw [HA.out] at e ⊢
                  simp only at e ⊢
                  rw [HX.out]
                  exact HRD.out e⟩
                have HNX : Hid (M.gz false h 0 (fun _ => 0) zs = M.gz false h (d + p2) (M.vf [nv ob va 0 x, nv ob va 1 y, nv ob va 2 z]) (zs.drop (k + 1))) := by
                  show _ = _
                  rw [hgz.out, HST2.out, HCAN.out, Bool.true_and, HA.out, vf_nv x y z ob va hob3, ← HP2.out, add_pow_or d i HBI.out, Nat.one_shiftLeft]
                have HD2 : Hid (d + p2 < 1024) := by
                  show _ < _
                  rw [← HP2.out, add_pow_or d i HBI.out, Nat.one_shiftLeft]
                  exact or_lt hd (by omega)
                by_cases hw0 : wt = 0
                · have hd2 : ((wt : Int) == 0) = true := by rw [hw0]; rfl
                  have hd3 : ((x0 : Int) != (va : Int)) = false := by have := HRD.out hw0; simp; omega
                  clear hw0 hwx
                  go_wp2_with fail
                  refine (hcall _).mono ?_
                  rintro e w3 ⟨rfl, rfl⟩
                  go_wp2_with fail
                  go_big_quiet (fail)
                  go_wp2_with fail
                  obtain ⟨wq, hwq⟩ : ∃ wq, wr.drewN nq = wq := ⟨_, rfl⟩
                  have hBq : Below wr.heap.size wr wq := hwq ▸ bel_drN (Below.refl _ _) _
                  simp only [hwq]
                  clear k0 k1 k2 k3 k4 k5 e7 f7 hwq
                  have hbq := hbv.below hBq hbv.lt
                  have e7 := hbq.cell ob
                  rw [vaC_get x y z ob hob3, HX.out] at e7
                  have f7 := hbq.frozen ob
                  obtain ⟨g0, k0, k1, k2, k3, k4, k5⟩ := (HOI.out.later hBj HOI.out.lt).later hBq g0
                  simp only [hzO] at k0 k1 k2 k3 k4 k5
                  have HB1 : Hid (Below w.heap.size w (wq.setCell ⟨w.heap.size, ob, none⟩ (.int .i64 (va : Nat)))) := (HBW.out.trans (hBq.mono HBW.out.size)).setCell (p := ⟨w.heap.size, ob, none⟩) (Nat.le_refl _) _
                  have HV1 : Hid (Blk (wq.setCell ⟨w.heap.size, ob, none⟩ (.int .i64 (va : Nat))) w.heap.size (vaC (nv ob va 0 x) (nv ob va 1 y) (nv ob va 2 z)) 38) := by
                    show Blk _ _ _ _
                    rw [← vaC_set x y z ob va hob3]; exact hbq.set ob _
                  clear hbq
                  go_region
                  go_wp2_with fail
                  go_roundw
                  case rel => exact ⟨k + 1, d + p2, nv ob va 0 x, nv ob va 1 y, nv ob va 2 z, by go_num, by go_num, by omega, HD2.out, HV1.out.below (by repeat first | exact Below.refl _ _ | apply bel_drN | apply Below.drew) HV1.out.lt, HNX, (by repeat first | exact HB1.out | apply bel_drN | apply Below.drew)⟩
                  case measure => simp [intOf]; omega
                · have hd2 : ((wt : Int) == 0) = false := by simp; omega
                  clear hw0 hwx
                  go_wp2_with fail
                  refine (hcall _).mono ?_
                  rintro e w3 ⟨rfl, rfl⟩
                  go_wp2_with fail
                  go_big_quiet (fail)
                  go_wp2_with fail
                  obtain ⟨wq, hwq⟩ : ∃ wq, wr.drewN nq = wq := ⟨_, rfl⟩
                  have hBq : Below wr.heap.size wr wq := hwq ▸ bel_drN (Below.refl _ _) _
                  simp only [hwq]
                  clear k0 k1 k2 k3 k4 k5 e7 f7 hwq
                  have hbq := hbv.below hBq hbv.lt
                  have e7 := hbq.cell ob
                  rw [vaC_get x y z ob hob3, HX.out] at e7
                  have f7 := hbq.frozen ob
                  obtain ⟨g0, k0, k1, k2, k3, k4, k5⟩ := (HOI.out.later hBj HOI.out.lt).later hBq g0
                  simp only [hzO] at k0 k1 k2 k3 k4 k5
                  have HB1 : Hid (Below w.heap.size w (wq.setCell ⟨w.heap.size, ob, none⟩ (.int .i64 (va : Nat)))) := (HBW.out.trans (hBq.mono HBW.out.size)).setCell (p := ⟨w.heap.size, ob, none⟩) (Nat.le_refl _) _
                  have HV1 : Hid (Blk (wq.setCell ⟨w.heap.size, ob, none⟩ (.int .i64 (va : Nat))) w.heap.size (vaC (nv ob va 0 x) (nv ob va 1 y) (nv ob va 2 z)) 38) := by
                    show Blk _ _ _ _
                    rw [← vaC_set x y z ob va hob3]; exact hbq.set ob _
                  clear hbq
                  go_region
                  go_wp2_with fail
                  go_roundw
                  case rel => exact ⟨k + 1, d + p2, nv ob va 0 x, nv ob va 1 y, nv ob va 2 z, by go_num, by go_num, by omega, HD2.out, HV1.out.below (by repeat first | exact Below.refl _ _ | apply bel_drN | apply Below.drew) HV1.out.lt, HNX, (by repeat first | exact HB1.out | apply bel_drN | apply Below.drew)⟩
                  case measure => simp [intOf]; omega
      · obtain rfl : k = m := by omega
        have HT : Hid (M.goodZ false h zs = true) := by
          show _ = _
          rw [HG.out, hgz.out, ← hlq, List.drop_length]; rfl
        go_wp2_with fail
        go_ret
        exact ⟨by rw [HT.out]; rfl, hB⟩
  · have HF : Hid (M.goodZ false h zs = false) := by
      show _ = _
      unfold M.goodZ
      rw [hlq, hl, show (m == n) = false by simpa using hmn, Bool.false_and]
    have hd0 : ((m : Int) != (n : Int)) = true := by simp; omega
    clear hmn
    go_enter Try.func9, Try.ntmps9
    go_wp2_with fail
    go_ret
    exact ⟨by rw [HF.out]; rfl, Below.refl _ _⟩
end Go.Proofs.Ytcmlkioaclkgnaa
