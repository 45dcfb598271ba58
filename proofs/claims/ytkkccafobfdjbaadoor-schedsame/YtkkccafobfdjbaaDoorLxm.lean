/- ONE BEHIND THE OTHER IT IS THE SAME (law SchedSame), the walk. -/
import Derived.Test.YtkkccafobfdjbaaDoorLxr
import Derived.Test.YtkkccafobfdjbaaDoorSc4
import Derived.Test.YtkkccafobfdjbaaDoorRefBig
namespace Go.Proofs.YtkkccafobfdjbaaDoor
open Go.RowKit

theorem oI_map_none {a b : Option Nat} {f : Nat → Nat} (h : a.map f = b) (ha : a = none) : oI b = -1 := by
  subst h ha; rfl
theorem oI_map_some {a b : Option Nat} {f : Nat → Nat} {k : Nat} (h : a.map f = b) (ha : a = some k) : oI b = ((f k : Nat) : Int) := by
  subst h ha; rfl
theorem mem_take_next {L : List Nat} {k : Nat} (hk : k < L.length) (x : Nat) : x ∈ L.take (k + 1) ↔ x ∈ L.take k ∨ x = M.row L k := by
  rw [List.take_add_one, List.getElem?_eq_getElem hk, show M.row L k = L[k] by unfold M.row; rw [List.getElem?_eq_getElem hk]; rfl, List.mem_append]
  simp
theorem not_mem_take {L : List Nat} (hn : L.Nodup) {k : Nat} (hk : k < L.length) : ¬ M.row L k ∈ L.take k := fun h => by
  rw [show M.row L k = L[k] by unfold M.row; rw [List.getElem?_eq_getElem hk]; rfl] at h
  obtain ⟨j, hj, e⟩ := List.getElem_of_mem h
  rw [List.length_take] at hj
  rw [List.getElem_take] at e
  exact List.pairwise_iff_getElem.1 hn j k (by omega) hk (by omega) e
theorem inRow_len (s : List M.SAct) (l : List Nat) : (M.inRow s l).length = l.length := by unfold M.inRow; rw [List.length_map]
theorem gst_oI {p : Nat → Bool} {n : Nat} : oI (M.gst p (n + 1)) = if p n then (n : Int) else oI (M.gst p n) := by
  show oI (if p n then some n else M.gst p n) = _
  split <;> rfl
theorem gst_oImap {p : Nat → Bool} {f : Nat → Nat} {n : Nat} : oI ((M.gst p (n + 1)).map f) = if p n then ((f n : Nat) : Int) else oI ((M.gst p n).map f) := by
  show oI ((if p n then some n else M.gst p n).map f) = _
  split <;> rfl
set_option maxRecDepth 100000 in
set_option maxHeartbeats 16000000 in
theorem xm_walk (zs : List Az) (p : Option Addr) (n cap : Nat) (w : World) (he : Env w) (hl : zs.length = n) (hmax : n ≤ maxLen) (hcap : n ≤ cap) (hc : HasAc zs p w) :
    Calls Tryd.prog 4 #[.slice p n cap] w fun e w' => e = .returned (.bool true) ∧ Below w.heap.size w w' := by
  obtain ⟨i0, hi0, hz0, hz1, hz2⟩ := infoAct_parts infoAct
  go_enter Tryd.func4, Tryd.ntmps4
  go_wp2_with fail
  refine (schedFact_ok _ he).mono ?_
  rintro e w1 ⟨rfl, hB1⟩
  have hc1 := hc.later hB1
  have he1 := he.later hB1
  by_cases h0 : acd zs = 0
  · obtain ⟨s, rfl, hk⟩ := acd_get h0
    rw [az_len] at hl
    have hn24 : n ≤ 24 := hl ▸ hk.len
    clear h0 hmax
    by_cases hr : M.Ring (M.edR s)
    · have hser := serial_ring s p n cap w1 he1 hl hk hcap hc1 hr
      clear hr
      go_wp2_with fail
      refine hser.mono ?_
      rintro e w2 ⟨rfl, hB2⟩
      have HB : Hid (Below w.heap.size w w2) := bel_on hB1 hB2
      clear hser hB1 hB2
      go_wp2_with fail
      go_ret
      exact ⟨rfl, HB.out⟩
    · have hser := serial_ok s p n cap w1 he1 hl hk hcap hc1 hr
      have hsr := (M.first_serR (M.edR_ok s) hr).1
      have hkp := M.first_keeps hk hr
      have hr5 : (M.firstR (M.turned (M.edR s))).length = 5 := by rw [M.firstR_length, M.turned_length, M.edR_len]
      have hr6 : ∀ x, x ∈ M.firstR (M.turned (M.edR s)) → x < 5 := fun x hx => by have := (hsr.mem x).1 hx; rwa [M.edR_len] at this
      have hrn := hsr.nd
      clear hr hsr
      obtain ⟨r, hrd⟩ : ∃ r, M.firstR (M.turned (M.edR s)) = r := ⟨_, rfl⟩
      rw [hrd] at hser hkp hr5 hr6 hrn
      clear hrd
      go_wp2_with fail
      refine hser.mono ?_
      rintro e w2 ⟨A, rfl, hrow, hA, hB2⟩
      have hc2 := hc1.later hB2
      have hC2 := bel_on hB1 hB2
      have hord := ordered_ok s r p (some ⟨A, 0, none⟩) n cap 5 w2 hl hk hc2 hr5 hrn hr6 (RowAt.hasI hrow)
      have hLlen : (M.ordd s r).length = n := by rw [hkp.len, hl]
      have hTK := fun k => @inRow_take s (M.ordd s r) k
      obtain ⟨L, hL⟩ : ∃ L, M.ordd s r = L := ⟨_, rfl⟩
      rw [hL] at hord hkp hTK hLlen
      rw [hLlen] at hord
      have HKP : Hid (M.Keeps s L) := hkp
      have HTK : Hid (∀ k, k < n → M.inRow s (L.take (k + 1)) = M.inRow s (L.take k) ++ [M.sat s (M.row L k)]) := fun k h => hTK k (by omega)
      have HLL : Hid (L.length = n) := hLlen
      have HLT : Hid (∀ k, k < n → M.row L k < n) := fun k h => by
        have := (hkp.mem (M.row L k)).1 (M.row_memS (by omega))
        omega
      clear hser hc1 he1 hB1 hB2 hrow hA hr5 hr6 hrn hL hTK hkp
      go_wp2_with fail
      refine hord.mono ?_
      rintro e w3 ⟨la, lc, rfl, hI3, hB3⟩
      have hc3 := hc2.later hB3
      have hC3 := bel_on hC2 hB3
      clear hord hc2 hC2 hB3
      go_wp2_with fail
      refine (reads_ok s p n cap w3 hl hk hcap hc3).mono ?_
      rintro e w4 ⟨A4, rfl, hrow4, hA4, hB4⟩
      have hc4 := hc3.later hB4
      have hI4 := hI3.later hB4
      have hC4 := bel_on hC3 hB4
      have hlc : (n == n) = true := beq_self_eq_true _
      have hne : ((n : Int) != (n : Int)) = false := by simp
      have hne' : (n != n) = false := by simp
      clear hc3 hI3 hC3 hB4 hA4
      go_wp2_with fail
      go_loopw [11, 12, 13] (fun pv dv v wr => ∃ k d : Nat, v = .int .i64 k ∧ dv = .int .i64 d ∧ k ≤ n ∧ d < 16777216 ∧ Hid (∀ x, d.testBit x = true ↔ x ∈ L.take k) ∧ Hid (wr.ownsRow w4.heap.size 45 3 pv k (acells (M.inRow s (L.take k)))) ∧ Below w4.heap.size w4 wr) (fun _ _ v _ => n - (intOf v).toNat)
      case atStart => exact ⟨0, 0, rfl, rfl, Nat.zero_le _, by omega, fun x => by simp, World.ownsRow_nil _ _ _ _, Below.refl _ _⟩
      case round =>
        obtain ⟨k, d, rfl, rfl, hkn, hd, hbits, hown, hB⟩ := hrel
        by_cases hkl : k < n
        · have hki : (k : Int) < (n : Int) := by omega
          obtain ⟨bl, ol, rfl, hbl, hcl⟩ := (hI4.later hB) k (by rw [ints_length, HLL.out]; exact hkl)
          rw [ints_get] at hcl
          have hxl := HLT.out k hkl
          have HT := HTK.out k hkl
          have hnm : ¬ M.row L k ∈ L.take k := not_mem_take HKP.out.nd (by rw [HLL.out]; exact hkl)
          have hmn := fun x => mem_take_next (L := L) (k := k) (by rw [HLL.out]; exact hkl) x
          obtain ⟨x, hx⟩ : ∃ x, M.row L k = x := ⟨_, rfl⟩
          rw [hx] at hcl hxl HT hnm
          simp only [hx] at hmn
          obtain ⟨ba, oa, rfl, hop⟩ := (hc4.later hB) x (by rw [az_len, hl]; exact hxl)
          rw [aAt_az] at hop
          obtain ⟨⟨T, I, W⟩, ha⟩ : ∃ a, M.sat s x = a := ⟨_, rfl⟩
          rw [ha] at hop HT
          have HTT : Hid (M.inRow s (L.take (k + 1)) = M.inRow s (L.take k) ++ [⟨T, I, W⟩]) := HT
          obtain ⟨hba, k0, k1, k2⟩ := hop
          simp only [azN] at k0 k1 k2
          have hxi : (x : Int) < (n : Int) := by omega
          have hx0 : decide ((x : Int) < 0) = false := decide_eq_false (by omega)
          have hx1 : decide ((n : Int) ≤ (x : Int)) = false := decide_eq_false (by omega)
          have hx2 : decide (n ≤ x) = false := decide_eq_false (by omega)
          have hszr := hB.size
          have hbf : d.testBit x = false := by
            cases e : d.testBit x with
            | false => rfl
            | true => exact absurd ((hbits.out x).1 e) hnm
          have hbit := fun W => bit_big d x W (by omega) (by omega)
          simp only [hbf] at hbit
          have hor := M.orPow hbf
          have hpl : 2 ^ x < 16777216 := Nat.pow_lt_pow_right (a := 2) (by omega) (show x < 24 by omega)
          have hdl : d ||| 1 <<< x < 16777216 := by
            refine Nat.or_lt_two_pow (n := 24) hd ?_
            rw [Nat.shiftLeft_eq, Nat.one_mul]; exact hpl
          have hbn : ∀ y, (d ||| 1 <<< x).testBit y = true ↔ y ∈ L.take (k + 1) := fun y => by
            rw [hmn, Nat.testBit_or, Bool.or_eq_true, hbits.out y]
            have e2 : (1 <<< x).testBit y = true ↔ y = x := by
              rw [Nat.shiftLeft_eq, Nat.one_mul, Nat.testBit_two_pow]
              simp [eq_comm]
            rw [e2]
          rw [hor] at hdl hbn
          obtain ⟨y, hy⟩ : ∃ y, 2 ^ x = y := ⟨_, rfl⟩
          have hpow := fun W => pow2_big x y W (by omega) hy
          rw [hy] at hdl hbn hpl
          obtain ⟨z, hzd⟩ : ∃ z, d + y = z := ⟨_, rfl⟩
          rw [hzd] at hdl hbn
          have hadd : (d : Int) + (y : Int) = (z : Int) := by omega
          have HBN : Hid (∀ x, z.testBit x = true ↔ x ∈ L.take (k + 1)) := hbn
          clear hx ha HT hmn hnm hbf hor hbits hbn hy hzd
          go_wp2_with fail
          refine (hbit _).mono ?_
          rintro e w5 ⟨rfl, rfl⟩
          go_wp2_with fail
          refine (hpow _).mono ?_
          rintro e w5 ⟨rfl, rfl⟩
          go_wp2_with (at_builtin; refine wpList_append_own _ rfl _ _ 22 rfl w4.heap.size 45 i0 (.agg #[.int .i64 0, .int .i64 0, .int .i64 0]) 3 24 Tryd.underlying22 hi0 hz0 hz1 hz2 rfl (by decide) _ _ _ rfl (hown.out.alloc _) ⟨wr.heap.size, 0, none⟩ 1 1 [.int .i64 (T : Nat), .int .i64 (I : Nat), .int .i64 (W : Nat)] rfl rfl (World.news_of_block (cs := #[.int .i64 (T : Nat), .int .i64 (I : Nat), .int .i64 (W : Nat)]) (t := 45) (fr := (0, 0)) (heap_alloc_new wr _)) (by simp [Value.oneCell']) (by unfold maxLen; omega) (by omega) (by simp; omega) ?_; intro v' w6 hown' hgrow _)
          have hB6 : Below w4.heap.size w4 w6 := (bel_al hB _).grown hgrow (by simp; omega) (fun j e => (hown.out.lt j e).1)
          have ho6 : Hid (w6.ownsRow w4.heap.size 45 3 v' (k + 1) (acells (M.inRow s (L.take (k + 1))))) := by
            show World.ownsRow _ _ _ _ _ _ _
            rw [HTT.out, acells_snoc]; exact hown'
          clear hown' hgrow hown k0 k1 k2
          go_wp2_with fail
          go_roundw
          case rel => exact ⟨k + 1, z, by go_num, by go_num, by omega, hdl, HBN, ho6, hB6⟩
          case measure => simp [intOf]; omega
        · obtain rfl : k = n := by omega
          have hall : L.take k = L := List.take_of_length_le (by rw [HLL.out]; exact Nat.le_refl _)
          rw [hall] at hown
          obtain ⟨pv, cv, rfl, hcv⟩ := owns_capA hown.out
          have hrl : (M.inRow s L).length = k := by rw [inRow_len, HLL.out]
          have hAcT := hasAc_of_owns hrl hown.out
          have hCw := bel_on hC4 hB
          have HTOK : Hid (M.AOk (M.inRow s L)) := inRow_aok hk (by rw [HLL.out]; exact hn24)
          have hrdT := reads_ok (M.inRow s L) pv k cv wr hrl HTOK.out hcv hAcT
          have hI5 := hI4.later hB
          have hc5 := hc4.later hB
          have hrow5 := (RowY.hasI hrow4).later hB
          clear hown hB hC4 hI4 hc4 hrow4 hall hbits hc
          go_wp2_with fail
          refine hrdT.mono ?_
          rintro e w7 ⟨A7, rfl, hrow7, -, hB7⟩
          have hI7 := hI5.later hB7
          have hc7 := hc5.later hB7
          have hs7 := hrow5.later hB7
          have hT7 := hAcT.later hB7
          have hb7 := RowY.hasI hrow7
          have HC7 : Hid (Below w.heap.size w w7) := bel_on hCw hB7
          clear hrdT hI5 hc5 hrow5 hAcT hrow7 hCw hB7
          go_wp2_with fail
          go_loop [16] (fun v => ∃ j : Nat, v = .int .i64 j ∧ j ≤ k) (fun v => k - (intOf v).toNat)
          case atStart => exact ⟨0, rfl, Nat.zero_le _⟩
          case round =>
            obtain ⟨j, rfl, hj⟩ := hrel
            by_cases hjk : j < k
            · have hji : (j : Int) < (k : Int) := by omega
              obtain ⟨bl, ol, rfl, hbl, hcl⟩ := hI7 j (by rw [ints_length, HLL.out]; exact hjk)
              rw [ints_get] at hcl
              have hxl := HLT.out j hjk
              have hsame := M.reads_same HKP.out (k := j) (by rw [HLL.out]; exact hjk)
              have hrb := rdZ_get (s := M.inRow s L) (i := j) (by rw [hrl]; exact hjk)
              obtain ⟨x, hx⟩ : ∃ x, M.row L j = x := ⟨_, rfl⟩
              rw [hx] at hcl hxl hsame
              have hra := rdZ_get (s := s) (i := x) (by rw [hl]; exact hxl)
              obtain ⟨bb, ob, e7, hbb, hcb⟩ := hb7 j (by rw [rdZ_len, hrl]; exact hjk)
              cases e7
              obtain ⟨bs, os, e8, hbs, hcs⟩ := hs7 x (by rw [rdZ_len, hl]; exact hxl)
              cases e8
              have hxi : (x : Int) < (k : Int) := by omega
              rw [hrb] at hcb
              rw [hra] at hcs
              rw [Nat.zero_add] at hcb hcs
              cases hg : M.rdO (M.inRow s L) j with
              | none =>
                rw [oI_map_none hsame hg] at hcs
                rw [hg, oI_none] at hcb
                clear hsame hra hrb hg hx hb7 hs7
                go_wp2_with fail
                go_round
                case rel => exact ⟨j + 1, by go_num, by omega⟩
                case measure => simp [intOf]; omega
              | some y =>
                have hyj := rdO_lt hg
                rw [oI_map_some hsame hg] at hcs
                rw [hg, oI_some] at hcb
                obtain ⟨bl2, ol2, e9, _, hcl2⟩ := hI7 y (by rw [ints_length, HLL.out]; omega)
                cases e9
                rw [ints_get] at hcl2
                obtain ⟨z, hz⟩ : ∃ z, M.row L y = z := ⟨_, rfl⟩
                rw [hz] at hcl2 hcs
                have hyi : (y : Int) < (k : Int) := by omega
                have hzz : ((z : Int) != (z : Int)) = false := by simp
                have hy0 : decide ((0 : Int) ≤ (y : Int)) = true := decide_eq_true (by omega)
                clear hsame hra hrb hg hx hb7 hs7 hz
                go_wp2_with fail
                go_round
                case rel => exact ⟨j + 1, by go_num, by omega⟩
                case measure => simp [intOf]; omega
            · obtain rfl : j = k := by omega
              clear hb7 hs7
              go_wp2_with fail
              go_loop [18] (fun v => ∃ o : Nat, v = .int .i64 o ∧ o ≤ 4) (fun v => 4 - (intOf v).toNat)
              case atStart => exact ⟨0, rfl, Nat.zero_le _⟩
              case round =>
                obtain ⟨o, rfl, ho⟩ := hrel
                by_cases ho4 : o < 4
                · have hoi : (o : Int) < 4 := by omega
                  have hlast := M.last_same HKP.out o
                  rw [HLL.out, hl] at hlast
                  have HLS : Hid (oI ((M.gst (M.wrB (M.inRow s L) o) j).map (M.row L)) = oI (M.gst (M.wrB s o) j)) := by show _ = _; rw [hlast]
                  clear hlast
                  go_wp2_with fail
                  go_loop [19, 20, 21] (fun u1 u2 v => ∃ i : Nat, v = .int .i64 i ∧ i ≤ j ∧ u1 = .int .i64 (oI (M.gst (M.wrB s o) i)) ∧ u2 = .int .i64 (oI ((M.gst (M.wrB (M.inRow s L) o) i).map (M.row L)))) (fun _ _ v => j - (intOf v).toNat)
                  case atStart => exact ⟨0, rfl, Nat.zero_le _, rfl, rfl⟩
                  case round =>
                    obtain ⟨i, rfl, hi, rfl, rfl⟩ := hrel
                    by_cases hij : i < j
                    · obtain ⟨bA, oA, rfl, hop⟩ := hc7 i (by rw [az_len, hl]; exact hij)
                      obtain ⟨bT, oT, rfl, hopT⟩ := hT7 i (by rw [az_len, hrl]; exact hij)
                      obtain ⟨bl, ol, rfl, hbl, hcl⟩ := hI7 i (by rw [ints_length, HLL.out]; exact hij)
                      rw [ints_get] at hcl
                      rw [aAt_az] at hop hopT
                      have hw1 : M.wrB s o i = ((M.sat s i).it == o && (M.sat s i).wr == 1) := rfl
                      have hw2 : M.wrB (M.inRow s L) o i = ((M.sat (M.inRow s L) i).it == o && (M.sat (M.inRow s L) i).wr == 1) := rfl
                      have hg1 := @gst_oI (M.wrB s o) i
                      have hg2 := @gst_oImap (M.wrB (M.inRow s L) o) (M.row L) i
                      obtain ⟨⟨T, I, W⟩, ha⟩ : ∃ a, M.sat s i = a := ⟨_, rfl⟩
                      obtain ⟨⟨T2, I2, W2⟩, ha2⟩ : ∃ a, M.sat (M.inRow s L) i = a := ⟨_, rfl⟩
                      rw [ha] at hop hw1
                      rw [ha2] at hopT hw2
                      obtain ⟨hbA, k0, k1, k2⟩ := hop
                      obtain ⟨hbT, f0, f1, f2⟩ := hopT
                      simp only [azN] at k0 k1 k2 f0 f1 f2
                      simp only at hw1 hw2
                      rw [hw1] at hg1
                      rw [hw2] at hg2
                      obtain ⟨x, hx⟩ : ∃ x, M.row L i = x := ⟨_, rfl⟩
                      rw [hx] at hcl hg2
                      obtain ⟨y1, hy1⟩ : ∃ y, oI (M.gst (M.wrB s o) i) = y := ⟨_, rfl⟩
                      obtain ⟨y2, hy2⟩ : ∃ y, oI ((M.gst (M.wrB (M.inRow s L) o) i).map (M.row L)) = y := ⟨_, rfl⟩
                      rw [hy1] at hg1 ⊢
                      rw [hy2] at hg2 ⊢
                      have hiji : (i : Int) < (j : Int) := by omega
                      clear hw1 hw2 ha ha2 hx hy1 hy2
                      by_cases a1 : I = o
                      · have da1 : ((I : Int) == (o : Int)) = true := by rw [a1]; exact beq_self_eq_true _
                        by_cases b1 : W = 1
                        · have db1 : ((W : Int) == 1) = true := by rw [b1]; rfl
                          have HG1 : Hid (oI (M.gst (M.wrB s o) (i + 1)) = (i : Int)) := by show _ = _; rw [hg1, a1, b1]; simp
                          clear hg1 a1 b1
                          by_cases a2 : I2 = o
                          · have da2 : ((I2 : Int) == (o : Int)) = true := by rw [a2]; exact beq_self_eq_true _
                            by_cases b2 : W2 = 1
                            · have db2 : ((W2 : Int) == 1) = true := by rw [b2]; rfl
                              have HG2 : Hid (oI ((M.gst (M.wrB (M.inRow s L) o) (i + 1)).map (M.row L)) = (x : Int)) := by show _ = _; rw [hg2, a2, b2]; simp
                              clear hg2 a2 b2
                              go_wp2_with fail
                              go_round
                              case rel => exact ⟨i + 1, by go_num, by omega, by rw [HG1.out], by rw [HG2.out]⟩
                              case measure => simp [intOf]; omega
                            · have db2 : ((W2 : Int) == 1) = false := by simpa using (by omega : ¬ (W2 : Int) = 1)
                              have HG2 : Hid (oI ((M.gst (M.wrB (M.inRow s L) o) (i + 1)).map (M.row L)) = y2) := by show _ = _; rw [hg2]; simp [b2]
                              clear hg2 a2 b2
                              go_wp2_with fail
                              go_round
                              case rel => exact ⟨i + 1, by go_num, by omega, by rw [HG1.out], by rw [HG2.out]⟩
                              case measure => simp [intOf]; omega
                          · have da2 : ((I2 : Int) == (o : Int)) = false := by simpa using (by omega : ¬ (I2 : Int) = (o : Int))
                            have HG2 : Hid (oI ((M.gst (M.wrB (M.inRow s L) o) (i + 1)).map (M.row L)) = y2) := by show _ = _; rw [hg2]; simp [a2]
                            clear hg2 a2
                            go_wp2_with fail
                            go_round
                            case rel => exact ⟨i + 1, by go_num, by omega, by rw [HG1.out], by rw [HG2.out]⟩
                            case measure => simp [intOf]; omega
                        · have db1 : ((W : Int) == 1) = false := by simpa using (by omega : ¬ (W : Int) = 1)
                          have HG1 : Hid (oI (M.gst (M.wrB s o) (i + 1)) = y1) := by show _ = _; rw [hg1]; simp [b1]
                          clear hg1 a1 b1
                          by_cases a2 : I2 = o
                          · have da2 : ((I2 : Int) == (o : Int)) = true := by rw [a2]; exact beq_self_eq_true _
                            by_cases b2 : W2 = 1
                            · have db2 : ((W2 : Int) == 1) = true := by rw [b2]; rfl
                              have HG2 : Hid (oI ((M.gst (M.wrB (M.inRow s L) o) (i + 1)).map (M.row L)) = (x : Int)) := by show _ = _; rw [hg2, a2, b2]; simp
                              clear hg2 a2 b2
                              go_wp2_with fail
                              go_round
                              case rel => exact ⟨i + 1, by go_num, by omega, by rw [HG1.out], by rw [HG2.out]⟩
                              case measure => simp [intOf]; omega
                            · have db2 : ((W2 : Int) == 1) = false := by simpa using (by omega : ¬ (W2 : Int) = 1)
                              have HG2 : Hid (oI ((M.gst (M.wrB (M.inRow s L) o) (i + 1)).map (M.row L)) = y2) := by show _ = _; rw [hg2]; simp [b2]
                              clear hg2 a2 b2
                              go_wp2_with fail
                              go_round
                              case rel => exact ⟨i + 1, by go_num, by omega, by rw [HG1.out], by rw [HG2.out]⟩
                              case measure => simp [intOf]; omega
                          · have da2 : ((I2 : Int) == (o : Int)) = false := by simpa using (by omega : ¬ (I2 : Int) = (o : Int))
                            have HG2 : Hid (oI ((M.gst (M.wrB (M.inRow s L) o) (i + 1)).map (M.row L)) = y2) := by show _ = _; rw [hg2]; simp [a2]
                            clear hg2 a2
                            go_wp2_with fail
                            go_round
                            case rel => exact ⟨i + 1, by go_num, by omega, by rw [HG1.out], by rw [HG2.out]⟩
                            case measure => simp [intOf]; omega
                      · have da1 : ((I : Int) == (o : Int)) = false := by simpa using (by omega : ¬ (I : Int) = (o : Int))
                        have HG1 : Hid (oI (M.gst (M.wrB s o) (i + 1)) = y1) := by show _ = _; rw [hg1]; simp [a1]
                        clear hg1 a1
                        by_cases a2 : I2 = o
                        · have da2 : ((I2 : Int) == (o : Int)) = true := by rw [a2]; exact beq_self_eq_true _
                          by_cases b2 : W2 = 1
                          · have db2 : ((W2 : Int) == 1) = true := by rw [b2]; rfl
                            have HG2 : Hid (oI ((M.gst (M.wrB (M.inRow s L) o) (i + 1)).map (M.row L)) = (x : Int)) := by show _ = _; rw [hg2, a2, b2]; simp
                            clear hg2 a2 b2
                            go_wp2_with fail
                            go_round
                            case rel => exact ⟨i + 1, by go_num, by omega, by rw [HG1.out], by rw [HG2.out]⟩
                            case measure => simp [intOf]; omega
                          · have db2 : ((W2 : Int) == 1) = false := by simpa using (by omega : ¬ (W2 : Int) = 1)
                            have HG2 : Hid (oI ((M.gst (M.wrB (M.inRow s L) o) (i + 1)).map (M.row L)) = y2) := by show _ = _; rw [hg2]; simp [b2]
                            clear hg2 a2 b2
                            go_wp2_with fail
                            go_round
                            case rel => exact ⟨i + 1, by go_num, by omega, by rw [HG1.out], by rw [HG2.out]⟩
                            case measure => simp [intOf]; omega
                        · have da2 : ((I2 : Int) == (o : Int)) = false := by simpa using (by omega : ¬ (I2 : Int) = (o : Int))
                          have HG2 : Hid (oI ((M.gst (M.wrB (M.inRow s L) o) (i + 1)).map (M.row L)) = y2) := by show _ = _; rw [hg2]; simp [a2]
                          clear hg2 a2
                          go_wp2_with fail
                          go_round
                          case rel => exact ⟨i + 1, by go_num, by omega, by rw [HG1.out], by rw [HG2.out]⟩
                          case measure => simp [intOf]; omega
                    · obtain rfl : i = j := by omega
                      have hzz : ∀ z : Int, (z != z) = false := fun z => by simp
                      rw [HLS.out]
                      obtain ⟨z, hz⟩ : ∃ z, oI (M.gst (M.wrB s o) i) = z := ⟨_, rfl⟩
                      rw [hz]
                      have hz9 := hzz z
                      clear hzz hz
                      go_wp2_with fail
                      go_round
                      case rel => exact ⟨o + 1, by go_num, by omega⟩
                      case measure => simp [intOf]; omega
                · obtain rfl : o = 4 := by omega
                  go_wp2_with fail
                  go_ret
                  exact ⟨rfl, HC7.out⟩
  · have hser := serial_err zs p n cap w1 hl hmax hc1 h0
    rw [terr_ne h0] at hser
    clear h0
    go_wp2_with fail
    refine hser.mono ?_
    rintro e w2 ⟨rfl, hB2⟩
    have HB : Hid (Below w.heap.size w w2) := bel_on hB1 hB2
    clear hser hB1 hB2
    go_wp2_with fail
    go_ret
    exact ⟨rfl, HB.out⟩
end Go.Proofs.YtkkccafobfdjbaaDoor
