/- Package sched, Edges: what is wrong, else of each transaction the set of those that must come behind it; what lay in memory lies as it lay. -/
import Derived.Test.YtlkdclifcmohlaaDoorScr
namespace Go.Proofs.YtlkdclifcmohlaaDoor
open Go.RowKit

set_option maxHeartbeats 1000000 in
theorem edges_err (zs : List Az) (p : Option Addr) (n cap : Nat) (w : World) (hl : zs.length = n) (hmax : n ≤ maxLen) (hc : HasAc zs p w) (hne : acd zs ≠ 0) :
    Calls Tryd.prog 16 #[.slice p n cap] w fun e w' => e = .returned (.tuple #[.slice none 0 0, terr (acd zs)]) ∧ Below w.heap.size w w' := by
  go_enter Tryd.func16, Tryd.ntmps16
  go_wp2_with fail
  refine (acheck_ok zs p n cap _ hl hmax hc).mono ?_
  rw [terr_ne hne]
  rintro e w1 ⟨rfl, hB⟩
  go_wp2_with fail
  go_ret2
  exact ⟨by rw [terr_ne hne]; rfl, hB⟩
set_option maxRecDepth 100000 in
set_option maxHeartbeats 4000000 in
theorem edges_ok (s : List M.SAct) (p : Option Addr) (n cap : Nat) (w : World) (hl : s.length = n) (hk : M.AOk s) (hcap : n ≤ cap) (hc : HasAc (az s) p w) :
    Calls Tryd.prog 16 #[.slice p n cap] w fun e w' => ∃ A, e = .returned (.tuple #[.slice (some ⟨A, 0, none⟩) 5 5, .nilIface]) ∧ RowAt 3 w' A (M.edR s) ∧ w.heap.size ≤ A ∧ Below w.heap.size w w' := by
  have hn24 : n ≤ 24 := by have := hk.len; omega
  have hmk0 := run_make_row' (P := Tryd.prog) 33 3 (.int .i64 0) 8 Tryd.underlying33 Tryd.info3 rfl .i64 .i64 5 (by omega) (by omega)
  rw [show ((5 : Nat) : Int) = 5 from rfl] at hmk0
  go_enter Tryd.func16, Tryd.ntmps16
  go_wp2_with fail
  refine (acheck_ok (az s) p n cap _ (by rw [az_len, hl]) (by unfold maxLen; omega) hc).mono ?_
  rw [acd_az hk, terr_zero]
  rintro e w1 ⟨rfl, hB1⟩
  have hc1 := hc.later hB1
  have hrow0 : RowAt 3 (w1.alloc (.cells (madeCells #[.int .i64 0] 5) 3)) w1.heap.size (List.replicate 5 0) := by
    unfold RowAt
    rw [World.alloc_heap_new, made_arr]
  have hB0 : Below w1.heap.size w1 (w1.alloc (.cells (madeCells #[.int .i64 0] 5) 3)) := bel_al (Below.refl _ _) _
  have HB1 : Hid (Below w.heap.size w w1) := hB1
  clear hB1 hc
  go_wp2_with fail
  go_loopw [18] (fun v wr => ∃ (i : Nat) (R : List Nat), v = .int .i64 i ∧ i ≤ n ∧ Hid (M.ER s (fun _ b => b < i) R) ∧ Hid (RowAt 3 wr w1.heap.size R) ∧ Below w1.heap.size w1 wr ∧ w1.heap.size < wr.heap.size) (fun v _ => n - (intOf v).toNat)
  case atStart => exact ⟨0, List.replicate 5 0, rfl, Nat.zero_le _, M.ER.zero (fun a b _ h => absurd h (Nat.not_lt_zero _)), hrow0, hB0, by simp⟩
  case round =>
    clear hrow0 hB0 hmk0
    obtain ⟨i, R, rfl, hi, hER, hrow, hB, hsz⟩ := hrel
    obtain ⟨wo, hwo⟩ : ∃ wo, wo = wr := ⟨_, rfl⟩
    subst hwo
    by_cases hlt : i < n
    · obtain ⟨b, off, rfl, hop⟩ := (hc1.later hB) i (by rw [az_len]; omega)
      rw [aAt_az] at hop
      obtain ⟨o, ho⟩ : ∃ o, azN (M.sat s i) = o := ⟨_, rfl⟩
      rw [ho] at hop
      have HO : Hid (azN (M.sat s i) = o) := ho
      obtain ⟨hb, k0, k1, k2⟩ := hop
      have hin : (i : Int) < (n : Int) := by omega
      have hi0 : (cap = 0) = False := by simp; omega
      have hci : decide ((i : Int) ≤ (cap : Int)) = true := decide_eq_true (by omega)
      have hci' : i ≤ cap := by omega
      have hHA : HasAc (az s) (some ⟨b, off, none⟩) wo := hc1.later hB
      have hkeep : Hid (∀ W, Below w1.heap.size w1 W → HasAc (az s) (some ⟨b, off, none⟩) W) := fun W h => hc1.later h
      clear ho hc1
      go_wp2_with fail
      obtain ⟨wa, hwa⟩ : ∃ wa, (wo.alloc (.cells #[.int .i64 o.tx, .int .i64 o.it, .int .i64 o.wt] 31)) = wa := ⟨_, rfl⟩
      have hoa : AcAt o wo.heap.size 0 wa := hwa ▸ acAt_new wo o
      have hBa : Below w1.heap.size w1 wa := hwa ▸ bel_al hB _
      have hBoa : Below wo.heap.size wo wa := hwa ▸ bel_al (Below.refl _ _) _
      have hra : Hid (RowAt 3 wa w1.heap.size R) := hwa ▸ hrow.out.alloc _
      have hHAa : HasAc (az s) (some ⟨b, off, none⟩) wa := hHA.later hBoa
      have hsa : w1.heap.size < wa.heap.size := by have := hBoa.size; omega
      have hER0 : Hid (M.ER s (fun x y => y < i ∨ (y = i ∧ x < 0)) R) := hER.out.congr (fun x y _ _ => by simp)
      simp only [hwa]
      clear hwa hHA k0 k1 k2 hb hER hrow hBoa
      go_loopw [27] (fun v wr => ∃ (j : Nat) (R : List Nat), v = .int .i64 j ∧ j ≤ i ∧ Hid (M.ER s (fun x y => y < i ∨ (y = i ∧ x < j)) R) ∧ Hid (RowAt 3 wr w1.heap.size R) ∧ Below w1.heap.size w1 wr ∧ Hid (AcAt o wo.heap.size 0 wr) ∧ wa.heap.size ≤ wr.heap.size ∧ Hid (HasAc (az s) (some ⟨b, off, none⟩) wr)) (fun v _ => i - (intOf v).toNat)
      case atStart => exact ⟨0, R, rfl, Nat.zero_le _, hER0, hra, hBa, hoa, Nat.le_refl _, hHAa⟩
      case round =>
        clear hER0 hra hBa hoa hHAa
        obtain ⟨j, R2, rfl, hj, hER2, hrow2, hB2, ho2, hsz2, hHA2⟩ := hrel
        by_cases hji : j < i
        · obtain ⟨b', off', e0, hop2⟩ := hHA2.out j (by rw [az_len]; omega)
          cases e0
          rw [aAt_az] at hop2
          obtain ⟨q, hq⟩ : ∃ q, azN (M.sat s j) = q := ⟨_, rfl⟩
          rw [hq] at hop2
          have HQ : Hid (azN (M.sat s j) = q) := hq
          obtain ⟨hb9, k0, k1, k2⟩ := hop2
          obtain ⟨g0, e0, e1, e2⟩ := ho2.out
          simp only [Nat.zero_add] at e0 e1 e2
          have hjin : (j : Int) < (i : Int) := by omega
          have hbw : b < w1.heap.size ∨ w1.heap.size ≤ b := by omega
          clear hq
          have hstay := fun W => mustStay_ok q o W
          have hms : M.msB (M.sat s j) (M.sat s i) = mzB q o := by rw [← HQ.out, ← HO.out]; exact (mzB_az _ _).symm
          obtain ⟨m, hm⟩ : ∃ m, mzB q o = m := ⟨_, rfl⟩
          simp only [hm] at hstay
          rw [hm] at hms
          have HMS : Hid (M.msB (M.sat s j) (M.sat s i) = m) := hms
          clear hm hms
          cases m with
          | false =>
            have HN : Hid (M.ER s (fun x y => y < i ∨ (y = i ∧ x < j + 1)) R2) := hER2.out.miss (a := j) (b := i) HMS.out (fun x y _ => by omega)
            go_wp2_with fail
            obtain ⟨wb, hwb⟩ : ∃ wb, (wr.alloc (.cells #[.int .i64 q.tx, .int .i64 q.it, .int .i64 q.wt] 31)) = wb := ⟨_, rfl⟩
            have hBb : Below wr.heap.size wr wb := hwb ▸ bel_al (Below.refl _ _) _
            simp only [hwb]
            refine (hstay _).mono ?_
            rintro e w4 ⟨rfl, hB4⟩
            have hB5 : Below wr.heap.size wr w4 := hBb.trans (hB4.mono hBb.size)
            have hrow4 : Hid (RowAt 3 w4 w1.heap.size R2) := hrow2.out.below hB5 hrow2.out.lt
            have ho4 : Hid (AcAt o wo.heap.size 0 w4) := ho2.out.later hB5 ho2.out.lt
            have hHA4 : Hid (HasAc (az s) (some ⟨b, off, none⟩) w4) := hHA2.out.later hB5
            have hB6 : Below w1.heap.size w1 w4 := bel_on hB2 hB5
            have hs4 : wa.heap.size ≤ w4.heap.size := by have := hB5.size; omega
            clear hstay k0 k1 k2 e0 e1 e2 hwb
            go_wp2_with fail
            go_roundw
            case rel => exact ⟨j + 1, R2, by go_num, by omega, HN, hrow4, hB6, ho4, hs4, hHA4⟩
            case measure => simp [intOf]; omega
          | true =>
            have hER3 := hER2.out.hit (a := j) (b := i) (Q' := fun x y => y < i ∨ (y = i ∧ x < j + 1)) hk hji (by omega) HMS.out (fun x y _ => by omega)
            have ht1 := hk.tx j
            have ht2 := hk.tx i
            have hql : q.tx = ((M.sat s j).tx : Int) := by rw [← HQ.out]; rfl
            have hol : o.tx = ((M.sat s i).tx : Int) := by rw [← HO.out]; rfl
            have hrl := hER2.out.lt hk
            have hrlen := hER2.out.len
            obtain ⟨t, ht⟩ : ∃ t, (M.sat s j).tx = t := ⟨_, rfl⟩
            obtain ⟨u, hu⟩ : ∃ u, (M.sat s i).tx = u := ⟨_, rfl⟩
            rw [ht] at ht1 hql hER3
            rw [hu] at ht2 hol hER3
            have hrt := hrl t
            have HN : Hid (M.ER s (fun x y => y < i ∨ (y = i ∧ x < j + 1)) (M.more R2 t u)) := hER3
            have HMR : Hid (M.more R2 t u = R2.set t (M.row R2 t ||| 1 <<< u)) := (rfl : M.more R2 t u = R2.set t (M.row R2 t ||| 1 <<< u))
            have hsh : IntKind.i64.wrap (2 ^ u) = ((1 <<< u : Nat) : Int) := i64_shl u (by omega)
            have hjp : 1 <<< u < 65536 := by rw [Nat.shiftLeft_eq, Nat.one_mul]; have := pow_lt u (by omega); omega
            obtain ⟨r, hr⟩ : ∃ r, M.row R2 t = r := ⟨_, rfl⟩
            rw [hr] at hrt HMR
            have hor := i64_or_nat r (1 <<< u) (by omega) hjp
            obtain ⟨y, hy⟩ : ∃ y : Nat, 1 <<< u = y := ⟨_, rfl⟩
            rw [hy] at hsh hor HMR
            obtain ⟨z, hz⟩ : ∃ z : Nat, r ||| y = z := ⟨_, rfl⟩
            rw [hz] at hor HMR
            clear hER3 hrl hjp hy hz ht hu
            have HR : Hid (M.row R2 t = r) := hr
            have HQL : Hid (q.tx = (t : Int)) := hql
            have HOL : Hid (o.tx = (u : Int)) := hol
            clear hr hql hol
            go_wp2_with fail
            obtain ⟨wb, hwb⟩ : ∃ wb, (wr.alloc (.cells #[.int .i64 q.tx, .int .i64 q.it, .int .i64 q.wt] 31)) = wb := ⟨_, rfl⟩
            have hBb : Below wr.heap.size wr wb := hwb ▸ bel_al (Below.refl _ _) _
            have hqb : AcAt q wr.heap.size 0 wb := hwb ▸ acAt_new wr q
            simp only [hwb]
            refine (hstay _).mono ?_
            rintro e w4 ⟨rfl, hB4⟩
            have hB5 : Below wr.heap.size wr w4 := hBb.trans (hB4.mono hBb.size)
            have hrow4 := hrow2.out.below hB5 hrow2.out.lt
            have ho4 := ho2.out.later hB5 ho2.out.lt
            have hq4 := hqb.later hB4 hqb.lt
            have hHA4 := hHA2.out.later hB5
            have hB6 : Below w1.heap.size w1 w4 := bel_on hB2 hB5
            have hs4 : wa.heap.size ≤ w4.heap.size := by have := hB5.size; omega
            clear hstay k0 k1 k2 e0 e1 e2 hwb
            obtain ⟨g1, e0, e1, e2⟩ := ho4
            obtain ⟨g2, f0, f1, f2⟩ := hq4
            have hf := hrow4.frozen t
            have hcl := hrow4.cell (k := t) (by omega)
            rw [HR.out] at hcl
            have HO4 : Hid (AcAt o wo.heap.size 0 w4) := ⟨g1, e0, e1, e2⟩
            rw [HQL.out] at f0
            rw [HOL.out] at e0
            have HR4 : Hid (RowAt 3 w4 w1.heap.size R2) := hrow4
            have HA4 : Hid (HasAc (az s) (some ⟨b, off, none⟩) w4) := hHA4
            have ht5 : (t : Int) < 5 := by omega
            clear hrow4 hHA4 e1 e2 f1 f2
            go_wp2_with fail
            go_still_tail 9, (by kernel_rfl)
            go_wp2_with fail
            have hbA : b ≠ w1.heap.size ∨ b = w1.heap.size := by omega
            have HRN : Hid (RowAt 3 (w4.setCell ⟨w1.heap.size, t, none⟩ (.int .i64 (z : Nat))).drew w1.heap.size (M.more R2 t u)) := by
              rw [HMR.out]; exact (HR4.out.set t z).drew
            have HBN : Hid (Below w1.heap.size w1 (w4.setCell ⟨w1.heap.size, t, none⟩ (.int .i64 (z : Nat))).drew) := (hB6.setCell (p := ⟨w1.heap.size, t, none⟩) (Nat.le_refl _) _).drew
            have HON : Hid (AcAt o wo.heap.size 0 (w4.setCell ⟨w1.heap.size, t, none⟩ (.int .i64 (z : Nat))).drew) := (HO4.out.setO hsz _).drew
            have HAN : Hid (HasAc (az s) (some ⟨b, off, none⟩) (w4.setCell ⟨w1.heap.size, t, none⟩ (.int .i64 (z : Nat))).drew) := hkeep.out _ HBN.out
            go_roundw
            case rel => exact ⟨j + 1, M.more R2 t u, by go_num, by omega, HN, HRN, HBN.out, HON, (by simp; exact hs4), HAN⟩
            case measure => simp [intOf]; omega
        · obtain rfl : j = i := by omega
          have HN : Hid (M.ER s (fun _ b => b < j + 1) R2) := hER2.out.congr (fun x y h _ => by omega)
          go_wp2_with fail
          go_roundw
          case rel => exact ⟨j + 1, R2, by go_num, by omega, HN, hrow2, hB2, by omega⟩
          case measure => simp [intOf]; omega
    · obtain rfl : i = n := by omega
      have HE : Hid (R = M.edR s) := hER.out.all hk (fun x y _ h => by omega)
      have HR : Hid (RowAt 3 wo w1.heap.size (M.edR s)) := by show RowAt _ _ _ _; rw [← HE.out]; exact hrow.out
      go_wp2_with fail
      go_ret2
      exact ⟨w1.heap.size, rfl, HR.out, HB1.out.size, bel_on HB1.out hB⟩
end Go.Proofs.YtlkdclifcmohlaaDoor
