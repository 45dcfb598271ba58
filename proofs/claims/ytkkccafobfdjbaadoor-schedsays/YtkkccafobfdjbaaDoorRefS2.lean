/- The document's answer: the edges of a schedule (whensteadref3.Edges), pair by pair. -/
import Derived.Test.YtkkccafobfdjbaaDoorSc2
import Derived.Test.YtkkccafobfdjbaaDoorRefSet
namespace Go.Proofs.YtkkccafobfdjbaaDoor
open Go.RowKit

set_option maxRecDepth 100000 in
set_option maxHeartbeats 8000000 in
theorem refEdges_ok (s : List M.SAct) (p : Option Addr) (n cap : Nat) (w : World) (hl : s.length = n) (hk : M.AOk s) (hc : HasAc (az s) p w) :
    Calls Tryd.prog 10 #[.slice p n cap] w fun e w' => ∃ A, e = .returned (.slice (some ⟨A, 0, none⟩) 5 5) ∧ RowAt 3 w' A (M.edR s) ∧ w.heap.size ≤ A ∧ Below w.heap.size w w' := by
  have hn24 : n ≤ 24 := by have := hk.len; omega
  have hmk0 := run_make_row' (P := Tryd.prog) 23 3 (.int .i64 0) 8 Tryd.underlying23 Tryd.info3 rfl .i64 .i64 5 (by omega) (by omega)
  rw [show ((5 : Nat) : Int) = 5 from rfl] at hmk0
  have hrow0 : RowAt 3 (w.alloc (.cells (madeCells #[.int .i64 0] 5) 3)) w.heap.size (List.replicate 5 0) := by
    unfold RowAt
    rw [World.alloc_heap_new, made_arr]
  have hB0 : Below w.heap.size w (w.alloc (.cells (madeCells #[.int .i64 0] 5) 3)) := bel_al (Below.refl _ _) _
  go_enter Tryd.func10, Tryd.ntmps10
  go_wp2_with fail
  go_loopw [4] (fun v wr => ∃ (i : Nat) (R : List Nat), v = .int .i64 i ∧ i ≤ n ∧ Hid (M.ER s (fun a _ => a < i) R) ∧ Hid (RowAt 3 wr w.heap.size R) ∧ Below w.heap.size w wr) (fun v _ => n - (intOf v).toNat)
  case atStart => exact ⟨0, List.replicate 5 0, rfl, Nat.zero_le _, M.ER.zero (fun a b _ h => absurd h (Nat.not_lt_zero _)), hrow0, hB0⟩
  case round =>
    clear hrow0 hB0 hmk0
    obtain ⟨i, R, rfl, hi, hER, hrow, hB⟩ := hrel
    by_cases hlt : i < n
    · have hin : (i : Int) < (n : Int) := by omega
      have hER0 : Hid (M.ER s (fun x y => x < i ∨ (x = i ∧ y < i + 1)) R) := hER.out.congr (fun x y _ _ => by omega)
      clear hER
      go_wp2_with fail
      go_loopw [5] (fun v wr => ∃ (j : Nat) (R : List Nat), v = .int .i64 j ∧ i + 1 ≤ j ∧ j ≤ n ∧ Hid (M.ER s (fun x y => x < i ∨ (x = i ∧ y < j)) R) ∧ Hid (RowAt 3 wr w.heap.size R) ∧ Below w.heap.size w wr) (fun v _ => n - (intOf v).toNat)
      case atStart => exact ⟨i + 1, R, by go_num, Nat.le_refl _, by omega, hER0, hrow, hB⟩
      case round =>
        clear hER0 hrow hB
        obtain ⟨j, R2, rfl, hij, hj, hER2, hrow2, hB2⟩ := hrel
        by_cases hjn : j < n
        · obtain ⟨b, off, rfl, hop⟩ := (hc.later hB2) i (by rw [az_len]; omega)
          obtain ⟨b', off', e0, hop2⟩ := (hc.later hB2) j (by rw [az_len]; omega)
          cases e0
          rw [aAt_az] at hop hop2
          obtain ⟨o, ho⟩ : ∃ o, azN (M.sat s i) = o := ⟨_, rfl⟩
          obtain ⟨q, hq⟩ : ∃ q, azN (M.sat s j) = q := ⟨_, rfl⟩
          rw [ho] at hop
          rw [hq] at hop2
          have HO : Hid (azN (M.sat s i) = o) := ho
          have HQ : Hid (azN (M.sat s j) = q) := hq
          clear ho hq
          obtain ⟨hb, k0, k1, k2⟩ := hop
          obtain ⟨_, f0, f1, f2⟩ := hop2
          have hjin : (j : Int) < (n : Int) := by omega
          have HMS : Hid (M.msB (M.sat s i) (M.sat s j) = mzB o q) := by show _ = _; rw [← HQ.out, ← HO.out]; exact (mzB_az _ _).symm
          have HM : Hid (mzB o q = (o.tx != q.tx && o.it == q.it && (o.wt == 1 || q.wt == 1))) := (rfl : mzB o q = _)
          have HF : Hid (mzB o q = false → M.ER s (fun x y => x < i ∨ (x = i ∧ y < j + 1)) R2) := fun h => hER2.out.miss (a := i) (b := j) (by rw [HMS.out]; exact h) (fun x y _ => by omega)
          have HD : Hid (∀ m, Hid (RowAt 3 (wr.drewN m) w.heap.size R2) ∧ Below w.heap.size w (wr.drewN m)) := fun m => ⟨hrow2.out.below (below_drewN wr m) hrow2.out.lt, bel_on hB2 (below_drewN wr m)⟩
          cases c1 : (o.tx != q.tx) with
          | false =>
            have HN := HF.out (by rw [HM.out, c1]; rfl)
            clear hc
            go_wp2_with fail
            go_big_quiet (fail)
            obtain ⟨wd, hwd⟩ : ∃ wd, wr.drewN nq = wd := ⟨_, rfl⟩
            have HDN := HD.out nq
            rw [hwd] at HDN
            simp only [hwd]
            clear hwd
            go_wp2_with fail
            go_roundw
            case rel => exact ⟨j + 1, R2, by go_num, by omega, by omega, HN, HDN.1, HDN.2⟩
            case measure => simp [intOf]; omega
          | true =>
          cases c2 : (o.it == q.it) with
          | false =>
            have HN := HF.out (by rw [HM.out, c1, c2]; rfl)
            clear hc
            go_wp2_with fail
            go_big_quiet (fail)
            obtain ⟨wd, hwd⟩ : ∃ wd, wr.drewN nq = wd := ⟨_, rfl⟩
            have HDN := HD.out nq
            rw [hwd] at HDN
            simp only [hwd]
            clear hwd
            go_wp2_with fail
            go_roundw
            case rel => exact ⟨j + 1, R2, by go_num, by omega, by omega, HN, HDN.1, HDN.2⟩
            case measure => simp [intOf]; omega
          | true =>
          cases c3 : (o.wt == 1) with
          | false =>
            cases c4 : (q.wt == 1) with
            | false =>
              have HN := HF.out (by rw [HM.out, c1, c2, c3, c4]; rfl)
              clear hc
              go_wp2_with fail
              go_big_quiet (fail)
              obtain ⟨wd, hwd⟩ : ∃ wd, wr.drewN nq = wd := ⟨_, rfl⟩
              have HDN := HD.out nq
              rw [hwd] at HDN
              simp only [hwd]
              clear hwd
              go_wp2_with fail
              go_roundw
              case rel => exact ⟨j + 1, R2, by go_num, by omega, by omega, HN, HDN.1, HDN.2⟩
              case measure => simp [intOf]; omega
            | true =>
              have hms : M.msB (M.sat s i) (M.sat s j) = true := by rw [HMS.out, HM.out, c1, c2, c3, c4]; rfl
              have hER3 := hER2.out.hit (a := i) (b := j) (Q' := fun x y => x < i ∨ (x = i ∧ y < j + 1)) hk (by omega) (by omega) hms (fun x y _ => by omega)
              have ht1 := hk.tx i
              have ht2 := hk.tx j
              have hol : o.tx = ((M.sat s i).tx : Int) := by rw [← HO.out]; rfl
              have hql : q.tx = ((M.sat s j).tx : Int) := by rw [← HQ.out]; rfl
              have hrl := hER2.out.lt hk
              have hrlen := hER2.out.len
              obtain ⟨t, ht⟩ : ∃ t, (M.sat s i).tx = t := ⟨_, rfl⟩
              obtain ⟨u, hu⟩ : ∃ u, (M.sat s j).tx = u := ⟨_, rfl⟩
              rw [ht] at ht1 hol hER3
              rw [hu] at ht2 hql hER3
              have hrt := hrl t
              have HN : Hid (M.ER s (fun x y => x < i ∨ (x = i ∧ y < j + 1)) (M.more R2 t u)) := hER3
              have HMR : Hid (M.more R2 t u = R2.set t (M.row R2 t ||| 1 <<< u)) := (rfl : M.more R2 t u = R2.set t (M.row R2 t ||| 1 <<< u))
              obtain ⟨r, hr⟩ : ∃ r, M.row R2 t = r := ⟨_, rfl⟩
              rw [hr] at hrt HMR
              have HR : Hid (M.row R2 t = r) := hr
              have HQL : Hid (q.tx = (u : Int)) := hql
              have HOL : Hid (o.tx = (t : Int)) := hol
              have ht5 : (t : Int) < 5 := by omega
              have HKC : Hid (∀ m, (wr.drewN m).cell? ⟨b, off + i * 3, none⟩ = some (.int .i64 o.tx) ∧ (wr.drewN m).cell? ⟨b, off + j * 3, none⟩ = some (.int .i64 q.tx)) := fun m => ⟨((below_drewN wr m).cell (p := ⟨b, off + i * 3, none⟩) hb).trans k0, ((below_drewN wr m).cell (p := ⟨b, off + j * 3, none⟩) hb).trans f0⟩
              clear hms hER3 hrl ht hu hr hql hol
              clear hc
              go_wp2_with fail
              go_big_quiet (fail)
              obtain ⟨wd, hwd⟩ : ∃ wd, wr.drewN nq = wd := ⟨_, rfl⟩
              have HDN := HD.out nq
              have HK := HKC.out nq
              rw [hwd] at HDN HK
              simp only [hwd]
              clear hwd k0 k1 k2 f0 f1 f2
              obtain ⟨k0, f0⟩ := HK
              have hf := HDN.1.out.frozen t
              have hcl := HDN.1.out.cell (k := t) (by omega)
              rw [HR.out] at hcl
              rw [HOL.out] at k0
              rw [HQL.out] at f0
              have hwi := fun m => with_any r u (wd.drewN m) (by omega) (by omega)
              obtain ⟨z, hz⟩ : ∃ z : Nat, r ||| 1 <<< u = z := ⟨_, rfl⟩
              rw [hz] at HMR
              simp only [hz] at hwi
              have HRN : Hid (RowAt 3 (wd.setCell ⟨w.heap.size, t, none⟩ (.int .i64 (z : Nat))).drew w.heap.size (M.more R2 t u)) := by
                rw [HMR.out]; exact (HDN.1.out.set t z).drew
              have HBN : Hid (Below w.heap.size w (wd.setCell ⟨w.heap.size, t, none⟩ (.int .i64 (z : Nat))).drew) := (HDN.2.setCell (p := ⟨w.heap.size, t, none⟩) (Nat.le_refl _) _).drew
              clear hz
              go_wp2_with fail
              go_region_with (go_at_call 26; refine (hwi _).mono ?_; rintro e w' ⟨rfl, rfl⟩)
              all_goals go_wp2_with fail
              all_goals go_roundw
              all_goals first | exact ⟨j + 1, M.more R2 t u, by go_num, by omega, by omega, HN, HRN, HBN.out⟩ | (simp [intOf]; omega)
          | true =>
            have hms : M.msB (M.sat s i) (M.sat s j) = true := by rw [HMS.out, HM.out, c1, c2, c3]; rfl
            have hER3 := hER2.out.hit (a := i) (b := j) (Q' := fun x y => x < i ∨ (x = i ∧ y < j + 1)) hk (by omega) (by omega) hms (fun x y _ => by omega)
            have ht1 := hk.tx i
            have ht2 := hk.tx j
            have hol : o.tx = ((M.sat s i).tx : Int) := by rw [← HO.out]; rfl
            have hql : q.tx = ((M.sat s j).tx : Int) := by rw [← HQ.out]; rfl
            have hrl := hER2.out.lt hk
            have hrlen := hER2.out.len
            obtain ⟨t, ht⟩ : ∃ t, (M.sat s i).tx = t := ⟨_, rfl⟩
            obtain ⟨u, hu⟩ : ∃ u, (M.sat s j).tx = u := ⟨_, rfl⟩
            rw [ht] at ht1 hol hER3
            rw [hu] at ht2 hql hER3
            have hrt := hrl t
            have HN : Hid (M.ER s (fun x y => x < i ∨ (x = i ∧ y < j + 1)) (M.more R2 t u)) := hER3
            have HMR : Hid (M.more R2 t u = R2.set t (M.row R2 t ||| 1 <<< u)) := (rfl : M.more R2 t u = R2.set t (M.row R2 t ||| 1 <<< u))
            obtain ⟨r, hr⟩ : ∃ r, M.row R2 t = r := ⟨_, rfl⟩
            rw [hr] at hrt HMR
            have HR : Hid (M.row R2 t = r) := hr
            have HQL : Hid (q.tx = (u : Int)) := hql
            have HOL : Hid (o.tx = (t : Int)) := hol
            have ht5 : (t : Int) < 5 := by omega
            have HKC : Hid (∀ m, (wr.drewN m).cell? ⟨b, off + i * 3, none⟩ = some (.int .i64 o.tx) ∧ (wr.drewN m).cell? ⟨b, off + j * 3, none⟩ = some (.int .i64 q.tx)) := fun m => ⟨((below_drewN wr m).cell (p := ⟨b, off + i * 3, none⟩) hb).trans k0, ((below_drewN wr m).cell (p := ⟨b, off + j * 3, none⟩) hb).trans f0⟩
            clear hms hER3 hrl ht hu hr hql hol
            clear hc
            go_wp2_with fail
            go_big_quiet (fail)
            obtain ⟨wd, hwd⟩ : ∃ wd, wr.drewN nq = wd := ⟨_, rfl⟩
            have HDN := HD.out nq
            have HK := HKC.out nq
            rw [hwd] at HDN HK
            simp only [hwd]
            clear hwd k0 k1 k2 f0 f1 f2
            obtain ⟨k0, f0⟩ := HK
            have hf := HDN.1.out.frozen t
            have hcl := HDN.1.out.cell (k := t) (by omega)
            rw [HR.out] at hcl
            rw [HOL.out] at k0
            rw [HQL.out] at f0
            have hwi := fun m => with_any r u (wd.drewN m) (by omega) (by omega)
            obtain ⟨z, hz⟩ : ∃ z : Nat, r ||| 1 <<< u = z := ⟨_, rfl⟩
            rw [hz] at HMR
            simp only [hz] at hwi
            have HRN : Hid (RowAt 3 (wd.setCell ⟨w.heap.size, t, none⟩ (.int .i64 (z : Nat))).drew w.heap.size (M.more R2 t u)) := by
              rw [HMR.out]; exact (HDN.1.out.set t z).drew
            have HBN : Hid (Below w.heap.size w (wd.setCell ⟨w.heap.size, t, none⟩ (.int .i64 (z : Nat))).drew) := (HDN.2.setCell (p := ⟨w.heap.size, t, none⟩) (Nat.le_refl _) _).drew
            clear hz
            go_wp2_with fail
            go_region_with (go_at_call 26; refine (hwi _).mono ?_; rintro e w' ⟨rfl, rfl⟩)
            all_goals go_wp2_with fail
            all_goals go_roundw
            all_goals first | exact ⟨j + 1, M.more R2 t u, by go_num, by omega, by omega, HN, HRN, HBN.out⟩ | (simp [intOf]; omega)
        · obtain rfl : j = n := by omega
          have HN : Hid (M.ER s (fun a _ => a < i + 1) R2) := hER2.out.congr (fun x y _ h => by omega)
          go_wp2_with fail
          go_roundw
          case rel => exact ⟨i + 1, R2, by go_num, by omega, HN, hrow2, hB2⟩
          case measure => simp [intOf]; omega
    · obtain rfl : i = n := by omega
      have HE : Hid (R = M.edR s) := hER.out.all hk (fun x y h1 h2 => by omega)
      have HR : Hid (RowAt 3 wr w.heap.size (M.edR s)) := by show RowAt _ _ _ _; rw [← HE.out]; exact hrow.out
      go_wp2_with fail
      go_ret
      exact ⟨w.heap.size, rfl, HR.out, Nat.le_refl _, hB⟩
end Go.Proofs.YtkkccafobfdjbaaDoor
