/- Package sched, Ordered: what is wrong, else the places of all acts, transaction by transaction; what lay in memory lies as it lay. -/
import Derived.Test.YtkkccafobfdjbaaDoorSc2
namespace Go.Proofs.YtkkccafobfdjbaaDoor
open Go.RowKit

namespace M
theorem ordd_snoc (s : List SAct) (l : List Nat) (t : Nat) : ordd s (l ++ [t]) = ordd s l ++ (List.range s.length).filter fun i => (sat s i).tx == t := by
  unfold ordd
  rw [List.flatMap_append]
  simp
/-- of the row k have come, and of the next one's places those below i -/
def orP (s : List SAct) (r : List Nat) (k t i : Nat) : List Nat := ordd s (r.take k) ++ (List.range i).filter fun x => (sat s x).tx == t
theorem orP_zero (s : List SAct) (r : List Nat) (k t : Nat) : orP s r k t 0 = ordd s (r.take k) := by simp [orP]
theorem orP_hit {s : List SAct} {r : List Nat} {k t i : Nat} (h : (sat s i).tx = t) : orP s r k t (i + 1) = orP s r k t i ++ [i] := by
  unfold orP
  rw [List.range_succ, List.filter_append, List.filter_cons, if_pos (by simp [h])]
  simp
theorem orP_miss {s : List SAct} {r : List Nat} {k t i : Nat} (h : (sat s i).tx ≠ t) : orP s r k t (i + 1) = orP s r k t i := by
  unfold orP
  rw [List.range_succ, List.filter_append, List.filter_cons, if_neg (by simp [h])]
  simp
theorem orP_next {s : List SAct} {r : List Nat} {k : Nat} (hk : k < r.length) : orP s r k (row r k) s.length = ordd s (r.take (k + 1)) := by
  unfold orP
  rw [List.take_add_one, List.getElem?_eq_getElem hk, show row r k = r[k] by unfold row; rw [List.getElem?_eq_getElem hk]; rfl]
  exact (ordd_snoc _ _ _).symm
theorem ordd_len (s : List SAct) : ∀ l : List Nat, (ordd s l).length ≤ l.length * s.length
  | [] => Nat.zero_le _
  | t :: l => by
    have e : ordd s (t :: l) = ((List.range s.length).filter fun i => (sat s i).tx == t) ++ ordd s l := by unfold ordd; rw [List.flatMap_cons]
    rw [e, List.length_append, List.length_cons, Nat.succ_mul]
    have h1 := ordd_len s l
    have h2 := List.length_filter_le (fun i => (sat s i).tx == t) (List.range s.length)
    rw [List.length_range] at h2
    omega
theorem orP_len {s : List SAct} {r : List Nat} {k t i : Nat} (hs : s.length ≤ 24) (hr : r.length = 5) (hi : i ≤ 24) : (orP s r k t i).length ≤ 1000 := by
  unfold orP
  rw [List.length_append]
  have h1 := ordd_len s (r.take k)
  have h2 := List.length_filter_le (fun x => (sat s x).tx == t) (List.range i)
  rw [List.length_range] at h2
  have h3 : (r.take k).length ≤ 5 := by rw [List.length_take]; omega
  have h4 : (r.take k).length * s.length ≤ 5 * 24 := Nat.mul_le_mul h3 hs
  omega
end M
set_option maxHeartbeats 1000000 in
theorem ordered_err (zs : List Az) (p q : Option Addr) (n cap m cap' : Nat) (w : World) (hl : zs.length = n) (hmax : n ≤ maxLen) (hc : HasAc zs p w) (hne : acd zs ≠ 0) :
    Calls Tryd.prog 18 #[.slice p n cap, .slice q m cap'] w fun e w' => e = .returned (.tuple #[.slice none 0 0, terr (acd zs)]) ∧ Below w.heap.size w w' := by
  go_enter Tryd.func18, Tryd.ntmps18
  go_wp2_with fail
  refine (acheck_ok zs p n cap _ hl hmax hc).mono ?_
  rw [terr_ne hne]
  rintro e w1 ⟨rfl, hB⟩
  go_wp2_with fail
  go_ret2
  exact ⟨by rw [terr_ne hne]; rfl, hB⟩
set_option maxHeartbeats 1000000 in
theorem ordered_bad (zs : List Az) (rs : List Int) (p q : Option Addr) (n cap m cap' : Nat) (w : World) (hl : zs.length = n) (hmax : n ≤ maxLen) (hc : HasAc zs p w) (h0 : acd zs = 0) (hlr : rs.length = m) (hmr : m ≤ maxLen) (hcr : HasI rs q w) (hne : kcd rs ≠ 0) :
    Calls Tryd.prog 18 #[.slice p n cap, .slice q m cap'] w fun e w' => e = .returned (.tuple #[.slice none 0 0, terr (kcd rs)]) ∧ Below w.heap.size w w' := by
  go_enter Tryd.func18, Tryd.ntmps18
  go_wp2_with fail
  refine (acheck_ok zs p n cap _ hl hmax hc).mono ?_
  rw [h0, terr_zero]
  rintro e w1 ⟨rfl, hB⟩
  go_wp2_with fail
  refine (checkRow_ok rs q m cap' _ hlr hmr (hcr.later hB)).mono ?_
  rw [terr_ne hne]
  rintro e w2 ⟨rfl, rfl⟩
  go_wp2_with fail
  go_ret2
  exact ⟨by rw [terr_ne hne]; rfl, hB⟩
set_option maxRecDepth 100000 in
set_option maxHeartbeats 4000000 in
theorem ordered_ok (s : List M.SAct) (r : List Nat) (p q : Option Addr) (n cap cap' : Nat) (w : World) (hl : s.length = n) (hk : M.AOk s) (hc : HasAc (az s) p w) (hlr : r.length = 5) (hnr : r.Nodup) (hir : ∀ x, x ∈ r → x < 5) (hcr : HasI (ints r) q w) :
    Calls Tryd.prog 18 #[.slice p n cap, .slice q 5 cap'] w fun e w' => ∃ a c, e = .returned (.tuple #[.slice a (M.ordd s r).length c, .nilIface]) ∧ HasI (ints (M.ordd s r)) a w' ∧ Below w.heap.size w w' := by
  have hn24 : n ≤ 24 := by have := hk.len; omega
  obtain ⟨i0, hi0, hz0, hz1, hz2⟩ := info_parts Tryd.info3
  have hmk0 := fun W => run_make (P := Tryd.prog) W 23 3 i0 (.int .i64 0) Tryd.underlying23 hi0 hz0 .i64 .i64 0 n (by omega) (by omega) (by rw [hz2]; omega) (by omega)
  have hkr := kcd_of hlr hnr hir
  go_enter Tryd.func18, Tryd.ntmps18
  go_wp2_with fail
  refine (acheck_ok (az s) p n cap _ (by rw [az_len, hl]) (by unfold maxLen; omega) hc).mono ?_
  rw [acd_az hk, terr_zero]
  rintro e w1 ⟨rfl, hB1⟩
  have hc1 := hc.later hB1
  have hcr1 := hcr.later hB1
  have HB1 : Hid (Below w.heap.size w w1) := hB1
  clear hB1 hc hcr
  go_wp2_with fail
  refine (checkRow_ok (ints r) q 5 cap' _ (by rw [ints_length, hlr]) (by unfold maxLen; omega) hcr1).mono ?_
  rw [hkr, terr_zero]
  rintro e w2 ⟨rfl, rfl⟩
  simp only [hz1, Int.toNat_natCast, Int.toNat_zero, Nat.mul_one] at hmk0
  have hown0 : (w1.alloc (.cells (madeCells (Value.int .i64 0).cells n) 3)).ownsRow w1.heap.size 3 1 (.slice (some ⟨w1.heap.size, 0, none⟩) 0 n) (M.ordd s (r.take 0)).length (icells (M.ordd s (r.take 0))) := by
    exact World.ownsRow_made w1 _ n (Nat.le_refl _) (by unfold maxLen; omega) (by rw [size_madeCells, Nat.mul_one])
  have hB0 : Below w1.heap.size w1 (w1.alloc (.cells (madeCells (Value.int .i64 0).cells n) 3)) := bel_al (Below.refl _ _) _
  have hmk1 := hmk0 w1
  clear hmk0
  go_wp2_with fail
  go_loopw [8, 28] (fun pv v wr => ∃ k : Nat, v = .int .i64 k ∧ k ≤ 5 ∧ wr.ownsRow w1.heap.size 3 1 pv (M.ordd s (r.take k)).length (icells (M.ordd s (r.take k))) ∧ Below w1.heap.size w1 wr) (fun _ v _ => 5 - (intOf v).toNat)
  case atStart => exact ⟨0, rfl, Nat.zero_le _, hown0, hB0⟩
  case round =>
    clear hown0 hB0 hmk1
    obtain ⟨k, rfl, hk5, hown, hB⟩ := hrel
    obtain ⟨wo, hwo⟩ : ∃ wo, wo = wr := ⟨_, rfl⟩
    subst hwo
    by_cases hlt : k < 5
    · obtain ⟨b9, o9, rfl, hb9, hcell⟩ := (hcr1.later hB) k (by rw [ints_length]; omega)
      rw [ints_get] at hcell
      obtain ⟨t, ht⟩ : ∃ t, M.row r k = t := ⟨_, rfl⟩
      rw [ht] at hcell
      have HT : Hid (M.row r k = t) := ht
      have hk5i : (k : Int) < 5 := by omega
      have hownI : wo.ownsRow w1.heap.size 3 1 u8 (M.orP s r k t 0).length (icells (M.orP s r k t 0)) := by rw [M.orP_zero]; exact hown
      clear ht hown
      go_wp2_with fail
      go_loopw [8, 34] (fun pv v wr => ∃ i : Nat, v = .int .i64 i ∧ i ≤ n ∧ wr.ownsRow w1.heap.size 3 1 pv (M.orP s r k t i).length (icells (M.orP s r k t i)) ∧ Below w1.heap.size w1 wr) (fun _ v _ => n - (intOf v).toNat)
      case atStart => exact ⟨0, rfl, Nat.zero_le _, hownI, hB⟩
      case round =>
        clear hownI hB hcell
        obtain ⟨i, rfl, hi, hown, hB⟩ := hrel
        by_cases hin : i < n
        · obtain ⟨b, off, rfl, hop⟩ := (hc1.later hB) i (by rw [az_len]; omega)
          rw [aAt_az] at hop
          obtain ⟨hb, k0, k1, k2⟩ := hop
          have hhit := @M.orP_hit s r k t i
          have hmiss := @M.orP_miss s r k t i
          have hlen := @M.orP_len s r k t i (by omega) hlr (by omega)
          obtain ⟨⟨T, I, W⟩, ha⟩ : ∃ a, M.sat s i = a := ⟨_, rfl⟩
          rw [ha] at k0 k1 k2 hhit hmiss
          simp only [azN] at k0 k1 k2 hhit hmiss
          have hini : (i : Int) < (n : Int) := by omega
          clear ha
          obtain ⟨L, hL⟩ : ∃ L, M.orP s r k t i = L := ⟨_, rfl⟩
          rw [hL] at hown hhit hmiss hlen
          clear hL
          by_cases hTt : T = t
          · have hd : ((T : Int) == (t : Int)) = true := by rw [hTt]; exact beq_self_eq_true _
            have HH : Hid (M.orP s r k t (i + 1) = L ++ [i]) := hhit hTt
            have hszr := hB.size
            clear hhit hmiss hTt
            go_wp2_with (at_builtin; refine wpList_append_own _ rfl _ _ 23 rfl w1.heap.size 3 i0 (.int .i64 0) 1 8 Tryd.underlying23 hi0 hz0 hz1 hz2 rfl (by decide) _ _ _ rfl ((hown.alloc _).alloc _) ⟨wr.heap.size + 1, 0, none⟩ 1 1 [.int .i64 (i : Nat)] rfl rfl (by have := cell_one_new (wr.alloc (.cells #[.int .i64 (T : Int), .int .i64 (I : Int), .int .i64 (W : Int)] 45)) (.int .i64 (i : Nat)) 3; simpa using this) (by simp [Value.oneCell']) (by unfold maxLen; omega) (by omega) (by simp; omega) ?_; intro v' w6 hown' hgrow _)
            have hB6 : Below w1.heap.size w1 w6 := (bel_al (bel_al hB _) _).grown hgrow (by simp; omega) (fun j e => (hown.lt j e).1)
            have ho6 : w6.ownsRow w1.heap.size 3 1 v' (M.orP s r k t (i + 1)).length (icells (M.orP s r k t (i + 1))) := by
              rw [HH.out, icells_snoc, List.length_append]; exact hown'
            clear hown' hgrow hown hB k0 k1 k2
            go_wp2_with fail
            go_roundw
            case rel => exact ⟨i + 1, by go_num, by omega, ho6, hB6⟩
            case measure => simp [intOf]; omega
          · have hd : ((T : Int) == (t : Int)) = false := by simpa using (by omega : ¬ (T : Int) = (t : Int))
            have HH : Hid (M.orP s r k t (i + 1) = L) := hmiss hTt
            clear hhit hmiss hTt
            go_wp2_with fail
            go_roundw
            case rel => exact ⟨i + 1, by go_num, by omega, (by rw [HH.out]; exact hown.alloc _), bel_al hB _⟩
            case measure => simp [intOf]; omega
        · obtain rfl : i = n := by omega
          have HE : Hid (M.orP s r k t i = M.ordd s (r.take (k + 1))) := by show _ = _; rw [← HT.out, ← hl]; exact M.orP_next (by omega)
          rw [HE.out] at hown
          go_wp2_with fail
          go_roundw
          case rel => exact ⟨k + 1, by go_num, by omega, hown, hB⟩
          case measure => simp [intOf]; omega
    · obtain rfl : k = 5 := by omega
      have hall : r.take 5 = r := List.take_of_length_le (by omega)
      rw [hall] at hown
      obtain ⟨pv, cv, rfl⟩ := owns_slice hown
      have HI : Hid (HasI (ints (M.ordd s r)) pv wo) := hasI_of_owns rfl hown
      clear hown
      go_wp2_with fail
      go_ret2
      exact ⟨pv, cv, rfl, HI.out, bel_on HB1.out hB⟩
end Go.Proofs.YtkkccafobfdjbaaDoor
