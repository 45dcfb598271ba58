/- What must stay behind in a word, place by place (package fold, Ahead); what lay in memory lies as it lay. -/
import Derived.Test.YtejnjokjkinpkaaDoorFo5
namespace Go.Proofs.YtejnjokjkinpkaaDoor
open Go.RowKit

set_option maxRecDepth 100000 in
set_option maxHeartbeats 4000000 in
theorem fahead_ok (F u : List Nat) (p : Option Addr) (n cap : Nat) (q : Option Addr) (m cap2 : Nat) (w : World) (hl : F.length = n) (he : Env w) (hF : FOk F) (hc : HasI (ints F) p w) (hl2 : u.length = m) (hU : WOk F u) (hd : HasI (ints u) q w) (hcap : m ≤ cap2) (hcmx : cap2 ≤ maxLen) :
    Calls Tryd.prog 30 #[.slice p n cap, .slice q m cap2] w fun e w' => ∃ A, e = .returned (.tuple #[.slice (some ⟨A, 0, none⟩) m m, .nilIface]) ∧ RowAt 3 w' A (M.ahR (M.fr F) u) ∧ w.heap.size ≤ A ∧ Below w.heap.size w w' := by
  have hm : m ≤ 24 := hl2 ▸ hU.len
  have hn6 := hF.len
  unfold maxLen at hcmx
  have hmk0 := run_make_row' (P := Tryd.prog) 22 3 (.int .i64 0) 8 Tryd.underlying22 infoInt rfl .i64 .i64 m (by omega) (by omega)
  go_enter Tryd.func30, Tryd.ntmps30
  go_wp2_with fail
  refine (cword_any (ints F) p n cap (ints u) q m cap2 _ (by rw [ints_length]; exact hl) he (by unfold maxLen; omega) hc (by rw [ints_length]; exact hl2) (by unfold maxLen; omega) hd).mono ?_
  rw [wcode_ints hF hU, terr_zero]
  rintro e w1 ⟨rfl, hB1⟩
  have hr0 : RowAt 3 (w1.alloc (.cells (madeCells #[.int .i64 0] m) 3)) w1.heap.size (M.ahP (M.fr F) u 0 0) := by
    unfold RowAt
    rw [M.ahP_zero, hl2, World.alloc_heap_new, made_noughts]
  have hB0 : Below w1.heap.size w1 (w1.alloc (.cells (madeCells #[.int .i64 0] m) 3)) := bel_al (Below.refl _ _) _
  go_wp2_with fail
  go_loopw [23] (fun v wr => ∃ (j : Nat), v = .int .i64 j ∧ j ≤ m ∧ RowAt 3 wr w1.heap.size (M.ahP (M.fr F) u j 0) ∧ Below w1.heap.size w1 wr) (fun v _ => m - (intOf v).toNat)
  case atStart => exact ⟨0, rfl, Nat.zero_le _, hr0, hB0⟩
  case round =>
    clear hr0 hB0 hmk0
    obtain ⟨j, rfl, hj, hrow, hB⟩ := hrel
    by_cases hlt : j < m
    · have hBr := bel_on hB1 hB
      obtain ⟨b, off, rfl, hb, hcz⟩ := (hd.later hBr) j (by rw [ints_length]; omega)
      rw [ints_get] at hcz
      have hrj := hU.row (i := j) (by omega)
      obtain ⟨c, hcc⟩ : ∃ c, M.row u j = c := ⟨_, rfl⟩
      rw [hcc] at hrj hcz
      have HC : Hid (M.row u j = c) := hcc
      clear hcc
      have hjc : (j : Int) ≤ (cap2 : Int) := by omega
      have hjc' : j ≤ cap2 := by omega
      have hc0 : (cap2 = 0) = False := by simp; omega
      go_wp2_with fail
      go_loopw [32] (fun v wr => ∃ (i : Nat), v = .int .i64 i ∧ i ≤ j ∧ RowAt 3 wr w1.heap.size (M.ahP (M.fr F) u j i) ∧ Below w1.heap.size w1 wr) (fun v _ => j - (intOf v).toNat)
      case atStart => exact ⟨0, rfl, Nat.zero_le _, hrow, hB⟩
      case round =>
        clear hrow hB hcz hb hBr
        obtain ⟨i, rfl, hi, hrow, hB⟩ := hrel
        by_cases hij : i < j
        · have hBr := bel_on hB1 hB
          obtain ⟨b', off', e', hb, hcz⟩ := (hd.later hBr) i (by rw [ints_length]; omega)
          cases e'
          rw [ints_get] at hcz
          have hri := hU.row (i := i) (by omega)
          have hkeep := @M.ahP_keep (M.fr F) u j i
          have hset := @M.ahP_set (M.fr F) u j i (by omega) hij
          rw [HC.out] at hkeep hset
          obtain ⟨o, hoo⟩ : ∃ o, M.row u i = o := ⟨_, rfl⟩
          rw [hoo] at hri hcz hkeep hset
          clear hoo
          obtain ⟨bf, of, rfl, hbf, hcf⟩ := (hc.later hBr) o (by rw [ints_length]; omega)
          rw [ints_get] at hcf
          have hfl := hF.lt o
          have hhas := fun W => has_any (M.row F o) c W (by omega) (by omega)
          have hbit : (M.row F o).testBit c = M.fr F o c := rfl
          rw [hbit] at hhas
          obtain ⟨x, hx⟩ : ∃ x, M.row F o = x := ⟨_, rfl⟩
          rw [hx] at hcf hhas
          have hon : (o : Int) < (n : Int) := by omega
          clear hx hbit hfl
          cases hfr : M.fr F o c with
          | true =>
            have HK : Hid (M.ahP (M.fr F) u j (i + 1) = M.ahP (M.fr F) u j i) := hkeep hfr
            rw [hfr] at hhas
            clear hkeep hset hfr
            go_wp2_with fail
            refine (hhas _).mono ?_
            rintro e w2 ⟨rfl, rfl⟩
            go_wp2_with fail
            go_roundw
            case rel => exact ⟨i + 1, by go_num, by omega, by rw [HK.out]; exact hrow, hB⟩
            case measure => simp [intOf]; omega
          | false =>
            have hset2 := hset hfr
            rw [hfr] at hhas
            have hlen : (M.ahP (M.fr F) u j i).length = m := by rw [M.ahP_length, hl2]
            have hk1 := hrow.cell (k := i) (by omega)
            have hk2 := hrow.frozen i
            have hlt2 := M.ahP_lt (M.fr F) u j i i
            have h24 := pow_24 (j + 1) (by omega)
            have hrl := hrow.lt
            have hsh : IntKind.i64.wrap (2 ^ j) = ((1 <<< j : Nat) : Int) := i64_shl_big j (by omega)
            have hjp : 1 <<< j < 1073741824 := by have := shl_24 j (by omega); omega
            have hor := i64_or_big (M.row (M.ahP (M.fr F) u j i) i) (1 <<< j) (by omega) hjp
            have hrw := hrow.set i (M.row (M.ahP (M.fr F) u j i) i ||| 1 <<< j)
            rw [← hset2] at hrw
            obtain ⟨y, hy⟩ : ∃ y : Nat, 1 <<< j = y := ⟨_, rfl⟩
            rw [hy] at hsh hor hrw
            obtain ⟨x0, hx0⟩ : ∃ x0 : Nat, M.row (M.ahP (M.fr F) u j i) i = x0 := ⟨_, rfl⟩
            rw [hx0] at hor hrw hk1
            obtain ⟨z, hz⟩ : ∃ z : Nat, x0 ||| y = z := ⟨_, rfl⟩
            rw [hz] at hor hrw
            have HR : Hid (RowAt 3 (wr.setCell ⟨w1.heap.size, i, none⟩ (.int .i64 (z : Nat))) w1.heap.size (M.ahP (M.fr F) u j (i + 1))) := hrw
            have HB : Hid (Below w1.heap.size w1 (wr.setCell ⟨w1.heap.size, i, none⟩ (.int .i64 (z : Nat)))) := hB.setCell (p := ⟨w1.heap.size, i, none⟩) (Nat.le_refl _) _
            have him : (i : Int) < (m : Int) := by omega
            have hj64 : (j : Int) < 64 := by omega
            clear hkeep hset hset2 hfr hrow hB hx0 hy hz hlt2 h24 hrw hjp
            go_wp2_with fail
            refine (hhas _).mono ?_
            rintro e w2 ⟨rfl, rfl⟩
            go_wp2_with fail
            go_still_tail 8, (by kernel_rfl)
            go_wp2_with fail
            go_roundw
            case rel => exact ⟨i + 1, by go_num, by omega, HR.out.drew, HB.out.drew⟩
            case measure => simp [intOf]; omega
        · obtain rfl : i = j := by omega
          rw [M.ahP_next] at hrow
          go_wp2_with fail
          go_roundw
          case rel => exact ⟨i + 1, by go_num, by omega, hrow, hB⟩
          case measure => simp [intOf]; omega
    · obtain rfl : j = m := by omega
      have hrf : RowAt 3 wr w1.heap.size (M.ahR (M.fr F) u) := by rw [← M.ahP_done, hl2]; exact hrow
      go_wp2_with fail
      go_ret2
      exact ⟨_, rfl, hrf, hB1.size, bel_on hB1 hB⟩
end Go.Proofs.YtejnjokjkinpkaaDoor
