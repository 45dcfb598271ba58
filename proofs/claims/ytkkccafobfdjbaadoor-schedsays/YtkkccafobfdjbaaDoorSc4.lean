/- Package sched, Reads: what is wrong, else of each act that reads which one wrote what it reads; what lay in memory lies as it lay. -/
import Derived.Test.YtkkccafobfdjbaaDoorSc1
import Derived.Test.YtkkccafobfdjbaaDoorRwy
namespace Go.Proofs.YtkkccafobfdjbaaDoor
open Go.RowKit

set_option maxHeartbeats 1000000 in
theorem reads_err (zs : List Az) (p : Option Addr) (n cap : Nat) (w : World) (hl : zs.length = n) (hmax : n ≤ maxLen) (hc : HasAc zs p w) (hne : acd zs ≠ 0) :
    Calls Tryd.prog 17 #[.slice p n cap] w fun e w' => e = .returned (.tuple #[.slice none 0 0, terr (acd zs)]) ∧ Below w.heap.size w w' := by
  go_enter Tryd.func17, Tryd.ntmps17
  go_wp2_with fail
  refine (acheck_ok zs p n cap _ hl hmax hc).mono ?_
  rw [terr_ne hne]
  rintro e w1 ⟨rfl, hB⟩
  go_wp2_with fail
  go_ret2
  exact ⟨by rw [terr_ne hne]; rfl, hB⟩
/-- What is read so far. -/
def rdP (s : List M.SAct) (i : Nat) : List Int := (List.range s.length).map fun x => if x < i then oI (M.rdO s x) else 0
theorem rdP_len (s : List M.SAct) (i : Nat) : (rdP s i).length = s.length := by simp [rdP]
theorem rdP_zero (s : List M.SAct) : rdP s 0 = List.replicate s.length 0 := by
  apply List.ext_getElem
  · simp [rdP]
  · intro i h1 h2
    simp [rdP]
theorem rdP_set {s : List M.SAct} {i : Nat} {z : Int} (hz : oI (M.rdO s i) = z) : (rdP s i).set i z = rdP s (i + 1) := by
  apply List.ext_getElem
  · simp [rdP]
  · intro j h1 h2
    rw [List.getElem_set]
    simp only [rdP, List.getElem_map, List.getElem_range]
    by_cases e : i = j
    · subst e; rw [if_pos rfl, if_pos (by omega), hz]
    · rw [if_neg e]
      by_cases h : j < i
      · rw [if_pos h, if_pos (by omega)]
      · rw [if_neg h, if_neg (by omega)]
theorem rdP_end (s : List M.SAct) : rdP s s.length = rdZ s := by
  apply List.ext_getElem
  · simp [rdP, rdZ]
  · intro j h1 h2
    rw [rdP_len] at h1
    simp only [rdP, rdZ, List.getElem_map, List.getElem_range]
    rw [if_pos h1]
theorem made_arrY (n : Nat) : madeCells #[.int .i64 0] n = arrY (List.replicate n 0) := by
  apply Array.ext
  · simp [madeCells, arrY]
  · intro i h1 h2
    simp [madeCells, arrY, Nat.mod_one]
set_option maxRecDepth 100000 in
set_option maxHeartbeats 4000000 in
theorem reads_ok (s : List M.SAct) (p : Option Addr) (n cap : Nat) (w : World) (hl : s.length = n) (hk : M.AOk s) (hcap : n ≤ cap) (hc : HasAc (az s) p w) :
    Calls Tryd.prog 17 #[.slice p n cap] w fun e w' => ∃ A, e = .returned (.tuple #[.slice (some ⟨A, 0, none⟩) n n, .nilIface]) ∧ RowY 3 w' A (rdZ s) ∧ w.heap.size ≤ A ∧ Below w.heap.size w w' := by
  have hn24 : n ≤ 24 := by have := hk.len; omega
  have hmk0 := run_make_row' (P := Tryd.prog) 23 3 (.int .i64 0) 8 Tryd.underlying23 infoInt rfl .i64 .i64 n (by omega) (by omega)
  go_enter Tryd.func17, Tryd.ntmps17
  go_wp2_with fail
  refine (acheck_ok (az s) p n cap _ (by rw [az_len, hl]) (by unfold maxLen; omega) hc).mono ?_
  rw [acd_az hk, terr_zero]
  rintro e w1 ⟨rfl, hB1⟩
  have hc1 := hc.later hB1
  have hrow0 : RowY 3 (w1.alloc (.cells (madeCells #[.int .i64 0] n) 3)) w1.heap.size (rdP s 0) := by
    unfold RowY
    rw [World.alloc_heap_new, made_arrY, rdP_zero, hl]
  have hB0 : Below w1.heap.size w1 (w1.alloc (.cells (madeCells #[.int .i64 0] n) 3)) := bel_al (Below.refl _ _) _
  have HB1 : Hid (Below w.heap.size w w1) := hB1
  clear hB1 hc
  go_wp2_with fail
  go_loopw [18] (fun v wr => ∃ i : Nat, v = .int .i64 i ∧ i ≤ n ∧ Hid (RowY 3 wr w1.heap.size (rdP s i)) ∧ Below w1.heap.size w1 wr ∧ w1.heap.size < wr.heap.size) (fun v _ => n - (intOf v).toNat)
  case atStart => exact ⟨0, rfl, Nat.zero_le _, hrow0, hB0, by simp⟩
  case round =>
    clear hrow0 hB0 hmk0
    obtain ⟨i, rfl, hi, hrow, hB, hsz⟩ := hrel
    by_cases hlt : i < n
    · obtain ⟨b, off, rfl, hop⟩ := (hc1.later hB) i (by rw [az_len]; omega)
      rw [aAt_az] at hop
      have hrd : M.rdO s i = if (M.sat s i).wr = 1 then none else M.gst (M.wrB s (M.sat s i).it) i := rfl
      have hwr2 := hk.wr i
      obtain ⟨a, ha⟩ : ∃ a, M.sat s i = a := ⟨_, rfl⟩
      rw [ha] at hop hrd hwr2
      obtain ⟨T, I, W⟩ := a
      simp only at hrd hwr2
      obtain ⟨hb, k0, k1, k2⟩ := hop
      simp only [azN] at k0 k1 k2
      have hin : (i : Int) < (n : Int) := by omega
      have hi0 : (cap = 0) = False := by simp; omega
      have hci : decide ((i : Int) ≤ (cap : Int)) = true := decide_eq_true (by omega)
      have hci' : i ≤ cap := by omega
      have hlast := fun Wl (h : HasAc (az s) (some ⟨b, off, none⟩) Wl) => lastWrite_ok s I (some ⟨b, off, none⟩) i cap Wl (by omega) (by omega) h
      obtain ⟨wa, hwa⟩ : ∃ wa, (wr.alloc (.cells #[.int .i64 (T : Int), .int .i64 (I : Int), .int .i64 (W : Int)] 45)) = wa := ⟨_, rfl⟩
      have hoa : AcAt ⟨T, I, W⟩ wr.heap.size 0 wa := hwa ▸ acAt_new wr ⟨T, I, W⟩
      have hBa : Below w1.heap.size w1 wa := hwa ▸ bel_al hB _
      have hra : RowY 3 wa w1.heap.size (rdP s i) := hwa ▸ hrow.out.alloc _
      have hsa : wr.heap.size < wa.heap.size := by rw [← hwa]; simp
      have hHA := hc1.later hBa
      have hc2 : Hid (∀ W, Below w1.heap.size w1 W → HasAc (az s) (some ⟨b, off, none⟩) W) := fun W h => hc1.later h
      clear hc1 ha hrow
      have hf := hra.frozen i
      have hcl := hra.cell (k := i) (by rw [rdP_len]; omega)
      obtain ⟨g0, e0, e1, e2⟩ := hoa
      obtain ⟨z0, hz0⟩ : ∃ z0, rowY (rdP s i) i = z0 := ⟨_, rfl⟩
      rw [hz0] at hcl
      clear hz0
      by_cases hW : W = 1
      · have hd : ((W : Int) == 0) = false := by rw [hW]; rfl
        have HS : Hid ((rdP s i).set i (-1) = rdP s (i + 1)) := rdP_set (by rw [hrd, if_pos hW]; rfl)
        have hrN := hra.set i (-1)
        rw [HS.out] at hrN
        have HR : Hid (RowY 3 (wa.setCell ⟨w1.heap.size, i, none⟩ (.int .i64 (-1))) w1.heap.size (rdP s (i + 1))) := hrN
        have HB : Hid (Below w1.heap.size w1 (wa.setCell ⟨w1.heap.size, i, none⟩ (.int .i64 (-1)))) := hBa.setCell (p := ⟨w1.heap.size, i, none⟩) (Nat.le_refl _) _
        clear hrN hra hHA hlast hrd hW hwr2
        go_wp2_with fail
        go_roundw
        case rel => exact ⟨i + 1, by go_num, by omega, HR.out, HB.out, by simp; omega⟩
        case measure => simp [intOf]; omega
      · have hW0 : W = 0 := by omega
        have hd : ((W : Int) == 0) = true := by rw [hW0]; rfl
        have hB1 : Below w1.heap.size w1 (wa.setCell ⟨w1.heap.size, i, none⟩ (.int .i64 (-1))) := hBa.setCell (p := ⟨w1.heap.size, i, none⟩) (Nat.le_refl _) _
        have hHA2 := hc2.out _ hB1
        have hr1 := hra.set i (-1)
        have hg0 : wr.heap.size < (wa.setCell ⟨w1.heap.size, i, none⟩ (.int .i64 (-1))).heap.size := by simp; exact hsa
        have hz : Hid (oI (M.rdO s i) = oI (M.gst (M.wrB s I) i)) := by show _ = _; rw [hrd, if_neg (by omega)]
        obtain ⟨z, hzd⟩ : ∃ z, oI (M.gst (M.wrB s I) i) = z := ⟨_, rfl⟩
        simp only [hzd] at hlast
        have HS : Hid ((rdP s i).set i z = rdP s (i + 1)) := rdP_set (by rw [hz.out, hzd])
        have hf1 := hr1.frozen i
        have hc1' := hr1.cell (k := i) (by rw [List.length_set, rdP_len]; omega)
        have hrN := hr1.set i z
        rw [List.set_set, HS.out] at hrN
        have HR : Hid (RowY 3 ((wa.setCell ⟨w1.heap.size, i, none⟩ (.int .i64 (-1))).setCell ⟨w1.heap.size, i, none⟩ (.int .i64 z)) w1.heap.size (rdP s (i + 1))) := hrN
        have HB : Hid (Below w1.heap.size w1 ((wa.setCell ⟨w1.heap.size, i, none⟩ (.int .i64 (-1))).setCell ⟨w1.heap.size, i, none⟩ (.int .i64 z))) := hB1.setCell (p := ⟨w1.heap.size, i, none⟩) (Nat.le_refl _) _
        clear hrN hra hHA hrd hwr2 hr1 hz hzd hB1 hW hW0
        go_wp2_with fail
        obtain ⟨wb, hwb⟩ : ∃ wb, wa.setCell ⟨w1.heap.size, i, none⟩ (.int .i64 (-1)) = wb := ⟨_, rfl⟩
        have e1b : wb.cell? ⟨wr.heap.size, 1, none⟩ = some (.int .i64 (I : Nat)) := by rw [← hwb]; exact (World.cell?_of_block (Below.heap_setCell wa ⟨w1.heap.size, i, none⟩ (.int .i64 (-1)) wr.heap.size (by simp; omega))).trans e1
        rw [hwb] at hHA2 hg0 hf1 hc1' HR HB
        simp only [hwb]
        clear hwb hwa e0 e1 e2 hf hcl
        have hHb := fun m => hlast _ (hHA2.later (below_drewN wb m))
        clear hlast hHA2
        go_region_with (go_at_call 31; refine (hHb _).mono ?_; rintro e w' ⟨rfl, rfl⟩)
        all_goals go_wp2_with fail
        all_goals go_roundw
        case rel => exact ⟨i + 1, by go_num, by omega, HR.out.drew, HB.out.drew, by simp; omega⟩
        case measure => simp [intOf]; omega
    · obtain rfl : i = n := by omega
      have HR : Hid (RowY 3 wr w1.heap.size (rdZ s)) := by show RowY _ _ _ _; rw [← rdP_end, hl]; exact hrow.out
      go_wp2_with fail
      go_ret2
      exact ⟨w1.heap.size, rfl, HR.out, HB1.out.size, bel_on HB1.out hB⟩
end Go.Proofs.YtkkccafobfdjbaaDoor
