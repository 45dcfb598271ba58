/- A new bank (package snap, New). -/
import Derived.Test.YtplplgpfglaajaaDoorBk7
import Derived.Laws.MakeOwn
namespace Go.Proofs.YtplplgpfglaajaaDoor
open Go.RowKit
namespace M
/-- what is wrong with a bank's money -/
def newC (zs : List Int) : Nat := if zs.length = 0 then 5 else if 5 < zs.length then 4 else if ∃ i, i < zs.length ∧ ¬ (0 ≤ zs[i]?.getD 0 ∧ zs[i]?.getD 0 ≤ 1000) then 1 else 0
def mof (zs : List Int) (i : Nat) : Int := zs[i]?.getD 0
/-- the first k have theirs -/
def mok (zs : List Int) (k i : Nat) : Int := if i < k then mof zs i else 0
theorem newC_zero {zs : List Int} (h : newC zs = 0) : 0 < zs.length ∧ zs.length ≤ 5 ∧ ∀ i, i < zs.length → 0 ≤ mof zs i ∧ mof zs i ≤ 1000 := by
  unfold newC at h
  split at h
  · cases h
  split at h
  · cases h
  split at h
  · cases h
  · rename_i h1 h2 h3
    refine ⟨by omega, by omega, fun i hi => ?_⟩
    exact Decidable.not_not.1 (fun x => h3 ⟨i, hi, x⟩)
end M
theorem made_procs (n : Nat) : ∀ i, i < (madeCells #[.int .i64 0, .bool false, .int .i64 0] (n * 3)).size → (madeCells #[.int .i64 0, .bool false, .int .i64 0] (n * 3))[i]? = some (prF (M.newB (M.mok [] 0)) i) := fun i hi => by
  have hi' : i < n * 3 := by rw [size_madeCells] at hi; exact hi
  have h3 : i % 3 = 0 ∨ i % 3 = 1 ∨ i % 3 = 2 := by omega
  have e1 : ¬ (0 : Int) ≤ -1 := by omega
  rcases h3 with h | h | h <;> simp [madeCells, hi', prF, h, M.newB, M.mok]
theorem infoPr : (Tryd.prog.info? 52).map (fun i => (i.zero, i.size, i.bytes)) = some (some (.agg #[.int .i64 0, .bool false, .int .i64 0]), 3, 24) := by kernel_rfl
theorem make_procs (n : Nat) (hn : n ≤ 24) (w : World) : (Instr.makeSlice 49 (.int .i64 (n : Int)) (.int .i64 (n : Int))).run Tryd.prog w = .ok (.slice (some ⟨w.heap.size, 0, none⟩) n n) (w.alloc (.cells (madeCells #[.int .i64 0, .bool false, .int .i64 0] (n * 3)) 52)) := by
  obtain ⟨i, hi, hz, hs, hb⟩ := info_parts infoPr
  have := run_make (P := Tryd.prog) w 49 52 i _ Tryd.underlying49 hi hz .i64 .i64 n n (by omega) (Int.le_refl _) (by rw [hb]; omega) (by omega)
  rw [this, hs]
  rfl
/-- a bank of nothing, cell by cell -/
def zbk : Array Value := #[.slice none 0 0] ++ madeCells #[.slice none 0 0, .bool false, .int .i64 0] 75
theorem zeroBk : (Tryd.prog.info? 58).map (fun i => i.zero) = some (some (.agg zbk)) := by kernel_rfl
theorem zbk_size : zbk.size = 76 := by kernel_rfl
theorem zbk_ne : ¬ zbk = #[] := fun h => by have := zbk_size; rw [h] at this; cases this
theorem run_zbk (w : World) : (zeroValue 58).run Tryd.prog w = .ok (.agg zbk) w := by
  obtain ⟨i, hi, hz⟩ := Option.map_eq_some_iff.1 zeroBk
  simp [zeroValue, typeInfo, hi, hz]
theorem zbk_at (pv : Value) (m : Nat → Int) (i : Nat) (hi : i < 76) : (zbk.setIfInBounds 0 pv)[i]? = some (bkF pv (fun _ _ => .slice none 0 0) (M.newB m) i) := by
  rw [Array.getElem?_setIfInBounds]
  unfold bkF
  rcases i with _ | j
  · rw [if_pos rfl, if_pos (by rw [zbk_size]; omega), if_pos rfl]
  · have hj : j < 75 := by omega
    have h3 : j % 3 = 0 ∨ j % 3 = 1 ∨ j % 3 = 2 := by omega
    rw [if_neg (by omega), if_neg (by omega)]
    unfold zbk
    rw [Array.getElem?_append_right (by simp)]
    rcases h3 with h | h | h <;> simp [madeCells, hj, h, M.newB]
theorem prF_mok (zs : List Int) (k i : Nat) : (if i = k * 3 then Value.int .i64 (M.mof zs k) else prF (M.newB (M.mok zs k)) i) = prF (M.newB (M.mok zs (k + 1))) i := by
  by_cases e : i = k * 3
  · subst e
    rw [if_pos rfl, prF_mo]
    show _ = Value.int .i64 (M.mok zs (k + 1) k)
    unfold M.mok
    rw [if_pos (by omega)]
  · rw [if_neg e]
    unfold prF
    by_cases e0 : i % 3 = 0
    · rw [if_pos e0, if_pos e0]
      show Value.int .i64 (M.mok zs k (i / 3)) = Value.int .i64 (M.mok zs (k + 1) (i / 3))
      unfold M.mok
      by_cases e1 : i / 3 < k
      · rw [if_pos e1, if_pos (by omega)]
      · rw [if_neg e1, if_neg (by omega)]
    · rw [if_neg e0, if_neg e0]; rfl
set_option maxRecDepth 100000 in
set_option maxHeartbeats 1000000 in
theorem new_err (zs : List Int) (p : Option Addr) (n cap : Nat) (w : World) (hl : zs.length = n) (hmax : n ≤ maxLen) (hc : HasI zs p w) (he : M.newC zs ≠ 0) :
    Calls Tryd.prog 5 #[.slice p n cap] w fun e w' => e = .returned (.tuple #[.pointer none, terr (M.newC zs)]) ∧ Below w.heap.size w w' := by
  unfold maxLen at hmax
  by_cases h0 : n = 0
  · have e : M.newC zs = 5 := by unfold M.newC; rw [if_pos (by omega)]
    rw [e]
    subst h0
    clear e he
    go_enter Tryd.func5, Tryd.ntmps5
    go_wp2_with fail
    go_ret2
    exact ⟨rfl, Below.refl _ _⟩
  by_cases h5 : 5 < n
  · have e : M.newC zs = 4 := by unfold M.newC; rw [if_neg (by omega), if_pos (by omega)]
    rw [e]
    have hz : ((n : Int) == 0) = false := by simp; omega
    have h5' : (5 : Int) < (n : Int) := by omega
    clear e he h0
    go_enter Tryd.func5, Tryd.ntmps5
    go_wp2_with fail
    go_ret2
    exact ⟨rfl, Below.refl _ _⟩
  have hex : ∃ i, i < zs.length ∧ ¬ (0 ≤ zs[i]?.getD 0 ∧ zs[i]?.getD 0 ≤ 1000) := by
    apply Classical.byContradiction
    intro hx
    apply he
    unfold M.newC
    rw [if_neg (by omega), if_neg (by omega), if_neg hx]
  have e : M.newC zs = 1 := by unfold M.newC; rw [if_neg (by omega), if_neg (by omega), if_pos hex]
  rw [e]
  have hz : ((n : Int) == 0) = false := by simp; omega
  have hz' : (n == 0) = false := by simp; omega
  have h5' : (n : Int) ≤ 5 := by omega
  have HX : Hid (∃ i, i < zs.length ∧ ¬ (0 ≤ zs[i]?.getD 0 ∧ zs[i]?.getD 0 ≤ 1000)) := hex
  have hmk := make_procs n (by omega)
  have HL : Hid (zs.length = n) := hl
  obtain ⟨w1, hw1⟩ : ∃ w1, w.alloc (.cells (madeCells #[.int .i64 0, .bool false, .int .i64 0] (n * 3)) 52) = w1 := ⟨_, rfl⟩
  have hB1 : Below w.heap.size w w1 := by rw [← hw1]; exact bel_al (Below.refl _ _) _
  have hR1 : w1.rowIs w.heap.size 52 (n * 3) (prF (M.newB (M.mok zs 0))) := by
    rw [← hw1]
    have := World.rowIs_alloc w _ 52 _ (made_procs n)
    rw [size_madeCells] at this
    exact this
  clear e he h0 h5 hex hl
  go_enter Tryd.func5, Tryd.ntmps5
  go_wp2_with fail
  go_loopw [20] (fun v wr => ∃ k : Nat, v = .int .i64 k ∧ k ≤ n ∧ Hid (∀ j, j < k → 0 ≤ M.mof zs j ∧ M.mof zs j ≤ 1000) ∧ wr.rowIs w.heap.size 52 (n * 3) (prF (M.newB (M.mok zs k))) ∧ Below w.heap.size w wr) (fun v _ => n - (intOf v).toNat)
  case atStart => exact ⟨0, rfl, Nat.zero_le _, show ∀ j, j < 0 → _ from fun j hj => absurd hj (Nat.not_lt_zero _), hR1, hB1⟩
  case round =>
    clear hw1 hB1 hR1 hmk
    obtain ⟨k, rfl, hk, hJ, hR, hB⟩ := hrel
    by_cases hlt : k < n
    · obtain ⟨z, hzz⟩ : ∃ z, zs[k]?.getD 0 = z := ⟨_, rfl⟩
      obtain ⟨b0, off, rfl, hb, hcz⟩ := (hc.later hB) k (by have := HL.out; omega)
      rw [hzz] at hcz
      have hcm := hR.cell (i := k * 3) (by omega)
      have hfm := hR.frozen (k * 3)
      have hlP := hR.lt
      have hki : (k : Int) < n := by omega
      by_cases hs : 0 ≤ z ∧ z ≤ 1000
      · have hsb : sumZ z = true := decide_eq_true hs
        have HR : Hid ((wr.setCell ⟨w.heap.size, k * 3, none⟩ (.int .i64 z)).rowIs w.heap.size 52 (n * 3) (prF (M.newB (M.mok zs (k + 1))))) := (hR.set (k * 3) (.int .i64 z)).congr (fun i _ => by rw [← hzz]; exact prF_mok zs k i)
        have HJ : Hid (∀ j, j < k + 1 → 0 ≤ M.mof zs j ∧ M.mof zs j ≤ 1000) := fun j hj => by
          by_cases x : j = k
          · subst x; unfold M.mof; rw [hzz]; exact hs
          · exact hJ.out j (by omega)
        have HB : Hid (Below w.heap.size w (wr.setCell ⟨w.heap.size, k * 3, none⟩ (.int .i64 z))) := hB.setCell (p := ⟨w.heap.size, k * 3, none⟩) (Nat.le_refl _) _
        clear hR hJ hs hc hzz hB
        go_wp2_with fail
        refine (isSum_ok z wr).mono ?_
        rw [hsb]
        rintro e w' ⟨rfl, rfl⟩
        clear hsb
        go_wp2_with fail
        go_roundw
        case rel => exact ⟨k + 1, by go_num, by omega, HJ, HR.out, HB.out⟩
        case measure => simp [intOf]; omega
      · have hsb : sumZ z = false := decide_eq_false hs
        have HB : Hid (Below w.heap.size w wr) := hB
        clear hR hJ hs hc hzz hB
        go_wp2_with fail
        refine (isSum_ok z wr).mono ?_
        rw [hsb]
        rintro e w' ⟨rfl, rfl⟩
        clear hsb
        go_wp2_with fail
        go_ret2
        exact ⟨rfl, HB.out⟩
    · obtain ⟨i, hi, hx⟩ := HX.out
      exact absurd (hJ.out i (by have := HL.out; omega)) hx
set_option maxRecDepth 100000 in
set_option maxHeartbeats 1000000 in
theorem new_ok (zs : List Int) (p : Option Addr) (n cap : Nat) (w : World) (hl : zs.length = n) (hmax : n ≤ maxLen) (hc : HasI zs p w) (he : M.newC zs = 0) {O : Nat → Prop} (hO : ∀ k, w.heap.size ≤ k → O k) :
    Calls Tryd.prog 5 #[.slice p n cap] w fun e w' => ∃ S, e = .returned (.tuple #[.pointer (some ⟨S, 0, none⟩), .nilIface]) ∧ BV O S n (M.newB (M.mof zs)) w' ∧ Below w.heap.size w w' := by
  unfold maxLen at hmax
  obtain ⟨h0, h5, hall⟩ := M.newC_zero he
  have hz : ((n : Int) == 0) = false := by simp; omega
  have hz' : (n == 0) = false := by simp; omega
  have h5' : (n : Int) ≤ 5 := by omega
  have hmk := make_procs n (by omega)
  have HL : Hid (zs.length = n) := hl
  obtain ⟨w1, hw1⟩ : ∃ w1, w.alloc (.cells (madeCells #[.int .i64 0, .bool false, .int .i64 0] (n * 3)) 52) = w1 := ⟨_, rfl⟩
  have hB1 : Below w.heap.size w w1 := by rw [← hw1]; exact bel_al (Below.refl _ _) _
  have hR1 : w1.rowIs w.heap.size 52 (n * 3) (prF (M.newB (M.mok zs 0))) := by
    rw [← hw1]
    have := World.rowIs_alloc w _ 52 _ (made_procs n)
    rw [size_madeCells] at this
    exact this
  clear he h0 h5 hl
  go_enter Tryd.func5, Tryd.ntmps5
  go_wp2_with fail
  go_loopw [20] (fun v wr => ∃ k : Nat, v = .int .i64 k ∧ k ≤ n ∧ Hid (∀ j, j < k → 0 ≤ M.mof zs j ∧ M.mof zs j ≤ 1000) ∧ wr.rowIs w.heap.size 52 (n * 3) (prF (M.newB (M.mok zs k))) ∧ Below w.heap.size w wr) (fun v _ => n - (intOf v).toNat)
  case atStart => exact ⟨0, rfl, Nat.zero_le _, show ∀ j, j < 0 → _ from fun j hj => absurd hj (Nat.not_lt_zero _), hR1, hB1⟩
  case round =>
    clear hw1 hB1 hR1 hmk
    obtain ⟨k, rfl, hk, hJ, hR, hB⟩ := hrel
    by_cases hlt : k < n
    · obtain ⟨z, hzz⟩ : ∃ z, zs[k]?.getD 0 = z := ⟨_, rfl⟩
      obtain ⟨b0, off, rfl, hb, hcz⟩ := (hc.later hB) k (by have := HL.out; omega)
      rw [hzz] at hcz
      have hcm := hR.cell (i := k * 3) (by omega)
      have hfm := hR.frozen (k * 3)
      have hlP := hR.lt
      have hki : (k : Int) < n := by omega
      have hs : 0 ≤ z ∧ z ≤ 1000 := by rw [← hzz]; exact hall k (by have := HL.out; omega)
      have hsb : sumZ z = true := decide_eq_true hs
      have HR : Hid ((wr.setCell ⟨w.heap.size, k * 3, none⟩ (.int .i64 z)).rowIs w.heap.size 52 (n * 3) (prF (M.newB (M.mok zs (k + 1))))) := (hR.set (k * 3) (.int .i64 z)).congr (fun i _ => by rw [← hzz]; exact prF_mok zs k i)
      have HJ : Hid (∀ j, j < k + 1 → 0 ≤ M.mof zs j ∧ M.mof zs j ≤ 1000) := fun j hj => by
        by_cases x : j = k
        · subst x; unfold M.mof; rw [hzz]; exact hs
        · exact hJ.out j (by omega)
      have HB : Hid (Below w.heap.size w (wr.setCell ⟨w.heap.size, k * 3, none⟩ (.int .i64 z))) := hB.setCell (p := ⟨w.heap.size, k * 3, none⟩) (Nat.le_refl _) _
      clear hR hJ hs hc hzz hB
      go_wp2_with fail
      refine (isSum_ok z wr).mono ?_
      rw [hsb]
      rintro e w' ⟨rfl, rfl⟩
      clear hsb
      go_wp2_with fail
      go_roundw
      case rel => exact ⟨k + 1, by go_num, by omega, HJ, HR.out, HB.out⟩
      case measure => simp [intOf]; omega
    · obtain rfl : n = k := by omega
      obtain ⟨Z, hZ⟩ : ∃ Z, zbk = Z := ⟨_, rfl⟩
      have hz1 := run_zbk wr
      have hz2 := zbk_ne
      have hz3 := zbk_size
      have FIN : Hid (BV O wr.heap.size n (M.newB (M.mof zs)) (wr.alloc (.cells (zbk.setIfInBounds 0 (.slice (some ⟨w.heap.size, 0, none⟩) n n)) 58))) := by
        refine ⟨w.heap.size, fun _ _ => .slice none 0 0, ⟨?_, ?_, fun q p _ _ => ?_, fun _ _ _ _ g _ _ _ _ e _ => ?_⟩, ⟨hO _ (Nat.le_of_lt hR.lt), hO _ (Nat.le_refl _), fun _ _ g _ _ e => ?_⟩⟩
        · have := World.rowIs_alloc wr (zbk.setIfInBounds 0 (.slice (some ⟨w.heap.size, 0, none⟩) n n)) 58 (bkF (.slice (some ⟨w.heap.size, 0, none⟩) n n) (fun _ _ => .slice none 0 0) (M.newB (M.mof zs))) (fun i hi => zbk_at _ _ i (by rw [Array.size_setIfInBounds, zbk_size] at hi; exact hi))
          rw [Array.size_setIfInBounds, zbk_size] at this
          exact this
        · refine (hR.alloc _).congr (fun i hi => ?_)
          unfold prF
          by_cases e0 : i % 3 = 0
          · rw [if_pos e0, if_pos e0]
            show Value.int .i64 (M.mok zs n (i / 3)) = Value.int .i64 (M.mof zs (i / 3))
            unfold M.mok
            rw [if_pos (by omega)]
          · rw [if_neg e0, if_neg e0]; rfl
        · exact World.ownsRow_nil _ _ _ _
        · cases e
        · cases e
      have HB : Hid (Below w.heap.size w (wr.alloc (.cells (zbk.setIfInBounds 0 (.slice (some ⟨w.heap.size, 0, none⟩) n n)) 58))) := bel_al hB _
      rw [hZ] at hz1 hz2 hz3 FIN HB
      clear hR hJ hc hB hZ
      go_wp2_with fail
      go_ret2
      exact ⟨_, rfl, FIN.out, HB.out⟩
end Go.Proofs.YtplplgpfglaajaaDoor
