/- The document's answers: of whom each act reads (whensteadref3.Reads), and the places of all acts, transaction by transaction (Ordered). -/
import Derived.Test.YtkkccafobfdjbaaDoorSc5
import Derived.Test.YtkkccafobfdjbaaDoorRefS1
import Derived.Test.YtkkccafobfdjbaaDoorRwy
namespace Go.Proofs.YtkkccafobfdjbaaDoor
open Go.RowKit

/-- Whole numbers as cells. -/
def ycells (m : List Int) : List Value := m.map fun x => Value.int .i64 x
theorem ycells_snoc (m : List Int) (x : Int) : ycells (m ++ [x]) = ycells m ++ [.int .i64 x] := by simp [ycells]
theorem hasI_of_ownsY {w : World} {base n cap : Nat} {p : Option Addr} {m : List Int} (hm : m.length = n) (h : w.ownsRow base 3 1 (.slice p n cap) n (ycells m)) : HasI m p w := by
  rcases h.2 with ⟨e, rfl⟩ | ⟨g, cap, cur, e, hb, hg, h1, h2, h3, h4⟩
  · exact fun j hj => by omega
  · cases e
    refine fun j hj => ⟨g, 0, rfl, (Array.getElem?_eq_some_iff.1 hg).1, ?_⟩
    have hc := h.cellAt j (by omega)
    rw [Nat.zero_add, hc]
    unfold ycells
    rw [List.getElem?_map, List.getElem?_eq_getElem hj]
    rfl
theorem rdZ_take {s : List M.SAct} {i : Nat} (hi : i < s.length) : (rdZ s).take (i + 1) = (rdZ s).take i ++ [oI (M.rdO s i)] := by
  rw [List.take_add_one]
  congr 1
  rw [List.getElem?_eq_getElem (by rw [rdZ_len]; exact hi)]
  simp [rdZ]
theorem gst_more {p : Nat → Bool} {n : Nat} : M.gst p (n + 1) = if p n then some n else M.gst p n := rfl
set_option maxRecDepth 100000 in
set_option maxHeartbeats 4000000 in
theorem refReads_ok (s : List M.SAct) (p : Option Addr) (n cap : Nat) (w : World) (hl : s.length = n) (hk : M.AOk s) (hc : HasAc (az s) p w) :
    Calls Tryd.prog 12 #[.slice p n cap] w fun e w' => ∃ a c, e = .returned (.slice a n c) ∧ HasI (rdZ s) a w' ∧ Below w.heap.size w w' := by
  have hn24 : n ≤ 24 := by have := hk.len; omega
  obtain ⟨i0, hi0, hz0, hz1, hz2⟩ := info_parts Tryd.info3
  go_enter Tryd.func12, Tryd.ntmps12
  go_wp2_with fail
  go_loopw [3, 4] (fun pv v wr => ∃ i : Nat, v = .int .i64 i ∧ i ≤ n ∧ wr.ownsRow w.heap.size 3 1 pv i (ycells ((rdZ s).take i)) ∧ Below w.heap.size w wr) (fun _ v _ => n - (intOf v).toNat)
  case atStart => exact ⟨0, rfl, Nat.zero_le _, World.ownsRow_nil _ _ _ _, Below.refl _ _⟩
  case round =>
    obtain ⟨i, rfl, hi, hown, hB⟩ := hrel
    obtain ⟨wo, hwo⟩ : ∃ wo, wo = wr := ⟨_, rfl⟩
    subst hwo
    by_cases hlt : i < n
    · have hin : (i : Int) < (n : Int) := by omega
      have hAc := hc.later hB
      have hwr2 := hk.wr i
      have hrd : M.rdO s i = if (M.sat s i).wr = 1 then none else M.gst (M.wrB s (M.sat s i).it) i := rfl
      have hwb : ∀ o j, M.wrB s o j = ((M.sat s j).it == o && (M.sat s j).wr == 1) := fun _ _ => rfl
      have HTK : Hid _ := rdZ_take (s := s) (i := i) (by omega)
      obtain ⟨b, off, rfl, hop⟩ := hAc i (by rw [az_len]; omega)
      rw [aAt_az] at hop
      obtain ⟨⟨T, I, W⟩, ha⟩ : ∃ a, M.sat s i = a := ⟨_, rfl⟩
      rw [ha] at hop hwr2 hrd
      obtain ⟨hb, k0, k1, k2⟩ := hop
      simp only [azN] at k0 k1 k2 hwr2 hrd
      have HS : Hid (M.sat s i = ⟨T, I, W⟩) := ha
      have HRD : Hid (M.rdO s i = if W = 1 then none else M.gst (M.wrB s I) i) := hrd
      have HWB : Hid (∀ o j, M.wrB s o j = ((M.sat s j).it == o && (M.sat s j).wr == 1)) := hwb
      have HKP : Hid (∀ W', Below w.heap.size w W' → HasAc (az s) (some ⟨b, off, none⟩) W') := fun W' h => hc.later h
      clear ha hrd hwb hc hAc
      have hownx : Hid (wo.ownsRow w.heap.size 3 1 u3 i (ycells ((rdZ s).take i))) := hown
      have hBx := hB
      clear hown hB
      by_cases hW : W = 1
      · have hd : ((W : Int) == 0) = false := by rw [hW]; rfl
        have HEND : Hid (oI (M.rdO s i) = -1) := by show _ = _; rw [HRD.out, if_pos hW]; rfl
        clear hW hwr2
        by_cases hi00 : 0 < i
        · have hi0' : (0 : Int) < (i : Int) := by omega
          go_wp2_with fail
          go_loop [5, 6] (fun kv v => kv = .int .i64 (-1) ∧ v = .int .i64 0) (fun _ v => 0)
          case atStart => exact ⟨rfl, rfl⟩
          case round =>
            obtain ⟨rfl, rfl⟩ := hrel
            have hszr := hBx.size
            go_wp2_with (at_builtin; refine wpList_append_own _ rfl _ _ 23 rfl w.heap.size 3 i0 (.int .i64 0) 1 8 Tryd.underlying23 hi0 hz0 hz1 hz2 rfl (by decide) _ _ _ rfl (hownx.out.alloc _) ⟨wo.heap.size, 0, none⟩ 1 1 [.int .i64 (-1)] rfl rfl (cell_one_new _ _ _) (by simp [Value.oneCell']) (by unfold maxLen; omega) (by omega) (by simp; omega) ?_; intro v' w6 hown' hgrow _)
            have hB6 : Below w.heap.size w w6 := (bel_al hBx _).grown hgrow (by simp; omega) (fun j e => (hownx.out.lt j e).1)
            have ho6 : w6.ownsRow w.heap.size 3 1 v' (i + 1) (ycells ((rdZ s).take (i + 1))) := by
              rw [HTK.out, ycells_snoc, HEND.out]; exact hown'
            clear hown' hgrow
            go_wp2_with fail
            go_roundw
            case rel => exact ⟨i + 1, by go_num, by omega, ho6, hB6⟩
            case measure => simp [intOf]; omega
        · have hi0' : decide ((0 : Int) < (i : Int)) = false := decide_eq_false (by omega)
          have hi0n : decide (0 < i) = false := decide_eq_false hi00
          clear hi00
          go_wp2_with fail
          go_loop [5, 6] (fun kv v => kv = .int .i64 (-1) ∧ v = .int .i64 0) (fun _ v => 0)
          case atStart => exact ⟨rfl, rfl⟩
          case round =>
            obtain ⟨rfl, rfl⟩ := hrel
            have hszr := hBx.size
            go_wp2_with (at_builtin; refine wpList_append_own _ rfl _ _ 23 rfl w.heap.size 3 i0 (.int .i64 0) 1 8 Tryd.underlying23 hi0 hz0 hz1 hz2 rfl (by decide) _ _ _ rfl (hownx.out.alloc _) ⟨wo.heap.size, 0, none⟩ 1 1 [.int .i64 (-1)] rfl rfl (cell_one_new _ _ _) (by simp [Value.oneCell']) (by unfold maxLen; omega) (by omega) (by simp; omega) ?_; intro v' w6 hown' hgrow _)
            have hB6 : Below w.heap.size w w6 := (bel_al hBx _).grown hgrow (by simp; omega) (fun j e => (hownx.out.lt j e).1)
            have ho6 : w6.ownsRow w.heap.size 3 1 v' (i + 1) (ycells ((rdZ s).take (i + 1))) := by
              rw [HTK.out, ycells_snoc, HEND.out]; exact hown'
            clear hown' hgrow
            go_wp2_with fail
            go_roundw
            case rel => exact ⟨i + 1, by go_num, by omega, ho6, hB6⟩
            case measure => simp [intOf]; omega
      · have hW0 : W = 0 := by omega
        have hd : ((W : Int) == 0) = true := by rw [hW0]; rfl
        have HE0 : Hid (M.rdO s i = M.gst (M.wrB s I) i) := by show _ = _; rw [HRD.out, if_neg hW]
        clear hW hwr2 hW0
        go_wp2_with fail
        go_loopw [5, 6] (fun kv v wr => ∃ j : Nat, v = .int .i64 j ∧ j ≤ i ∧ kv = .int .i64 (oI (M.gst (M.wrB s I) j)) ∧ Hid (wr.ownsRow w.heap.size 3 1 u3 i (ycells ((rdZ s).take i))) ∧ Below w.heap.size w wr) (fun _ v _ => i - (intOf v).toNat)
        case atStart => exact ⟨0, rfl, Nat.zero_le _, rfl, hownx, hBx⟩
        case round =>
          clear hownx hBx k0 k1 k2 hb
          obtain ⟨j, rfl, hji, rfl, hownx, hBx⟩ := hrel
          obtain ⟨_, _, e0, hopi⟩ := HKP.out _ hBx i (by rw [az_len]; omega)
          cases e0
          rw [aAt_az, HS.out] at hopi
          obtain ⟨hb, k0, k1, k2⟩ := hopi
          simp only [azN] at k0 k1 k2
          by_cases hj : j < i
          · have hjii : (j : Int) < (i : Int) := by omega
            have hjn : (j : Int) < (n : Int) := by omega
            obtain ⟨_, _, e0, hopj⟩ := HKP.out _ hBx j (by rw [az_len]; omega)
            cases e0
            rw [aAt_az] at hopj
            have hwbj := HWB.out I j
            obtain ⟨⟨T2, I2, W2⟩, ha2⟩ : ∃ a, M.sat s j = a := ⟨_, rfl⟩
            rw [ha2] at hopj hwbj
            obtain ⟨_, f0, f1, f2⟩ := hopj
            simp only [azN] at f0 f1 f2 hwbj
            have hg : oI (M.gst (M.wrB s I) (j + 1)) = if M.wrB s I j then (j : Int) else oI (M.gst (M.wrB s I) j) := by
              rw [gst_more]; split <;> rfl
            have HDN : Hid (∀ m, Hid ((wr.drewN m).ownsRow w.heap.size 3 1 u3 i (ycells ((rdZ s).take i))) ∧ Below w.heap.size w (wr.drewN m)) := fun m => ⟨ownsRow_drN hownx.out m, bel_on hBx (below_drewN wr m)⟩
            obtain ⟨z, hz⟩ : ∃ z, oI (M.gst (M.wrB s I) j) = z := ⟨_, rfl⟩
            rw [hz] at hg ⊢
            clear ha2 hz hownx
            by_cases hI : I2 = I
            · have e1 : ((I2 : Int) == (I : Int)) = true := by rw [hI]; exact beq_self_eq_true _
              by_cases hW2 : W2 = 1
              · have e2 : ((W2 : Int) == 1) = true := by rw [hW2]; rfl
                have HG : Hid (oI (M.gst (M.wrB s I) (j + 1)) = (j : Int)) := by show _ = _; rw [hg, if_pos (by rw [hwbj, hI, hW2]; simp)]
                clear hI hW2 hg hwbj
                go_wp2_with fail
                go_big_quiet (fail)
                go_wp2_with fail
                go_roundw
                case rel => exact ⟨j + 1, by go_num, by omega, by rw [HG.out], (HDN.out _).1, (HDN.out _).2⟩
                case measure => simp [intOf]; omega
              · have e2 : ((W2 : Int) == 1) = false := by simpa using (by omega : ¬ (W2 : Int) = 1)
                have HG : Hid (oI (M.gst (M.wrB s I) (j + 1)) = z) := by show _ = _; rw [hg, if_neg (by rw [hwbj]; simp [hW2])]
                clear hI hW2 hg hwbj
                go_wp2_with fail
                go_big_quiet (fail)
                go_wp2_with fail
                go_roundw
                case rel => exact ⟨j + 1, by go_num, by omega, by rw [HG.out], (HDN.out _).1, (HDN.out _).2⟩
                case measure => simp [intOf]; omega
            · have e1 : ((I2 : Int) == (I : Int)) = false := by simpa using (by omega : ¬ (I2 : Int) = (I : Int))
              have HG : Hid (oI (M.gst (M.wrB s I) (j + 1)) = z) := by show _ = _; rw [hg, if_neg (by rw [hwbj]; simp [hI])]
              clear hI hg hwbj
              go_wp2_with fail
              go_big_quiet (fail)
              go_wp2_with fail
              go_roundw
              case rel => exact ⟨j + 1, by go_num, by omega, by rw [HG.out], (HDN.out _).1, (HDN.out _).2⟩
              case measure => simp [intOf]; omega
          · obtain rfl : j = i := by omega
            have HEND : Hid (oI (M.rdO s j) = oI (M.gst (M.wrB s I) j)) := by show _ = _; rw [HE0.out]
            obtain ⟨z, hz⟩ : ∃ z, oI (M.gst (M.wrB s I) j) = z := ⟨_, rfl⟩
            rw [hz] at HEND ⊢
            clear hz
            have hszr := hBx.size
            go_wp2_with (at_builtin; refine wpList_append_own _ rfl _ _ 23 rfl w.heap.size 3 i0 (.int .i64 0) 1 8 Tryd.underlying23 hi0 hz0 hz1 hz2 rfl (by decide) _ _ _ rfl (hownx.out.alloc _) ⟨wr.heap.size, 0, none⟩ 1 1 [.int .i64 z] rfl rfl (cell_one_new _ _ _) (by simp [Value.oneCell']) (by unfold maxLen; omega) (by omega) (by simp; omega) ?_; intro v' w6 hown' hgrow _)
            have hB6 : Below w.heap.size w w6 := (bel_al hBx _).grown hgrow (by simp; omega) (fun j e => (hownx.out.lt j e).1)
            have ho6 : w6.ownsRow w.heap.size 3 1 v' (j + 1) (ycells ((rdZ s).take (j + 1))) := by
              rw [HTK.out, ycells_snoc, HEND.out]; exact hown'
            clear hown' hgrow
            go_wp2_with fail
            go_roundw
            case rel => exact ⟨j + 1, by go_num, by omega, ho6, hB6⟩
            case measure => simp [intOf]; omega
    · obtain rfl : i = n := by omega
      have hall : (rdZ s).take i = rdZ s := List.take_of_length_le (by rw [rdZ_len]; omega)
      rw [hall] at hown
      obtain ⟨pv, cv, rfl⟩ := owns_slice hown
      have HI : Hid (HasI (rdZ s) pv wo) := hasI_of_ownsY (by rw [rdZ_len, hl]) hown
      clear hown
      go_wp2_with fail
      go_ret
      exact ⟨pv, cv, rfl, HI.out, hB⟩
set_option maxRecDepth 100000 in
set_option maxHeartbeats 1000000 in
theorem refOrdered_shape (p q : Option Addr) (n cap m cap' : Nat) (w : World) (hne : m ≠ 5) :
    Calls Tryd.prog 13 #[.slice p n cap, .slice q m cap'] w fun e w' => e = .returned (.tuple #[.slice none 0 0, .int .i64 3]) ∧ Below w.heap.size w w' := by
  have hd : ((m : Int) != 5) = true := by simp; omega
  clear hne
  go_enter Tryd.func13, Tryd.ntmps13
  go_wp2_with fail
  go_ret2
  exact ⟨rfl, Below.refl _ _⟩
end Go.Proofs.YtkkccafobfdjbaaDoor
