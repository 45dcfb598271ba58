/- A process's events (package trace, Of; and the document's, package whensteadref2, Of); what lay in memory lies as it lay. -/
import Derived.Test.YtlhpkpjcfjdgaaaDoorBOi
import Derived.Test.YtlhpkpjcfjdgaaaDoorRefTrc
namespace Go.Proofs.YtlhpkpjcfjdgaaaDoor
open Go.RowKit
namespace M
/-- the events below i of process p -/
def ofs (T : List (Int × Int)) (p : Int) : Nat → List Nat
  | 0 => []
  | i + 1 => if pr T i = p then ofs T p i ++ [i] else ofs T p i
theorem ofs_length (T : List (Int × Int)) (p : Int) (i : Nat) : (ofs T p i).length ≤ i := by
  induction i with
  | zero => exact Nat.le_refl _
  | succ i ih =>
    simp only [ofs]
    split
    · simp; omega
    · omega
theorem ofs_hit {T : List (Int × Int)} {p : Int} {i : Nat} (h : pr T i = p) : ofs T p (i + 1) = ofs T p i ++ [i] := by simp only [ofs]; rw [if_pos h]
theorem ofs_miss {T : List (Int × Int)} {p : Int} {i : Nat} (h : ¬ pr T i = p) : ofs T p (i + 1) = ofs T p i := by simp only [ofs]; rw [if_neg h]
end M
set_option maxRecDepth 100000 in
set_option maxHeartbeats 4000000 in
theorem refOf_ok (P pz : Int) (T : List (Int × Int)) (p : Option Addr) (n cap : Nat) (w : World) (hl : T.length = n) (hc : HasE T p w) (hn : n ≤ 24) :
    Calls Tryd.prog 39 #[trV P p n cap, .int .i64 pz] w fun e w' => ∃ q c, e = .returned (.slice q (M.ofs T pz n).length c) ∧ HasI (ints (M.ofs T pz n)) q w' ∧ Below w.heap.size w w' := by
  have hB0 : Below w.heap.size w (w.alloc (.cells #[.int .i64 P, .slice p n cap] 24)) := (Below.refl _ _).alloc (Nat.le_refl _) _
  have hbox := tbox_new w P p n cap
  have hcb := hc.later hB0
  obtain ⟨w1, hw1⟩ : ∃ wb, w.alloc (.cells #[.int .i64 P, .slice p n cap] 24) = wb := ⟨_, rfl⟩
  rw [hw1] at hB0 hbox hcb
  have hk2 := hbox.events
  obtain ⟨i0, hi0, hz0, hz1, hz2⟩ := info_parts infoInt
  go_enter Tryd.func39, Tryd.ntmps39
  go_wp2_with fail
  go_loopw [5, 6] (fun v c wr => ∃ (i m : Nat), i ≤ n ∧ c = .int .i64 i ∧ Hid ((M.ofs T pz i).length = m) ∧ m ≤ i ∧ wr.ownsRow w1.heap.size 3 1 v m (icells (M.ofs T pz i)) ∧ Below w1.heap.size w1 wr) (fun _ c _ => n - (intOf c).toNat)
  case atStart => exact ⟨0, 0, Nat.zero_le _, rfl, (show (M.ofs T pz 0).length = 0 from rfl), Nat.le_refl _, World.ownsRow_nil _ _ _ _, Below.refl _ _⟩
  case round =>
    clear hk2 hw1
    obtain ⟨i, m, hi, rfl, hm, hmi, hown, hB⟩ := hrel
    have hbr := hbox.later hB hbox.lt
    have hk2 := hbr.events
    obtain ⟨q, c, rfl⟩ := owns_slice hown
    by_cases hlt : i < n
    · obtain ⟨b, off, rfl, hb, hp1, hp3⟩ := (hcb.later hB) i (by omega)
      obtain ⟨a, ha⟩ : ∃ a, M.pr T i = a := ⟨_, rfl⟩
      rw [ha] at hp1
      by_cases he : a = pz
      · have hd : (a == pz) = true := by rw [he]; exact beq_self_eq_true _
        have HE : Hid (icells (M.ofs T pz (i + 1)) = icells (M.ofs T pz i) ++ [.int .i64 (i : Nat)]) := by
          show _ = _
          rw [M.ofs_hit (by rw [ha, he]), icells_snoc]
        have HM : Hid ((M.ofs T pz (i + 1)).length = m + 1) := by show _ = _; rw [M.ofs_hit (by rw [ha, he])]; simp [hm.out]
        clear he ha
        go_wp2_with (at_builtin; refine wpList_append_own _ rfl _ _ 25 rfl w1.heap.size 3 i0 (.int .i64 0) 1 8 Tryd.underlying25 hi0 hz0 hz1 hz2 rfl (by decide) _ _ _ rfl (hown.alloc _) ⟨wr.heap.size, 0, none⟩ 1 1 [.int .i64 (i : Nat)] rfl rfl (cell_one_new _ _ _) (by simp [Value.oneCell']) (by unfold maxLen; omega) (by omega) (by have := hB.size; simp; omega) ?_; intro v' w5 hown' hgrow _)
        have hB1 : Below w1.heap.size w1 w5 := (hB.alloc hB.size _).grown hgrow (by have := hB.size; simp; omega) (fun j e => (hown.lt j e).1)
        first | go_roundw | skip
        case rel => exact ⟨i + 1, m + 1, by omega, by go_num, HM, by omega, by rw [HE.out]; exact hown', hB1⟩
        case measure => simp [intOf]; omega
      · have hd : (a == pz) = false := by simpa using he
        have HE : Hid (M.ofs T pz (i + 1) = M.ofs T pz i) := M.ofs_miss (by rw [ha]; exact he)
        clear he ha
        go_wp2_with fail
        go_roundw
        case rel => exact ⟨i + 1, m, by omega, by go_num, by rw [HE.out]; exact hm, by omega, by rw [HE.out]; exact hown, hB⟩
        case measure => simp [intOf]; omega
    · obtain rfl : i = n := by omega
      have hhas := hasI_of_owns hm.out hown
      go_wp2_with fail
      go_ret
      exact ⟨q, c, by rw [hm.out]; rfl, hhas, bel_on hB0 hB⟩
set_option maxHeartbeats 1000000 in
theorem of_err (P pz : Int) (T : List (Int × Int)) (p : Option Addr) (n cap c : Nat) (w : World) (hl : T.length = n) (hmax : n ≤ maxLen) (hc : HasE T p w) (h0 : M.tcode P T = c) (hne : c ≠ 0) :
    Calls Tryd.prog 25 #[trV P p n cap, .int .i64 pz] w fun e w' => e = .returned (.tuple #[.slice none 0 0, .iface 74 (.int .i64 (c : Nat))]) ∧ Below w.heap.size w w' := by
  have hB0 : Below w.heap.size w (w.alloc (.cells #[.int .i64 P, .slice p n cap] 24)) := (Below.refl _ _).alloc (Nat.le_refl _) _
  have hcb := hc.later hB0
  go_enter Tryd.func25, Tryd.ntmps25
  go_wp2_with fail
  refine (check_tr P T p n cap _ hl hmax hcb).mono ?_
  rw [h0, terr_ne hne]
  rintro e w1 ⟨rfl, hB1⟩
  go_wp2_with fail
  go_ret2
  exact ⟨rfl, bel_on hB0 hB1⟩
set_option maxHeartbeats 1000000 in
theorem of_range (P pz : Int) (T : List (Int × Int)) (p : Option Addr) (n cap : Nat) (w : World) (hl : T.length = n) (hmax : n ≤ maxLen) (hc : HasE T p w) (h0 : M.tcode P T = 0) (hp : thingZ pz P = false) :
    Calls Tryd.prog 25 #[trV P p n cap, .int .i64 pz] w fun e w' => e = .returned (.tuple #[.slice none 0 0, .iface 74 (.int .i64 1)]) ∧ Below w.heap.size w w' := by
  have hB0 : Below w.heap.size w (w.alloc (.cells #[.int .i64 P, .slice p n cap] 24)) := (Below.refl _ _).alloc (Nat.le_refl _) _
  have hcb := hc.later hB0
  have hbox := tbox_new w P p n cap
  go_enter Tryd.func25, Tryd.ntmps25
  go_wp2_with fail
  refine (check_tr P T p n cap _ hl hmax hcb).mono ?_
  rw [h0, terr_zero]
  rintro e w1 ⟨rfl, hB1⟩
  have hk1 := (hbox.later hB1 hbox.lt).procs
  have hth := isThing_z pz P w1
  rw [hp] at hth
  go_wp2_with fail
  refine hth.mono ?_
  rintro e w2 ⟨rfl, rfl⟩
  go_wp2_with fail
  go_ret2
  exact ⟨rfl, bel_on hB0 hB1⟩
set_option maxRecDepth 100000 in
set_option maxHeartbeats 4000000 in
theorem of_ok (P pz : Int) (T : List (Int × Int)) (p : Option Addr) (n cap : Nat) (w : World) (hl : T.length = n) (hmax : n ≤ maxLen) (hc : HasE T p w) (h0 : M.tcode P T = 0) (hp : thingZ pz P = true) :
    Calls Tryd.prog 25 #[trV P p n cap, .int .i64 pz] w fun e w' => ∃ q c, e = .returned (.tuple #[.slice q (M.ofs T pz n).length c, .nilIface]) ∧ HasI (ints (M.ofs T pz n)) q w' ∧ Below w.heap.size w w' := by
  have hn : n ≤ 24 := hl ▸ (M.tcode_zero.1 h0).len
  have hB0 : Below w.heap.size w (w.alloc (.cells #[.int .i64 P, .slice p n cap] 24)) := (Below.refl _ _).alloc (Nat.le_refl _) _
  have hcb := hc.later hB0
  have hbox0 := tbox_new w P p n cap
  obtain ⟨i0, hi0, hz0, hz1, hz2⟩ := info_parts infoInt
  go_enter Tryd.func25, Tryd.ntmps25
  go_wp2_with fail
  refine (check_tr P T p n cap _ hl hmax hcb).mono ?_
  rw [h0, terr_zero]
  rintro e w1 ⟨rfl, hB1⟩
  have hbox := hbox0.later hB1 hbox0.lt
  have hk1 := hbox.procs
  have hk2 := hbox.events
  have hC1 := bel_on hB0 hB1
  have hc1 := hc.later hC1
  have hth := isThing_z pz P w1
  rw [hp] at hth
  clear hB0 hB1 hcb hbox0
  go_wp2_with fail
  refine hth.mono ?_
  rintro e w2 ⟨rfl, rfl⟩
  go_wp2_with fail
  go_loopw [7, 24] (fun v c wr => ∃ (i m : Nat), i ≤ n ∧ c = .int .i64 i ∧ Hid ((M.ofs T pz i).length = m) ∧ m ≤ i ∧ wr.ownsRow w1.heap.size 3 1 v m (icells (M.ofs T pz i)) ∧ Below w1.heap.size w1 wr) (fun _ c _ => n - (intOf c).toNat)
  case atStart => exact ⟨0, 0, Nat.zero_le _, rfl, (show (M.ofs T pz 0).length = 0 from rfl), Nat.le_refl _, World.ownsRow_nil _ _ _ _, Below.refl _ _⟩
  case round =>
    clear hk2 hk1 hth
    obtain ⟨i, m, hi, rfl, hm, hmi, hown, hB⟩ := hrel
    obtain ⟨q, c, rfl⟩ := owns_slice hown
    by_cases hlt : i < n
    · obtain ⟨b, off, rfl, hb, hp1, hp3⟩ := (hc1.later hB) i (by omega)
      obtain ⟨a, ha⟩ : ∃ a, M.pr T i = a := ⟨_, rfl⟩
      obtain ⟨f, hf⟩ : ∃ a, M.fm T i = a := ⟨_, rfl⟩
      rw [ha] at hp1
      rw [hf] at hp3
      have hE0 := evr_cell0 (w := wr) rfl a f
      have hown2 := hown.alloc (.cells #[.int .i64 a, .int .i64 f] 62)
      have hBa := bel_al hB (.cells #[.int .i64 a, .int .i64 f] 62)
      have hsa : (wr.alloc (.cells #[.int .i64 a, .int .i64 f] 62)).heap.size = wr.heap.size + 1 := by simp
      obtain ⟨wa, hwa⟩ : ∃ wa, wr.alloc (.cells #[.int .i64 a, .int .i64 f] 62) = wa := ⟨_, rfl⟩
      rw [hwa] at hE0 hown2 hBa hsa
      have HSA : Hid (wa.heap.size = wr.heap.size + 1) := hsa
      clear hsa hf
      by_cases he : a = pz
      · have hd : (a == pz) = true := by rw [he]; exact beq_self_eq_true _
        have HE : Hid (icells (M.ofs T pz (i + 1)) = icells (M.ofs T pz i) ++ [.int .i64 (i : Nat)]) := by
          show _ = _
          rw [M.ofs_hit (by rw [ha, he]), icells_snoc]
        have HM : Hid ((M.ofs T pz (i + 1)).length = m + 1) := by show _ = _; rw [M.ofs_hit (by rw [ha, he])]; simp [hm.out]
        clear he ha
        go_wp2_with (at_builtin; refine wpList_append_own _ rfl _ _ 25 rfl w1.heap.size 3 i0 (.int .i64 0) 1 8 Tryd.underlying25 hi0 hz0 hz1 hz2 rfl (by decide) _ _ _ rfl (hown2.alloc _) ⟨wa.heap.size, 0, none⟩ 1 1 [.int .i64 (i : Nat)] rfl rfl (cell_one_new _ _ _) (by simp [Value.oneCell']) (by unfold maxLen; omega) (by omega) (by have := hBa.size; simp; omega) ?_; intro v' w5 hown' hgrow _)
        have hB1 : Below w1.heap.size w1 w5 := (hBa.alloc hBa.size _).grown hgrow (by have := hBa.size; simp; omega) (fun j e => (hown.lt j e).1)
        first | go_roundw | skip
        case rel => exact ⟨i + 1, m + 1, by omega, by go_num, HM, by omega, by rw [HE.out]; exact hown', hB1⟩
        case measure => simp [intOf]; omega
      · have hd : (a == pz) = false := by simpa using he
        have HE : Hid (M.ofs T pz (i + 1) = M.ofs T pz i) := M.ofs_miss (by rw [ha]; exact he)
        clear he ha
        go_wp2_with fail
        go_roundw
        case rel => exact ⟨i + 1, m, by omega, by go_num, by rw [HE.out]; exact hm, by omega, by rw [HE.out]; exact hown2, hBa⟩
        case measure => simp [intOf]; omega
    · obtain rfl : i = n := by omega
      have hhas := hasI_of_owns hm.out hown
      go_wp2_with fail
      go_ret2
      exact ⟨q, c, by rw [hm.out]; rfl, hhas, bel_on hC1 hB⟩
end Go.Proofs.YtlhpkpjcfjdgaaaDoor
