/- A closed fact of a bank (package whensteadlaw2, snapFact). -/
import Derived.Test.YtplplgpfglaajaaBl1
namespace Go.Proofs.Ytplplgpfglaajaa
open Go.RowKit
namespace M
def fb0 : Bk := newB (mof [7, 2])
def fb1 : Bk := (mvB 2 fb0 0 0 1 3).1
def fb2 : Bk := (mvB 2 fb1 2 1 0 0).1
def fb3 : Bk := (mvB 2 fb2 1 0 1 0).1
theorem fg0 : BG 2 fb0 := BG.new (by omega) (by omega) (fun p hp => by
  rcases p with _ | _ | p
  · decide
  · decide
  · omega)
theorem fg1 : BG 2 fb1 := fg0.mv 0 0 1 3
theorem fg2 : BG 2 fb2 := fg1.mv 2 1 0 0
theorem fg3 : BG 2 fb3 := fg2.mv 1 0 1 0
theorem fc1 : (mvB 2 fb0 0 0 1 3).2 = 0 := by decide
theorem fc2 : (mvB 2 fb1 2 1 0 0).2 = 0 := by decide
theorem fc3 : (mvB 2 fb2 1 0 1 0).2 = 0 := by decide
theorem fm3 : mol 2 fb3 = [4, 5] := by decide
theorem fw3 : fb3.wy 1 0 = [-1] := by decide
end M
theorem hasI_block {w : World} {A : Nat} {t : TypeId} {l : List Int} (h : w.heap[A]? = some (.cells (zc l).toArray t (0, 0))) : HasI l (some ⟨A, 0, none⟩) w := fun j hj =>
  ⟨A, 0, rfl, (Array.getElem?_eq_some_iff.1 h).1, by simp [World.cell?, h, zc, hj]⟩
set_option maxRecDepth 100000 in
set_option maxHeartbeats 2000000 in
theorem snapFact_ok (w : World) :
    Calls Try.prog 6 #[] w fun e w' => e = .returned (.bool true) ∧ Below w.heap.size w w' := by
  obtain ⟨w1, hw1⟩ : ∃ w1, w.alloc (.cells #[.int .i64 7, .int .i64 2] 3) = w1 := ⟨_, rfl⟩
  have hB1 : Below w.heap.size w w1 := by rw [← hw1]; exact bel_al (Below.refl _ _) _
  have hI1 : HasI [7, 2] (some ⟨w.heap.size, 0, none⟩) w1 := by rw [← hw1]; exact hasI_block (heap_alloc_new w _)
  have hO : ∀ k, w1.heap.size ≤ k → w1.heap.size ≤ k := fun k h => h
  go_enter Try.func6, Try.ntmps6
  go_wp2_with fail
  refine (new_ok [7, 2] _ 2 2 w1 rfl (by unfold maxLen; omega) hI1 (by decide) hO).mono ?_
  rintro e w2 ⟨S, rfl, hV2, hB2⟩
  have H2 : Hid (BV (fun k => w1.heap.size ≤ k) S 2 M.fb0 w2) := hV2
  have C2 : Hid (Below w1.heap.size w1 w2) := hB2
  clear hV2 hB2 hw1 hI1
  go_wp2_with fail
  refine (do_ok 0 0 1 3 w2 H2.out (fun k hk => Nat.le_trans C2.out.size hk) M.fg0).mono ?_
  rw [M.fc1]
  rintro e w3 ⟨rfl, hV3, hF3⟩
  have C3 : Hid (Below w1.heap.size w1 w3) := C2.out.trans (hF3.below C2.out.size (fun k hk => by omega))
  have H3 : Hid (BV (fun k => w1.heap.size ≤ k) S 2 M.fb1 w3) := hV3
  clear hV3 hF3 H2 C2
  rw [terr_zero]
  go_wp2_with fail
  refine (do_ok 2 1 0 0 w3 H3.out (fun k hk => Nat.le_trans C3.out.size hk) M.fg1).mono ?_
  rw [M.fc2]
  rintro e w4 ⟨rfl, hV4, hF4⟩
  have C4 : Hid (Below w1.heap.size w1 w4) := C3.out.trans (hF4.below C3.out.size (fun k hk => by omega))
  have H4 : Hid (BV (fun k => w1.heap.size ≤ k) S 2 M.fb2 w4) := hV4
  clear hV4 hF4 H3 C3
  rw [terr_zero]
  go_wp2_with fail
  refine (do_ok 1 0 1 0 w4 H4.out (fun k hk => Nat.le_trans C4.out.size hk) M.fg2).mono ?_
  rw [M.fc3]
  rintro e w5 ⟨rfl, hV5, hF5⟩
  have C5 : Hid (Below w1.heap.size w1 w5) := C4.out.trans (hF5.below C4.out.size (fun k hk => by omega))
  have H5 : Hid (BV (fun k => w1.heap.size ≤ k) S 2 M.fb3 w5) := hV5
  clear hV5 hF5 H4 C4
  rw [terr_zero]
  go_wp2_with fail
  refine (money_ok w5 H5.out (by omega)).mono ?_
  rw [M.fm3]
  rintro e w6 ⟨ad, rfl, hI6, hB6⟩
  obtain ⟨w7, hw7⟩ : ∃ w7, w6.alloc (.cells #[.int .i64 4, .int .i64 5] 3) = w7 := ⟨_, rfl⟩
  have hB7 : Below w6.heap.size w6 w7 := by rw [← hw7]; exact bel_al (Below.refl _ _) _
  have hI7 : HasI [4, 5] (some ⟨w6.heap.size, 0, none⟩) w7 := by rw [← hw7]; exact hasI_block (heap_alloc_new w6 _)
  have I6 : Hid (HasI [4, 5] ad w7) := hI6.later hB7
  have I7 : Hid (HasI [4, 5] (some ⟨w6.heap.size, 0, none⟩) w7) := hI7
  have B7 : Hid (Below w5.heap.size w5 w7) := bel_on hB6 hB7
  clear hI6 hI7 hB6 hB7
  go_wp2_with fail
  refine (same_intsI [4, 5] ad _ 2 2 2 w7 rfl (by unfold maxLen; omega) I6.out I7.out).mono ?_
  rintro e w8 ⟨rfl, hB8⟩
  have B8 : Hid (Below w5.heap.size w5 w8) := bel_on B7.out hB8
  clear I6 I7 B7 hw7 hB8
  go_wp2_with fail
  refine (way_ok 1 0 w8 (H5.out.below B8.out) M.fg3 (by omega) (by omega)).mono ?_
  rw [M.fw3]
  rintro e w9 ⟨ad9, c9, rfl, hI9, hB9⟩
  obtain ⟨w10, hw10⟩ : ∃ w10, w9.alloc (.cells #[.int .i64 (-1)] 3) = w10 := ⟨_, rfl⟩
  have hB10 : Below w9.heap.size w9 w10 := by rw [← hw10]; exact bel_al (Below.refl _ _) _
  have hI10 : HasI [-1] (some ⟨w9.heap.size, 0, none⟩) w10 := by rw [← hw10]; exact hasI_block (heap_alloc_new w9 _)
  have I9 : Hid (HasI [-1] ad9 w10) := hI9.later hB10
  have I10 : Hid (HasI [-1] (some ⟨w9.heap.size, 0, none⟩) w10) := hI10
  have B10 : Hid (Below w5.heap.size w5 w10) := bel_on (bel_on B8.out hB9) hB10
  clear hI9 hI10 hB9 hB10 B8
  go_wp2_with fail
  refine (same_intsI [-1] ad9 _ 1 c9 1 w10 rfl (by unfold maxLen; omega) I9.out I10.out).mono ?_
  rintro e w11 ⟨rfl, hB11⟩
  have FIN : Hid (Below w.heap.size w w11) := bel_on hB1 (bel_on C5.out (bel_on B10.out hB11))
  clear I9 I10 B10 hw10 hB11
  go_wp2_with fail
  go_ret
  exact ⟨rfl, FIN.out⟩
end Go.Proofs.Ytplplgpfglaajaa
