/- Package quorum: whether nodes have as much weight as is needed (isEnough), and whether one of them can be spared (canSpare): ranges over the things of a set; what lay in memory lies as it lay. -/
import Derived.Test.YtfjmealeglbklaaDoorQc5
import Derived.Test.YtfjmealeglbklaaDoorTurn
import Derived.Test.YtfjmealeglbklaaDoorIterP
namespace Go.Proofs.YtfjmealeglbklaaDoor
open Go.RowKit Go.Shelf
attribute [local go_sem] Oper.semAt_some

theorem keeps_below {W W' : World} (h : Below W.heap.size W W') : KeepsOthers W W' := ⟨h.size, fun k _ hk _ => (h.block k (Array.getElem?_eq_some_iff.1 hk).1).trans hk⟩
theorem boxed_belowQ {W W' : World} {B : Nat} {t : TypeId} {v : Value} (h : Boxed W B t v) (hb : Below W.heap.size W W') : Boxed W' B t v := (hb.block B h.lt).trans h
set_option maxRecDepth 100000 in
set_option maxHeartbeats 2000000 in
theorem qenough_ok (W : List Nat) (need s : Nat) (p : Option Addr) (n cap : Nat) (w : World) (hl : W.length = n) (he : Env w) (hn : n ≤ 8) (hW : ∀ i, M.row W i ≤ 20) (hc : HasI (ints W) p w) (hs : s < 2 ^ n) :
    Calls Tryd.prog 41 #[.slice p n cap, .int .i64 (need : Nat), .int .i64 (s : Nat)] w fun e w' => e = .returned (.bool (decide (need ≤ M.wtQ (M.row W) n s))) ∧ Below w.heap.size w w' := by
  refine callsIn_wide.1 (callsIn_of_wp_marks (n := 3) Tryd.func41 rfl trivial ?_ rfl)
  simp only [Tryd.ntmps41, List.size_toArray, List.length_cons, List.length_nil, Nat.reduceAdd, Nat.reduceSub, Array.replicate_succ, Array.replicate_zero, List.push_toArray, List.append_toArray, List.nil_append, List.cons_append]
  refine wpIn_wide.2 ?_
  have hgt : M.wtL (M.row W) (M.bits s) = M.wtQ (M.row W) n s := M.wtL_bits (by omega) hs
  obtain ⟨t, ht⟩ : ∃ t, M.wtQ (M.row W) n s = t := ⟨_, rfl⟩
  rw [ht]
  rw [ht] at hgt
  have hgoal : Hid (M.wtL (M.row W) (M.bits s) = t) := hgt
  have HD : Hid (decide ((need : Int) ≤ (t : Int)) = decide (need ≤ t)) := (by rw [Bool.eq_iff_iff]; simp : decide ((need : Int) ≤ (t : Int)) = decide (need ≤ t))
  clear ht hgt
  have hHC : Hid (HasN (M.row W) n p w) := by have := hc.toN; rw [hl] at this; exact this
  clear hc
  go_wp2_with (go_at_call 52; refine (things_any _ _).mono ?_; rintro e w' ⟨rfl, rfl⟩)
  rename_i Q' K hK0
  obtain ⟨Wa, hWa⟩ : ∃ Wa, (((w.alloc (.cells #[.slice p n cap] 22)).alloc (.cells #[.int .i64 0] 3)).alloc (.cells #[.int .i64 (s : Nat)] 3)) = Wa := ⟨_, rfl⟩
  have hsz : Wa.heap.size = w.heap.size + 3 := by rw [← hWa]; simp
  have hb1 : Boxed Wa w.heap.size 22 (.slice p n cap) := by rw [← hWa]; exact ((Boxed.new w _ _).alloc _).alloc _
  have hb2 : Boxed Wa (w.heap.size + 1) 3 (.int .i64 (M.wtL (M.row W) [] : Nat)) := by
    rw [← hWa]
    have h := Boxed.new (w.alloc (.cells #[.slice p n cap] 22)) 3 (.int .i64 0)
    rw [World.size_alloc] at h; exact h.alloc _
  have hbs : Boxed Wa (w.heap.size + 1 + 1) 3 (.int .i64 (s : Nat)) := by
    rw [← hWa]
    have h := Boxed.new ((w.alloc (.cells #[.slice p n cap] 22)).alloc (.cells #[.int .i64 0] 3)) 3 (.int .i64 (s : Nat))
    rw [World.size_alloc, World.size_alloc] at h; exact h
  have hBx : Below w.heap.size w Wa := by rw [← hWa]; exact bel_al (bel_al (bel_al (Below.refl _ w) _) _) _
  rw [hWa]
  have hT2 := he.tab.below hBx he.two
  have htw := he.two
  refine (wpIn_wide (n := 3)).1 ?_
  refine wpIn_rangeFunc_ownG rfl (by omega) (gf := 59) (lb := #[.pointer (some ⟨w.heap.size + 1 + 1, 0, none⟩)]) rfl trivial (enters_of Tryd.func59 (by kernel_rfl) rfl)
    (things_stops (3 - 1) (w.heap.size + 1 + 1) w.heap.size n s (by omega) hs he.two Wa (by omega) (by omega) hT2 hbs.cell) belowK_t (belowK_b (by omega)) (Below.refl _ _) (fun _ => rfl)
    (fun (pre : List (Fin n)) W' => Boxed W' (w.heap.size + 1) 3 (.int .i64 (M.wtL (M.row W) (pre.map fun x : Fin n => x.1) : Nat)) ∧ Boxed W' w.heap.size 22 (.slice p n cap) ∧ Below w.heap.size w W')
    (fun _ _ _ => False)
    (OwnFrom.and (Own.from (boxed_own _ _ fun pre : List (Fin n) => .int .i64 (M.wtL (M.row W) (pre.map fun x : Fin n => x.1) : Nat)) _) (OwnFrom.and (Own.from (boxed_own _ _ fun _ => (.slice p n cap)) _) (ownFrom_below (Nat.le_refl _) (by omega))))
    (fun _ _ _ _ _ hs _ _ => hs)
    ⟨hb2, hb1, hBx⟩
    (fun x => { tmps := #[.slice p n cap, .int .i64 (need : Nat), .int .i64 (s : Nat), .pointer (some ⟨w.heap.size, 0, none⟩), undef, undef, .bool false, .pointer (some ⟨w.heap.size + 1, 0, none⟩), .int .i64 (x.1 : Nat), .int .i64 (s : Nat), .func (.func 59) #[] #[.pointer (some ⟨w.heap.size + 1 + 1, 0, none⟩)], .int .i64 (x.1 : Nat), undef, undef, undef, undef, undef, undef, undef, undef, undef], defers := [] }) ?assign ?body ?done ?stop
  case assign =>
    intro l x W K hK
    gi_wp2
    exact hK
  case body =>
    rintro l pre x Wb ⟨hx2, hx1, hB⟩ hpl
    have hx := x.2
    have hc1 := hx1.cell
    have hm4 := M.wtL_le (f := M.row W) (m := 20) hW (pre.map fun x : Fin n => x.1)
    rw [List.length_map] at hm4
    have hsn := M.wtL_snoc (M.row W) (pre.map fun x : Fin n => x.1) x.1
    have hrx := hW x.1
    obtain ⟨b, off, rfl, hbb, hcell⟩ := (hHC.out.later hB) x.1 hx
    obtain ⟨mm, hmm⟩ : ∃ mm, M.wtL (M.row W) (pre.map fun x : Fin n => x.1) = mm := ⟨_, rfl⟩
    rw [hmm] at hx2 hm4 hsn
    obtain ⟨y, hy⟩ : ∃ y, M.row W x.1 = y := ⟨_, rfl⟩
    rw [hy] at hcell hsn hrx
    have HS : Hid (M.wtL (M.row W) (pre.map (fun x : Fin n => x.1) ++ [x.1]) = mm + y) := hsn
    clear hmm hsn hy
    have hm9 : mm ≤ 240 := by omega
    have hc2 := hx2.cell
    have hf2 := hx2.frozen
    have hxi : ((x.1 : Nat) : Int) < (n : Int) := by omega
    gi_wp2
    refine wpIn_region_still_tail 6 (by kernel_rfl) (by kernel_rfl) (fun _ _ h => h) (by kernel_rfl) ?_
    simp only [List.take_succ_cons, List.take_zero, List.drop_succ_cons, List.drop_zero]
    repeat still_step
    refine wpStill_nil ?_
    go_wp2
    refine ⟨((KeepsOthers.setCell _ _ _).trans (KeepsOthers.drew _)).from _, ((Below.refl _ Wb).setCell (p := ⟨w.heap.size + 1, 0, none⟩) (by simp) _).drew, ?_, boxed_drew (boxed_otherAt hx1 (a := ⟨w.heap.size + 1, 0, none⟩) (by simp) _), (hB.setCell (p := ⟨w.heap.size + 1, 0, none⟩) (by simp) _).drew⟩
    rw [List.map_append, List.map_cons, List.map_nil, HS.out, Int.natCast_add]
    exact boxed_drew (hx2.set _)
  case done =>
    rintro D ys Wd hD hys ⟨hx2, hx1, hB⟩ hK
    have hDl := (Array.getElem?_eq_some_iff.1 hK).1
    rw [hys, hgoal.out] at hx2
    show K _ _
    refine hK0 _ _ ?_
    have hc2 := hx2.cell
    go_wp2_with fail
    refine leaves_marks _ (D + 1) Wd hB.size ⟨D, by omega, by omega, rfl, hK, trivial⟩ (fun W' ht => ⟨_, results_tmp rfl _ _ _, ?_, hB.trans ht.below⟩)
    first | exact bool_ret HD.out | exact rfl
  case stop =>
    rintro D c pre W _ _ h _
    exact h.elim

theorem results_cellQ {fn : Func} {t : Tmp} (h : fn.results = #[.cell t 4]) (tmps : Array Value) (w : World) (a : Addr) (v : Value) (hp : tmps.getD t undef = .pointer (some a)) (hc : w.cell? a = some v) :
    (results fn tmps).run Tryd.prog w = .ok v w := by
  have hp' : tmps[t]?.getD undef = .pointer (some a) := by simpa using hp
  simp [results, h, go_sem, hp']
  rw [hc]
/-- without one of them, they do not have enough -/
def Keep (W : List Nat) (n need s x : Nat) : Prop := ∃ r, M.Wo s x r ∧ M.wtQ (M.row W) n r < need
def Spare (W : List Nat) (n need s x : Nat) : Prop := ∃ r, M.Wo s x r ∧ need ≤ M.wtQ (M.row W) n r
theorem spare_no {W : List Nat} {n need s : Nat} (hn : n ≤ 8) (hs : s < 2 ^ n) (hw : need ≤ M.wtQ (M.row W) n s) (h : ∀ x, x ∈ M.bits s → Keep W n need s x) : M.voteB (M.row W) n need s = true :=
  M.vote_yes hw fun i hi => h i (M.mem_bits.2 ⟨by have := M.lt_of_testBit hs hi; omega, hi⟩)
theorem spare_yes {W : List Nat} {n need s x : Nat} (hx : s.testBit x = true) (h : Spare W n need s x) : M.voteB (M.row W) n need s = false := by
  obtain ⟨r, h1, h2⟩ := h
  exact M.vote_spare hx h1 h2
set_option maxRecDepth 100000 in
set_option maxHeartbeats 2000000 in
theorem qspare_ok (W : List Nat) (need s : Nat) (p : Option Addr) (n cap : Nat) (w : World) (hl : W.length = n) (he : Env w) (hn : n ≤ 8) (hW : ∀ i, M.row W i ≤ 20) (hc : HasI (ints W) p w) (hs : s < 2 ^ n) (hw : need ≤ M.wtQ (M.row W) n s) :
    Calls Tryd.prog 42 #[.slice p n cap, .int .i64 (need : Nat), .int .i64 (s : Nat)] w fun e w' => e = .returned (.bool (!M.voteB (M.row W) n need s)) ∧ Below w.heap.size w w' := by
  refine callsIn_wide.1 (callsIn_of_wp_marks (n := 3) Tryd.func42 rfl trivial ?_ rfl)
  simp only [Tryd.ntmps42, List.size_toArray, List.length_cons, List.length_nil, Nat.reduceAdd, Nat.reduceSub, Array.replicate_succ, Array.replicate_zero, List.push_toArray, List.append_toArray, List.nil_append, List.cons_append]
  refine wpIn_wide.2 ?_
  have h8 := pow8 hn
  have hs8 : s < 256 := by omega
  have hHW : Hid (need ≤ M.wtQ (M.row W) n s) := hw
  clear hw
  go_wp2_with (go_at_call 52; refine (things_any _ _).mono ?_; rintro e w' ⟨rfl, rfl⟩)
  rename_i Q' K hK0
  obtain ⟨Wa, hWa⟩ : ∃ Wa, (((((w.alloc (.cells #[.slice p n cap] 22)).alloc (.cells #[.int .i64 (need : Nat)] 3)).alloc (.cells #[.int .i64 (s : Nat)] 3)).alloc (.cells #[.bool false] 4)).alloc (.cells #[.int .i64 (s : Nat)] 3)) = Wa := ⟨_, rfl⟩
  have hsz : Wa.heap.size = w.heap.size + 5 := by rw [← hWa]; simp
  have hb1 : Boxed Wa w.heap.size 22 (.slice p n cap) := by rw [← hWa]; exact ((((Boxed.new w _ _).alloc _).alloc _).alloc _).alloc _
  have hb2 : Boxed Wa (w.heap.size + 1) 3 (.int .i64 (need : Nat)) := by
    rw [← hWa]
    have h := Boxed.new (w.alloc (.cells #[.slice p n cap] 22)) 3 (.int .i64 (need : Nat))
    rw [World.size_alloc] at h; exact ((h.alloc _).alloc _).alloc _
  have hb3 : Boxed Wa (w.heap.size + 1 + 1) 3 (.int .i64 (s : Nat)) := by
    rw [← hWa]
    have h := Boxed.new ((w.alloc (.cells #[.slice p n cap] 22)).alloc (.cells #[.int .i64 (need : Nat)] 3)) 3 (.int .i64 (s : Nat))
    rw [World.size_alloc, World.size_alloc] at h; exact (h.alloc _).alloc _
  have hb4 : Boxed Wa (w.heap.size + 1 + 1 + 1) 4 (.bool false) := by
    rw [← hWa]
    have h := Boxed.new (((w.alloc (.cells #[.slice p n cap] 22)).alloc (.cells #[.int .i64 (need : Nat)] 3)).alloc (.cells #[.int .i64 (s : Nat)] 3)) 4 (.bool false)
    rw [World.size_alloc, World.size_alloc, World.size_alloc] at h; exact h.alloc _
  have hb5 : Boxed Wa (w.heap.size + 1 + 1 + 1 + 1) 3 (.int .i64 (s : Nat)) := by
    rw [← hWa]
    have h := Boxed.new ((((w.alloc (.cells #[.slice p n cap] 22)).alloc (.cells #[.int .i64 (need : Nat)] 3)).alloc (.cells #[.int .i64 (s : Nat)] 3)).alloc (.cells #[.bool false] 4)) 3 (.int .i64 (s : Nat))
    rw [World.size_alloc, World.size_alloc, World.size_alloc, World.size_alloc] at h; exact h
  have hBx : Below w.heap.size w Wa := by rw [← hWa]; exact bel_al (bel_al (bel_al (bel_al (bel_al (Below.refl _ w) _) _) _) _) _
  rw [hWa]
  have hT2 := he.tab.below hBx he.two
  have htw := he.two
  clear hWa
  refine (wpIn_wide (n := 3)).1 ?_
  refine wpIn_rangeFunc_ownG rfl (by omega) (gf := 59) (lb := #[.pointer (some ⟨w.heap.size + 1 + 1 + 1 + 1, 0, none⟩)]) rfl trivial (enters_of Tryd.func59 (by kernel_rfl) rfl)
    (things_stopsP (3 - 1) (w.heap.size + 1 + 1 + 1 + 1) w.heap.size n s (by omega) hs he.two Wa (by omega) (by omega) hT2 hb5.cell) belowK_t (belowK_b (by omega)) (Below.refl _ _) (fun _ => rfl)
    (fun (pre : List (Fin n)) W' => (∀ x, x ∈ pre.map (fun x : Fin n => x.1) → Keep W n need s x) ∧ Boxed W' w.heap.size 22 (.slice p n cap) ∧ Boxed W' (w.heap.size + 1) 3 (.int .i64 (need : Nat)) ∧ Boxed W' (w.heap.size + 1 + 1) 3 (.int .i64 (s : Nat)) ∧ Boxed W' (w.heap.size + 1 + 1 + 1) 4 (.bool false) ∧ Below w.heap.size w W')
    (fun cc (pre : List (Fin n)) W' => cc = .ret ∧ (∃ x, x ∈ pre.map (fun x : Fin n => x.1) ∧ Spare W n need s x) ∧ Boxed W' (w.heap.size + 1 + 1 + 1) 4 (.bool true) ∧ Below w.heap.size w W')
    (OwnFrom.and (fun _ _ _ _ h _ _ => h) (OwnFrom.and (Own.from (boxed_own _ _ fun _ => (.slice p n cap)) _) (OwnFrom.and (Own.from (boxed_own _ _ fun _ => .int .i64 (need : Nat)) _) (OwnFrom.and (Own.from (boxed_own _ _ fun _ => .int .i64 (s : Nat)) _) (OwnFrom.and (Own.from (boxed_own _ _ fun _ => .bool false) _) (ownFrom_below (Nat.le_refl _) (by omega)))))))
    (fun _ => OwnFrom.and (fun _ _ _ _ h _ _ => h) (OwnFrom.and (fun _ _ _ _ h _ _ => h) (OwnFrom.and (Own.from (boxed_own _ _ fun _ => .bool true) _) (ownFrom_below (Nat.le_refl _) (by omega)))))
    ⟨fun x hx => (by simp at hx), hb1, hb2, hb3, hb4, hBx⟩
    (fun x => { tmps := #[.slice p n cap, .int .i64 (need : Nat), .int .i64 (s : Nat), .pointer (some ⟨w.heap.size, 0, none⟩), .pointer (some ⟨w.heap.size + 1, 0, none⟩), .pointer (some ⟨w.heap.size + 1 + 1, 0, none⟩), .pointer (some ⟨w.heap.size + 1 + 1 + 1, 0, none⟩), .int .i64 (x.1 : Nat), .int .i64 (s : Nat), .func (.func 59) #[] #[.pointer (some ⟨w.heap.size + 1 + 1 + 1 + 1, 0, none⟩)], .int .i64 (x.1 : Nat), undef, undef, undef, undef, undef, undef, undef], defers := [] }) ?assign ?body ?done ?stop
  case assign =>
    intro l x W K hK
    gi_wp2
    exact hK
  case body =>
    rintro l pre x Wb ⟨hpre, z1, z2, z3, z4, hB⟩ _
    clear hb1 hb2 hb3 hb4 hb5 hBx hT2 hsz
    have hx := x.2
    have c1 := z1.cell
    have c2 := z2.cell
    have c3 := z3.cell
    have f4 := z4.frozen
    have c4 := z4.cell
    have m1 := z1.lt
    have m2 := z2.lt
    have m3 := z3.lt
    have m4 := z4.lt
    have hsh : IntKind.i64.wrap (2 ^ x.1) = ((1 <<< x.1 : Nat) : Int) := i64_shl_big x.1 (by omega)
    have hjp : 1 <<< x.1 < 65536 := by rw [Nat.shiftLeft_eq, Nat.one_mul]; have := pow_lt x.1 (by omega); omega
    obtain ⟨r, hr1, hr2, hr3⟩ := i64_andNot_bits s (1 <<< x.1) (by omega) hjp
    have HWo : Hid (M.Wo s x.1 r) := hr3
    have hrs : r < 2 ^ n := by omega
    have hcall := fun Wz (hz : Below w.heap.size w Wz) => qenough_ok W need r p n cap Wz hl (he.later hz) hn hW (hc.later hz) hrs
    obtain ⟨y, hy⟩ : ∃ y : Nat, 1 <<< x.1 = y := ⟨_, rfl⟩
    rw [hy] at hsh hr1
    have hcd := hcall Wb.drew hB.drew
    have hxi : ((x.1 : Nat) : Int) < 64 := by omega
    have hkp : Hid (Keep W n need s x.1 ↔ M.wtQ (M.row W) n r < need) := ⟨fun ⟨r', h1, h2⟩ => by
      have : r' = r := Nat.eq_of_testBit_eq fun j => by rw [h1 j, hr3 j]
      rw [← this]; exact h2, fun h => ⟨r, HWo.out, h⟩⟩
    obtain ⟨t, ht⟩ : ∃ t, M.wtQ (M.row W) n r = t := ⟨_, rfl⟩
    have HT : Hid (M.wtQ (M.row W) n r = t) := ht
    rw [ht] at hcd hkp
    clear hcall hr3 hjp hy ht hr2 hrs
    cases hq : decide (need ≤ t) with
    | false =>
      rw [hq] at hcd
      have HK : Hid (Keep W n need s x.1) := hkp.out.2 (by have := of_decide_eq_false hq; omega)
      clear hq hkp
      gi_wp2
      refine wpIn_region_still_tail 6 (by kernel_rfl) (by kernel_rfl) (fun _ _ h => h) (by kernel_rfl) ?_
      simp only [List.take_succ_cons, List.take_zero, List.drop_succ_cons, List.drop_zero]
      repeat still_step
      refine wpStill_nil ?_
      go_wp2_with fail
      refine hcd.mono ?_
      rintro e w' ⟨rfl, hB2⟩
      have HB2 : Hid (Below Wb.heap.size Wb w') := ((Below.refl _ Wb).drew).trans hB2
      clear hB2 hcd
      go_wp2_with fail
      gi_wp2
      refine ⟨(keeps_below HB2.out).from _, HB2.out.mono hB.size, fun y hy => ?_, boxed_belowQ z1 HB2.out, boxed_belowQ z2 HB2.out, boxed_belowQ z3 HB2.out, boxed_belowQ z4 HB2.out, bel_on hB HB2.out⟩
      rw [List.map_append, List.map_cons, List.map_nil] at hy
      rcases List.mem_append.1 hy with hy | hy
      · exact hpre y hy
      · obtain rfl := List.mem_singleton.1 hy
        exact HK.out
    | true =>
      rw [hq] at hcd
      have HK : Hid (Spare W n need s x.1) := ⟨r, HWo.out, by rw [HT.out]; exact of_decide_eq_true hq⟩
      clear hq hkp
      gi_wp2
      refine wpIn_region_still_tail 6 (by kernel_rfl) (by kernel_rfl) (fun _ _ h => h) (by kernel_rfl) ?_
      simp only [List.take_succ_cons, List.take_zero, List.drop_succ_cons, List.drop_zero]
      repeat still_step
      refine wpStill_nil ?_
      go_wp2_with fail
      refine hcd.mono ?_
      rintro e w' ⟨rfl, hB2⟩
      have HB2 : Hid (Below Wb.heap.size Wb w') := ((Below.refl _ Wb).drew).trans hB2
      have z4' := boxed_belowQ z4 HB2.out
      have c4' := z4'.cell
      have f4' := z4'.frozen
      clear hB2 hcd
      go_wp2_with fail
      gi_wp2
      refine ⟨((keeps_below HB2.out).trans (KeepsOthers.setCell _ _ _)).from _, rfl, ⟨x.1, by simp, HK.out⟩, z4'.set _, (bel_on hB HB2.out).setCell (p := ⟨w.heap.size + 1 + 1 + 1, 0, none⟩) (by simp; omega) _⟩
  case done =>
    rintro D ys Wd hD hys ⟨hpre, z1, z2, z3, z4, hB⟩ hK
    have hDl := (Array.getElem?_eq_some_iff.1 hK).1
    rw [hys] at hpre
    have HV : Hid (M.voteB (M.row W) n need s = true) := spare_no hn hs hHW.out hpre
    have f4 := z4.frozen
    have c4 := z4.cell
    clear hpre
    show K _ _
    refine hK0 _ _ ?_
    go_wp2_with fail
    refine leaves_marks (base := w.heap.size) [{ target := .collected D, args := #[] }] (D + 1) (Wd.setCell ⟨w.heap.size + 1 + 1 + 1, 0, none⟩ (.bool false)) (by have := hB.size; simp; omega) ⟨D, by omega, by omega, rfl, (KeepsOthers.setCell _ _ _).same _ _ hK rfl, trivial⟩ (fun W' ht => ⟨_, results_cellQ rfl _ _ _ (.bool false) rfl ?_, ?_, ?_⟩)
    · exact (show Boxed W' _ _ _ from ht.cells _ _ (z4.set _) rfl).cell
    · rw [HV.out]; rfl
    · exact (hB.setCell (p := ⟨w.heap.size + 1 + 1 + 1, 0, none⟩) (by simp; omega) _).trans ht.below
  case stop =>
    rintro D cc pre Wd hD ⟨rr, hrr⟩ ⟨rfl, ⟨y, hym, hyn⟩, z4, hB⟩ hK
    have hDl := (Array.getElem?_eq_some_iff.1 hK).1
    have hyb := M.mem_bits.1 (show y ∈ M.bits s by rw [hrr]; exact List.mem_append_left _ hym)
    have HV : Hid (M.voteB (M.row W) n need s = false) := spare_yes hyb.2 hyn
    clear hyb hyn hym hrr
    gi_wp2
    refine leaves_marks (base := w.heap.size) [{ target := .collected D, args := #[] }] (D + 1) Wd hB.size ⟨D, by omega, by omega, rfl, hK, trivial⟩ (fun W' ht => ⟨_, results_cellQ rfl _ _ _ (.bool true) rfl ?_, ?_, ?_⟩)
    · exact (show Boxed W' _ _ _ from ht.cells _ _ z4 rfl).cell
    · rw [HV.out]; rfl
    · exact hB.trans ht.below
end Go.Proofs.YtfjmealeglbklaaDoor
