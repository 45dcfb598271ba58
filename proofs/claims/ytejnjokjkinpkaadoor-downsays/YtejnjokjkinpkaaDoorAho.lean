/- Package down's aheadOf, at whatever numbers: it tells what is wrong as the document has it, else all that stand ahead of any of a set; what lay in memory lies as it lay. -/
import Derived.Test.YtejnjokjkinpkaaDoorTurn
import Derived.Test.YtejnjokjkinpkaaDoorDmt
import Derived.Test.YtejnjokjkinpkaaDoorIterP
namespace Go.Proofs.YtejnjokjkinpkaaDoor
open Go.RowKit Go.Shelf
attribute [local go_sem] Oper.semAt_some

theorem setB_nat {s n : Nat} (h : s < 2 ^ n) : setB (s : Int) n = true := by
  unfold setB
  refine decide_eq_true ⟨by omega, ?_⟩
  have : ((2 ^ n : Nat) : Int) = (2 : Int) ^ n := by simp
  rw [← this]; omega
theorem nat_setB {z : Int} {n : Nat} (h : setB z n = true) : ∃ s : Nat, z = s ∧ s < 2 ^ n := by
  unfold setB at h
  obtain ⟨h1, h2⟩ := of_decide_eq_true h
  refine ⟨z.toNat, by omega, ?_⟩
  have : ((2 ^ n : Nat) : Int) = (2 : Int) ^ n := by simp
  rw [← this] at h2; omega

set_option maxHeartbeats 400000 in
theorem ahead_err (zs : List Int) (z : Int) (p : Option Addr) (n cap c : Nat) (w : World) (hl : zs.length = n) (he : Env w) (hmax : n ≤ maxLen) (hc : Has zs p w) (h0 : code zs = c) (hne : c ≠ 0) :
    Calls Tryd.prog 41 #[.slice p n cap, .int .i64 z] w fun e w' => e = .returned (.tuple #[.int .i64 0, .iface 49 (.int .i64 (c : Nat))]) ∧ Below w.heap.size w w' := by
  go_enter Tryd.func41, Tryd.ntmps41
  go_wp2_with (go_at_call 37; refine (turned_err zs p n cap c _ hl he hmax hc h0 hne).mono ?_; rintro e w' ⟨rfl, hB⟩)
  go_ret2
  exact ⟨rfl, hB.alloc hB.size _⟩
set_option maxHeartbeats 400000 in
theorem ahead_range (zs : List Int) (z : Int) (p : Option Addr) (n cap : Nat) (w : World) (hl : zs.length = n) (he : Env w) (hmax : n ≤ maxLen) (hc : Has zs p w) (h0 : code zs = 0) (hz : setB z n = false) :
    Calls Tryd.prog 41 #[.slice p n cap, .int .i64 z] w fun e w' => e = .returned (.tuple #[.int .i64 0, .iface 49 (.int .i64 (1 : Nat))]) ∧ Below w.heap.size w w' := by
  have hn : n ≤ 12 := by have := (code_zero h0).1; omega
  have his : ∀ W, Calls Tryd.prog 55 #[.int .i64 z, .int .i64 n] W fun e w' => e = .returned (.bool false) ∧ W = w' := fun W => by have := isSet_any z n W hn; rw [hz] at this; exact this
  go_enter Tryd.func41, Tryd.ntmps41
  go_wp2_with fail
  refine (turned_ok zs p n cap _ hl he hmax hc h0).mono ?_
  rintro e w1 ⟨A, rfl, hrc, hA, hB⟩
  go_wp2_with fail
  refine (his _).mono ?_
  rintro e w2 ⟨rfl, rfl⟩
  go_wp2_with fail
  go_ret2
  exact ⟨rfl, hB.alloc hB.size _⟩

set_option maxRecDepth 100000 in
set_option maxHeartbeats 2000000 in
theorem ahead_ok (zs : List Int) (s : Nat) (p : Option Addr) (n cap : Nat) (w : World) (hl : zs.length = n) (he : Env w) (hmax : n ≤ maxLen) (hc : Has zs p w) (h0 : code zs = 0) (hs : s < 2 ^ n) :
    Calls Tryd.prog 41 #[.slice p n cap, .int .i64 (s : Nat)] w fun e w' => e = .returned (.tuple #[.int .i64 (M.ahS (M.turned (nats zs)) s : Nat), .nilIface]) ∧ Below w.heap.size w w' := by
  have hz := code_zero h0
  have hn : n ≤ 12 := by omega
  have hpw := pow_lt n hn
  have his : ∀ W, Calls Tryd.prog 55 #[.int .i64 (s : Nat), .int .i64 n] W fun e w' => e = .returned (.bool true) ∧ W = w' := fun W => by have := isSet_any (s : Int) n W hn; rw [setB_nat hs] at this; exact this
  refine callsIn_wide.1 (callsIn_of_wp_marks (n := 3) Tryd.func41 rfl trivial ?_ rfl)
  simp only [Tryd.ntmps41, List.size_toArray, List.length_cons, List.length_nil, Nat.reduceAdd, Nat.reduceSub, Array.replicate_succ, Array.replicate_zero, List.push_toArray, List.append_toArray, List.nil_append, List.cons_append]
  refine wpIn_wide.2 ?_
  go_wp2_with fail
  refine (turned_ok zs p n cap _ hl he hmax hc h0).mono ?_
  rintro e w1 ⟨A, rfl, hrc, hA, hBc⟩
  have hto := M.turned_ok (nats zs)
  have htl : (M.turned (nats zs)).length = n := by rw [M.turned_length, nats_length, hl]
  have hgoal : Hid (M.ahS (M.turned (nats zs)) s = M.ahF (M.turned (nats zs)) (M.bits s)) := (rfl : M.ahS (M.turned (nats zs)) s = M.ahF (M.turned (nats zs)) (M.bits s))
  obtain ⟨v, hv⟩ : ∃ v, M.ahS (M.turned (nats zs)) s = v := ⟨_, rfl⟩
  have HV : Hid (M.ahS (M.turned (nats zs)) s = v) := hv
  rw [hv] at hgoal
  clear hv
  obtain ⟨t, ht⟩ : ∃ t, M.turned (nats zs) = t := ⟨_, rfl⟩
  rw [ht] at hrc hto htl hgoal
  clear ht
  have hlt : ∀ xs, M.ahF t xs < 4096 := fun xs => by have := M.ahF_lt hto xs; rw [htl] at this; omega
  have hA1 : A < w1.heap.size := hrc.lt
  have hw1 : w.heap.size ≤ w1.heap.size := hBc.size
  go_wp2_with fail
  refine (his _).mono ?_
  rintro e w2 ⟨rfl, rfl⟩
  go_wp2_with (go_at_call 38; refine (things_any _ _).mono ?_; rintro e w' ⟨rfl, rfl⟩)
  rename_i Q' K hK0
  obtain ⟨Wa, hWa⟩ : ∃ Wa, (((w1.alloc (.cells #[.slice (some ⟨A, 0, none⟩) n n] 22)).alloc (.cells #[.int .i64 0] 3)).alloc (.cells #[.int .i64 (s : Nat)] 3)) = Wa := ⟨_, rfl⟩
  have hsz : Wa.heap.size = w1.heap.size + 3 := by rw [← hWa]; simp
  have hb1 : Boxed Wa w1.heap.size 22 (.slice (some ⟨A, 0, none⟩) n n) := by rw [← hWa]; exact ((Boxed.new w1 _ _).alloc _).alloc _
  have hb2 : Boxed Wa (w1.heap.size + 1) 3 (.int .i64 (M.ahF t [] : Nat)) := by
    rw [← hWa]
    have h := Boxed.new (w1.alloc (.cells #[.slice (some ⟨A, 0, none⟩) n n] 22)) 3 (.int .i64 0)
    rw [World.size_alloc] at h; exact h.alloc _
  have hbs : Boxed Wa (w1.heap.size + 1 + 1) 3 (.int .i64 (s : Nat)) := by
    rw [← hWa]
    have h := Boxed.new ((w1.alloc (.cells #[.slice (some ⟨A, 0, none⟩) n n] 22)).alloc (.cells #[.int .i64 0] 3)) 3 (.int .i64 (s : Nat))
    rw [World.size_alloc, World.size_alloc] at h; exact h
  have hrw : RowAt 3 Wa A t := by rw [← hWa]; exact ((hrc.alloc _).alloc _).alloc _
  have hBx : Below w.heap.size w Wa := by rw [← hWa]; exact ((hBc.alloc hw1 _).alloc (by simp; omega) _).alloc (by simp; omega) _
  rw [hWa]
  have hT2 := he.tab.below hBx he.two
  have htw := he.two
  refine (wpIn_wide (n := 3)).1 ?_
  refine wpIn_rangeFunc_ownG rfl (by omega) (gf := 52) (lb := #[.pointer (some ⟨w1.heap.size + 1 + 1, 0, none⟩)]) rfl trivial (enters_of Tryd.func52 (by kernel_rfl) rfl)
    (things_stops (3 - 1) (w1.heap.size + 1 + 1) w.heap.size n s hn hs he.two Wa (by omega) (by omega) hT2 hbs.cell) belowK_t (belowK_b (by omega)) (Below.refl _ _) (fun _ => rfl)
    (fun (pre : List (Fin n)) W' => Boxed W' (w1.heap.size + 1) 3 (.int .i64 (M.ahF t (pre.map fun x : Fin n => x.1) : Nat)) ∧ RowAt 3 W' A t ∧ Boxed W' w1.heap.size 22 (.slice (some ⟨A, 0, none⟩) n n) ∧ Below w.heap.size w W')
    (fun _ _ _ => False)
    (OwnFrom.and (Own.from (boxed_own _ _ fun pre : List (Fin n) => .int .i64 (M.ahF t (pre.map fun x : Fin n => x.1) : Nat)) _) (OwnFrom.and (Own.from (rowAt_own 3 A fun _ => t) _) (OwnFrom.and (Own.from (boxed_own _ _ fun _ => (.slice (some ⟨A, 0, none⟩) n n)) _) (ownFrom_below (Nat.le_refl _) (by omega)))))
    (fun _ _ _ _ _ hs _ _ => hs)
    ⟨hb2, hrw, hb1, hBx⟩
    (fun x => { tmps := #[.slice p n cap, .int .i64 (s : Nat), undef, undef, .int .i64 0, .nilIface, .pointer (some ⟨w1.heap.size, 0, none⟩), .nilIface, .pointer (some ⟨w1.heap.size + 1, 0, none⟩), .int .i64 (x.1 : Nat), .tuple #[.slice (some ⟨A, 0, none⟩) n n, .nilIface], .slice p n cap, .tuple #[.slice (some ⟨A, 0, none⟩) n n, .nilIface], .slice (some ⟨A, 0, none⟩) n n, .nilIface, .nilIface, .bool false, undef, .int .i64 (s : Nat), .slice (some ⟨A, 0, none⟩) n n, .int .i64 n, .bool true, .bool false, undef, .int .i64 (s : Nat), .func (.func 52) #[] #[.pointer (some ⟨w1.heap.size + 1 + 1, 0, none⟩)], .int .i64 (x.1 : Nat), undef, undef, undef, undef, undef, undef, undef], defers := [] }) ?assign ?body ?done ?stop
  case assign =>
    intro l x W K hK
    gi_wp2
    exact hK
  case body =>
    rintro l pre x Wb ⟨hx2, hr, hx1, hB⟩ _
    have hx := x.2
    have hc1 := hx1.cell
    have hm4 := hlt (pre.map fun x : Fin n => x.1)
    have hsn := M.ahF_snoc t (pre.map fun x : Fin n => x.1) x.1
    obtain ⟨mm, hmm⟩ : ∃ mm, M.ahF t (pre.map fun x : Fin n => x.1) = mm := ⟨_, rfl⟩
    rw [hmm] at hx2 hm4 hsn
    have HS : Hid (M.ahF t (pre.map (fun x : Fin n => x.1) ++ [x.1]) = mm ||| M.row t x.1) := hsn
    clear hmm hsn
    have hc2 := hx2.cell
    have hf2 := hx2.frozen
    have hc4 := hr.cell (k := x.1) (by rw [htl]; exact hx)
    have hrx : M.row t x.1 < 4096 := by have := hto x.1; rw [htl] at this; omega
    have hor := i64_or_nat mm (M.row t x.1) (by omega) (by omega)
    gi_wp2
    refine wpIn_region_still_tail 6 (by kernel_rfl) (by kernel_rfl) (fun _ _ h => h) (by kernel_rfl) ?_
    simp only [List.take_succ_cons, List.take_zero, List.drop_succ_cons, List.drop_zero]
    repeat still_step
    refine wpStill_nil ?_
    go_wp2
    refine ⟨((KeepsOthers.setCell _ _ _).trans (KeepsOthers.drew _)).from _, ((Below.refl _ Wb).setCell (p := ⟨w1.heap.size + 1, 0, none⟩) (by simp; omega) _).drew, ?_, (hr.other (a := ⟨w1.heap.size + 1, 0, none⟩) (by simp; omega) _).drew, boxed_drew (boxed_otherAt hx1 (a := ⟨w1.heap.size + 1, 0, none⟩) (by simp) _), (hB.setCell (p := ⟨w1.heap.size + 1, 0, none⟩) (by simp; omega) _).drew⟩
    rw [List.map_append, List.map_cons, List.map_nil, HS.out]
    exact boxed_drew (hx2.set _)
  case done =>
    rintro D ys Wd hD hys ⟨hx2, hr, hx1, hB⟩ hK
    have hDl := (Array.getElem?_eq_some_iff.1 hK).1
    rw [hys, ← hgoal.out] at hx2
    show K _ _
    refine hK0 _ _ ?_
    have hc2 := hx2.cell
    go_wp2_with fail
    refine leaves_marks _ (D + 1) Wd hB.size ⟨D, by omega, by omega, rfl, hK, trivial⟩ (fun W' ht => ⟨_, results_tmp2 rfl _ _ _, ?_, hB.trans ht.below⟩)
    rw [HV.out]; rfl
  case stop =>
    rintro D c pre W _ _ h _
    exact h.elim
end Go.Proofs.YtejnjokjkinpkaaDoor
