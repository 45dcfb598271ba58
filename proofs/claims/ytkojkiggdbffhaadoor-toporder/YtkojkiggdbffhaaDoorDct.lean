/- Package down's Count, at whatever numbers: it tells what is wrong as the document has it, else how many closed sets there are, counted set by set; what lay in memory lies as it lay. -/
import Derived.WalkMore
import Derived.Test.YtkojkiggdbffhaaDoorAho
namespace Go.Proofs.YtkojkiggdbffhaaDoor
open Go.RowKit Go.Shelf
attribute [local go_sem] Oper.semAt_some

set_option maxHeartbeats 400000 in
theorem dcount_err (zs : List Int) (p : Option Addr) (n cap c : Nat) (w : World) (hl : zs.length = n) (he : Env w) (hmax : n ≤ maxLen) (hc : Has zs p w) (h0 : code zs = c) (hne : c ≠ 0) :
    Calls Tryd.prog 11 #[.slice p n cap] w fun e w' => e = .returned (.tuple #[.int .i64 0, .iface 49 (.int .i64 (c : Nat))]) ∧ Below w.heap.size w w' := by
  go_enter Tryd.func11, Tryd.ntmps11
  go_wp2
  go_step3
  go_wp2_with (go_at_call 27; refine (turned_err zs p n cap c _ hl he hmax hc h0 hne).mono ?_; rintro e w' ⟨rfl, hB⟩)
  rw [Exit.noGoto_ret]
  go_ret2
  exact ⟨rfl, hB.alloc hB.size _⟩
theorem closB_all {t : List Nat} {s n : Nat} (hn : n ≤ 12) (hs : s < 2 ^ n) (h : ∀ x, x ∈ M.bits s → M.subB (M.row t x) s = true) : M.closB t s = true :=
  M.closB_iff.2 (fun i j hi hj => M.subB_iff.1 (h i (M.mem_bits.2 ⟨by have := M.lt_of_testBit hs hi; omega, hi⟩)) j hj)
theorem closB_not {t : List Nat} {s x : Nat} (hx : x ∈ M.bits s) (h : M.subB (M.row t x) s = false) : M.closB t s = false := by
  cases hb : M.closB t s with
  | false => rfl
  | true =>
    rw [M.subB_iff.2 (fun j hj => M.closB_iff.1 hb x j (M.mem_bits.1 hx).2 hj)] at h
    cases h

set_option maxRecDepth 100000 in
set_option maxHeartbeats 2000000 in
theorem dcount_ok (zs : List Int) (p : Option Addr) (n cap : Nat) (w : World) (hl : zs.length = n) (he : Env w) (hmax : n ≤ maxLen) (hc : Has zs p w) (h0 : code zs = 0) :
    Calls Tryd.prog 11 #[.slice p n cap] w fun e w' => e = .returned (.tuple #[.int .i64 (M.downs (M.turned (nats zs)) : Nat), .nilIface]) ∧ Below w.heap.size w w' := by
  have hz := code_zero h0
  have hn : n ≤ 12 := by omega
  have hpw := pow_lt n hn
  have hto := M.turned_ok (nats zs)
  have htl : (M.turned (nats zs)).length = n := by rw [M.turned_length, nats_length, hl]
  have hsh : IntKind.i64.wrap (2 ^ n) = ((2 ^ n : Nat) : Int) := by have := i64_shl n hn; rw [Nat.shiftLeft_eq, Nat.one_mul] at this; exact this
  have hgoal : Hid (M.downs (M.turned (nats zs)) = M.cb (2 ^ n) (M.closB (M.turned (nats zs)))) := (by unfold M.downs; rw [htl] : M.downs (M.turned (nats zs)) = M.cb (2 ^ n) (M.closB (M.turned (nats zs))))
  obtain ⟨q, hq⟩ : ∃ q : Nat, 2 ^ n = q := ⟨_, rfl⟩
  have HQ : Hid (2 ^ n = q) := hq
  rw [hq] at hsh hpw hgoal
  clear hq
  refine callsIn_wide.1 (callsIn_of_wp_marks (n := 3) Tryd.func11 rfl trivial ?_ rfl)
  simp only [Tryd.ntmps11, List.size_toArray, List.length_cons, List.length_nil, Nat.reduceAdd, Nat.reduceSub, Array.replicate_succ, Array.replicate_zero, List.push_toArray, List.append_toArray, List.nil_append, List.cons_append]
  refine wpIn_wide.2 ?_
  go_wp2
  go_step3
  go_wp2_with fail
  refine (turned_ok zs p n cap _ hl he hmax hc h0).mono ?_
  rintro e w1 ⟨A, rfl, hrc, hA, hBc⟩
  obtain ⟨v, hv⟩ : ∃ v, M.downs (M.turned (nats zs)) = v := ⟨_, rfl⟩
  have HV : Hid (M.downs (M.turned (nats zs)) = v) := hv
  rw [hv] at hgoal
  clear hv
  obtain ⟨t, ht⟩ : ∃ t, M.turned (nats zs) = t := ⟨_, rfl⟩
  rw [ht] at hrc hto htl hgoal
  clear ht
  have hA1 : A < w1.heap.size := hrc.lt
  have hw1 : w.heap.size ≤ w1.heap.size := hBc.size
  go_wp2_with fail
  go_step3
  go_wp2_with fail
  have hrow0 : RowAt 3 (w1.alloc (.cells #[.slice (some ⟨A, 0, none⟩) n n] 25)) A t := hrc.alloc _
  have hbox0 : Boxed (w1.alloc (.cells #[.slice (some ⟨A, 0, none⟩) n n] 25)) w1.heap.size 25 (.slice (some ⟨A, 0, none⟩) n n) := Boxed.new w1 _ _
  have hB0 : Below w.heap.size w (w1.alloc (.cells #[.slice (some ⟨A, 0, none⟩) n n] 25)) := hBc.alloc hw1 _
  refine wp_loop (fun a W => ∃ (k c : Nat) (ds : List Deferred) (u7 u8 u21 u22 u23 u24 u25 u26 u27 u28 u29 u30 u31 u32 u33 u34 u35 : Value), k ≤ q ∧ c ≤ k ∧ Hid (c = M.cb k (M.closB t)) ∧ RowAt 3 W A t ∧ Boxed W w1.heap.size 25 (.slice (some ⟨A, 0, none⟩) n n) ∧ Below w.heap.size w W ∧ Marks w.heap.size W W.heap.size ds ∧
      a = { tmps := #[.slice p n cap, undef, .int .i64 0, .nilIface, .pointer (some ⟨w1.heap.size, 0, none⟩), .nilIface, .int .i64 (c : Nat), u7, u8, .tuple #[.slice (some ⟨A, 0, none⟩) n n, .nilIface], .slice p n cap, .tuple #[.slice (some ⟨A, 0, none⟩) n n, .nilIface], .slice (some ⟨A, 0, none⟩) n n, .nilIface, .nilIface, .bool false, undef, .slice (some ⟨A, 0, none⟩) n n, .int .i64 n, .int .i64 q, .int .i64 (k : Nat), u21, u22, u23, u24, u25, u26, u27, u28, u29, u30, u31, u32, u33, u34, u35, undef], defers := ds }) (fun a _ => q - (intOf (a.tmps.getD 20 undef)).toNat) ?start ?round
  case start => exact ⟨0, 0, [], _, _, _, _, _, _, _, _, _, _, _, _, _, _, _, _, _, Nat.zero_le _, Nat.le_refl _, (rfl : 0 = M.cb 0 (M.closB t)), hrow0, hbox0, hB0, trivial, rfl⟩
  case round =>
    clear hrow0 hbox0 hB0 hrc
    rintro a W ⟨k, c, ds, u7, u8, u21, u22, u23, u24, u25, u26, u27, u28, u29, u30, u31, u32, u33, u34, u35, hk, hck, hcd, hrc, hbox, hB, hmk, rfl⟩
    dsimp only
    have hbc := hbox.cell
    by_cases hkq : k < q
    · have hWs : w1.heap.size < W.heap.size := hbox.lt
      have hks : k < 2 ^ n := by rw [HQ.out]; exact hkq
      have hstep : Hid (M.cb (k + 1) (M.closB t) = c + (if M.closB t k then 1 else 0)) := (by rw [hcd.out]; simp only [M.cb] : M.cb (k + 1) (M.closB t) = c + (if M.closB t k then 1 else 0))
      go_wp2_with (go_at_call 28; refine (things_any _ _).mono ?_; rintro e w' ⟨rfl, rfl⟩)
      obtain ⟨Wa, hWa⟩ : ∃ Wa, (W.alloc (.cells #[.int .i64 (k : Nat)] 3)).alloc (.cells #[.int .i64 (k : Nat)] 3) = Wa := ⟨_, rfl⟩
      have hsz : Wa.heap.size = W.heap.size + 2 := by rw [← hWa]; simp
      have hr2 : RowAt 3 Wa A t := by rw [← hWa]; exact (hrc.alloc _).alloc _
      have hbx2 : Boxed Wa w1.heap.size 25 (.slice (some ⟨A, 0, none⟩) n n) := by rw [← hWa]; exact (hbox.alloc _).alloc _
      have hbk2 : Boxed Wa W.heap.size 3 (.int .i64 (k : Nat)) := by rw [← hWa]; exact (Boxed.new W _ _).alloc _
      have hbs2 : Boxed Wa (W.heap.size + 1) 3 (.int .i64 (k : Nat)) := by
        rw [← hWa]
        have h := Boxed.new (W.alloc (.cells #[.int .i64 (k : Nat)] 3)) 3 (.int .i64 (k : Nat))
        rw [World.size_alloc] at h; exact h
      have hB2 : Below w.heap.size w Wa := by rw [← hWa]; exact (hB.alloc (by omega) _).alloc (by simp; omega) _
      have hmk2 : Marks w.heap.size Wa (W.heap.size + 2) ds := by rw [← hWa]; exact ((hmk.others (KeepsOthers.alloc _ _)).others (KeepsOthers.alloc _ _)).hi (by omega)
      rw [hWa]
      have hT2 := he.tab.below hB2 he.two
      have htw := he.two
      clear hmk hB hbc hrc hbox
      refine (wpIn_wide (n := 3)).1 ?_
      refine wpIn_rangeFunc_ownG rfl (by omega) (gf := 45) (lb := #[.pointer (some ⟨W.heap.size + 1, 0, none⟩)]) rfl trivial (enters_of Tryd.func45 (by kernel_rfl) rfl)
        (things_stopsP (3 - 1) (W.heap.size + 1) w.heap.size n k hn hks he.two Wa (by omega) (by omega) hT2 hbs2.cell) belowK_t (belowK_b (by omega)) (Below.refl _ _) (fun _ => rfl)
        (fun (pre : List (Fin n)) W' => (∀ x, x ∈ pre.map (fun x : Fin n => x.1) → M.subB (M.row t x) k = true) ∧ RowAt 3 W' A t ∧ Boxed W' w1.heap.size 25 (.slice (some ⟨A, 0, none⟩) n n) ∧ Boxed W' W.heap.size 3 (.int .i64 (k : Nat)) ∧ Below w.heap.size w W' ∧ Marks w.heap.size W' (W.heap.size + 2) ds)
        (fun cc pre W' => cc = .exit 1 ∧ (∃ x, x ∈ pre.map (fun x : Fin n => x.1) ∧ M.subB (M.row t x) k = false) ∧ RowAt 3 W' A t ∧ Boxed W' w1.heap.size 25 (.slice (some ⟨A, 0, none⟩) n n) ∧ Below w.heap.size w W' ∧ Marks w.heap.size W' (W.heap.size + 2) ds)
        (OwnFrom.and (fun _ _ _ _ h _ _ => h) (OwnFrom.and (Own.from (rowAt_own 3 A fun _ => t) _) (OwnFrom.and (Own.from (boxed_own _ _ fun _ => (.slice (some ⟨A, 0, none⟩) n n)) _) (OwnFrom.and (Own.from (boxed_own _ _ fun _ => .int .i64 (k : Nat)) _) (OwnFrom.and (ownFrom_below (Nat.le_refl _) (by omega)) (by rw [hsz]; exact marks_own w.heap.size (W.heap.size + 2) ds))))))
        (fun _ => OwnFrom.and (fun _ _ _ _ h _ _ => h) (OwnFrom.and (fun _ _ _ _ h _ _ => h) (OwnFrom.and (Own.from (rowAt_own 3 A fun _ => t) _) (OwnFrom.and (Own.from (boxed_own _ _ fun _ => (.slice (some ⟨A, 0, none⟩) n n)) _) (OwnFrom.and (ownFrom_below (Nat.le_refl _) (by omega)) (by rw [hsz]; exact marks_own w.heap.size (W.heap.size + 2) ds))))))
        ⟨fun x hx => (by simp at hx), hr2, hbx2, hbk2, hB2, hmk2⟩
        (fun x => { tmps := #[.slice p n cap, undef, .int .i64 0, .nilIface, .pointer (some ⟨w1.heap.size, 0, none⟩), .nilIface, .int .i64 (c : Nat), .pointer (some ⟨W.heap.size, 0, none⟩), .int .i64 (x.1 : Nat), .tuple #[.slice (some ⟨A, 0, none⟩) n n, .nilIface], .slice p n cap, .tuple #[.slice (some ⟨A, 0, none⟩) n n, .nilIface], .slice (some ⟨A, 0, none⟩) n n, .nilIface, .nilIface, .bool false, undef, .slice (some ⟨A, 0, none⟩) n n, .int .i64 n, .int .i64 q, .int .i64 (k : Nat), .bool true, .int .i64 (k : Nat), .int .i64 (k : Nat), .func (.func 45) #[] #[.pointer (some ⟨W.heap.size + 1, 0, none⟩)], .int .i64 (x.1 : Nat), u26, u27, u28, u29, u30, u31, u32, u33, u34, u35, undef], defers := [] }) ?assign ?body ?done ?stop
      case assign =>
        intro l x W K hK
        gi_wp2
        exact hK
      case body =>
        rintro l pre x Wb ⟨hpre, hr, hx1, hxk, hB, hmk⟩ _
        have hx := x.2
        have hc1 := hx1.cell
        have hck := hxk.cell
        have hc4 := hr.cell (k := x.1) (by rw [htl]; exact hx)
        have hrx : M.row t x.1 < 65536 := by have := hto x.1; rw [htl, HQ.out] at this; omega
        obtain ⟨r, hrr, -, hbits⟩ := i64_andNot_bits (M.row t x.1) k hrx (by omega)
        have hzr : Hid (r = 0 ↔ M.subB (M.row t x.1) k = true) := ((andNot_zero hbits).trans M.subB_iff.symm : r = 0 ↔ M.subB (M.row t x.1) k = true)
        clear hbits
        gi_wp2
        refine wpIn_region_still_tail 6 (by kernel_rfl) (by kernel_rfl) (fun _ _ h => h) (by kernel_rfl) ?_
        simp only [List.take_succ_cons, List.take_zero, List.drop_succ_cons, List.drop_zero]
        repeat still_step
        refine wpStill_nil ?_
        by_cases h0 : r = 0
        · have hsub := hzr.out.1 h0
          subst h0
          go_wp2
          gi_wp2
          refine ⟨(KeepsOthers.drew _).from _, (Below.refl _ Wb).drew, fun y hy => ?_, hr.drew, boxed_drew hx1, boxed_drew hxk, hB.drew, hmk.others (KeepsOthers.drew _)⟩
          rw [List.map_append, List.map_cons, List.map_nil] at hy
          rcases List.mem_append.1 hy with hy | hy
          · exact hpre y hy
          · obtain rfl := List.mem_singleton.1 hy
            exact hsub
        · have hne : ((r : Int) != 0) = true := by simp; omega
          have hsub : M.subB (M.row t x.1) k = false := by
            cases hb : M.subB (M.row t x.1) k with
            | false => rfl
            | true => exact absurd (hzr.out.2 hb) h0
          go_wp2
          gi_wp2
          exact ⟨(KeepsOthers.drew _).from _, rfl, ⟨x.1, by simp, hsub⟩, hr.drew, boxed_drew hx1, hB.drew, hmk.others (KeepsOthers.drew _)⟩
      case done =>
        rintro D ys Wd hD hys ⟨hpre, hr, hx1, hxk, hB, hmk⟩ hK
        have hDl := (Array.getElem?_eq_some_iff.1 hK).1
        rw [hys] at hpre
        have hst := closB_all hn hks hpre
        have hcn : Hid (c + 1 = M.cb (k + 1) (M.closB t)) := (by rw [hstep.out, if_pos hst] : c + 1 = M.cb (k + 1) (M.closB t))
        clear hpre hst
        go_wp2
        refine ⟨⟨k + 1, c + 1, { target := .collected D, args := #[] } :: ds, _, _, _, _, _, _, _, _, _, _, _, _, _, _, _, _, _, by omega, by omega, hcn, hr, hx1, hB, ⟨D, by omega, hDl, rfl, hK, hmk.hi (by omega)⟩, rfl⟩, ?_⟩
        simp [intOf]; omega
      case stop =>
        rintro D cc pre Wd hD ⟨rr, hrr⟩ ⟨rfl, ⟨x, hxm, hxn⟩, hr, hx1, hB, hmk⟩ hK
        have hDl := (Array.getElem?_eq_some_iff.1 hK).1
        have hst := closB_not (show x ∈ M.bits k by rw [hrr]; exact List.mem_append_left _ hxm) hxn
        have hcn : Hid (c = M.cb (k + 1) (M.closB t)) := (by rw [hstep.out, hst]; simp : c = M.cb (k + 1) (M.closB t))
        clear hst hxn hxm hrr
        gi_wp2
        go_wp2
        refine ⟨⟨k + 1, c, { target := .collected D, args := #[] } :: ds, _, _, _, _, _, _, _, _, _, _, _, _, _, _, _, _, _, by omega, by omega, hcn, hr, hx1, hB, ⟨D, by omega, hDl, rfl, hK, hmk.hi (by omega)⟩, rfl⟩, ?_⟩
        simp [intOf]; omega
    · obtain rfl : k = q := by omega
      go_wp2_with fail
      rw [Exit.noGoto_ret]
      refine leaves_marks ds W.heap.size W hB.size hmk (fun W' ht => ⟨_, results_tmp2 rfl _ _ _, ?_, hB.trans ht.below⟩)
      rw [HV.out, hgoal.out, ← hcd.out]; rfl
end Go.Proofs.YtkojkiggdbffhaaDoor
