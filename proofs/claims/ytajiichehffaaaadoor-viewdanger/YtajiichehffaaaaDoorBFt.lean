/- Package order's Check, Less and With, at whatever numbers: each tells what is wrong as the document has it, else whether a thing is ahead of another one, and the order with a step more; what lay in memory lies as it lay. Package order's Turned, at whatever numbers: it tells what is wrong as the document has it, else a new list, of each thing all that are ahead of it; what lay in memory lies as it lay. -/
import Derived.Test.YtajiichehffaaaaDoorBRo
import Derived.LaidEql
namespace Go.Proofs.YtajiichehffaaaaDoor
open Go.RowKit

/-- The library's table lies where its variable is. -/
structure Env (w : World) : Prop where
  tab : Tab w
  two : 2 < w.heap.size
theorem Env.later {w w' : World} (h : Env w) (hb : Below w.heap.size w w') : Env w' := ⟨h.tab.below hb h.two, by have := hb.size; have := h.two; omega⟩
/-- The slice's address p leads to the numbers zs. -/
def Has (zs : List Int) (p : Option Addr) (w : World) : Prop := ∀ j, j < zs.length → ∃ b off, p = some ⟨b, off, none⟩ ∧ b < w.heap.size ∧ w.cell? ⟨b, off + j, none⟩ = some (.int .i64 (zs[j]?.getD 0))
theorem Has.later {zs : List Int} {p : Option Addr} {w w' : World} (h : Has zs p w) (hb : Below w.heap.size w w') : Has zs p w' := fun j hj => by
  obtain ⟨b, off, h1, h2, h3⟩ := h j hj
  exact ⟨b, off, h1, by have := hb.size; omega, (hb.cell (p := ⟨b, off + j, none⟩) h2).trans h3⟩
theorem RowAt.has {w : World} {A : Nat} {m : List Nat} (h : RowAt 3 w A m) : Has (ints m) (some ⟨A, 0, none⟩) w := fun j hj => by
  rw [ints_length] at hj
  exact ⟨A, 0, rfl, h.lt, by rw [ints_get, Nat.zero_add]; exact h.cell hj⟩
theorem nats_ints (m : List Nat) : nats (ints m) = m := by
  apply List.ext_getElem
  · rw [nats_length, ints_length]
  · intro i h1 h2
    simp [nats, ints]
theorem allSets_ints {m : List Nat} (h : M.Ok m) : allSets (ints m) = true := by
  rw [allSets_iff]
  intro k hk
  rw [ints_get, ints_length]
  unfold setB
  have h1 := h k
  have e : ((2 : Int) ^ m.length) = ((2 ^ m.length : Nat) : Int) := by simp
  rw [e]
  exact decide_eq_true (by omega)
theorem code_ints {m : List Nat} (h : M.Ok m) (hn : m.length ≤ 12) : code (ints m) = if ringB m then 6 else 0 := by
  have hl : ¬ 12 < (ints m).length := by rw [ints_length]; omega
  cases hr : ringB m with
  | true => rw [code_clash hl (allSets_ints h) (by rw [nats_ints]; exact hr)]; rfl
  | false => rw [code_ok hl (allSets_ints h) (by rw [nats_ints]; exact hr)]; rfl

theorem behind_ok (zs : List Int) (p : Option Addr) (n cap : Nat) (w : World) (hl : zs.length = n) (he : Env w) (hmax : n ≤ maxLen) (hc : Has zs p w) (h0 : code zs = 0) :
    Calls Tryd.prog 48 #[.slice p n cap] w fun e w' => ∃ A, e = .returned (.tuple #[.slice (some ⟨A, 0, none⟩) n n, .nilIface]) ∧ RowAt 3 w' A (M.clo (nats zs)) ∧ w.heap.size ≤ A ∧ Below w.heap.size w w' := by
  subst hl
  refine (behind_any zs p cap w he.tab he.two hmax hc).mono ?_
  rintro e w' ⟨r, rfl, hb, _, h2⟩
  obtain ⟨A, rfl, h3, h4⟩ := h2 h0
  exact ⟨A, by rw [h0]; rfl, h3, h4, hb⟩
theorem behind_err (zs : List Int) (p : Option Addr) (n cap c : Nat) (w : World) (hl : zs.length = n) (he : Env w) (hmax : n ≤ maxLen) (hc : Has zs p w) (h0 : code zs = c) (hne : c ≠ 0) :
    Calls Tryd.prog 48 #[.slice p n cap] w fun e w' => e = .returned (.tuple #[.slice none 0 0, .iface 59 (.int .i64 (c : Nat))]) ∧ Below w.heap.size w w' := by
  subst hl
  refine (behind_any zs p cap w he.tab he.two hmax hc).mono ?_
  rintro e w' ⟨r, rfl, hb, h1, _⟩
  rw [h1 (by rw [h0]; exact hne), h0]
  exact ⟨by simp [errV, hne], hb⟩

theorem thingB_nat {i n : Nat} (h : i < n) : thingB (i : Int) n = true := by unfold thingB; exact decide_eq_true (by omega)
theorem thing_nat {z : Int} {n : Nat} (h : thingB z n = true) : ∃ i : Nat, z = i ∧ i < n := by
  unfold thingB at h
  have := of_decide_eq_true h
  exact ⟨z.toNat, by omega, by omega⟩
/-! ### With -/
theorem ringB_more_clo {r : List Nat} (hr : M.Ok r) {a b : Nat} (ha : a < r.length) (hb : b < r.length) : ringB (M.more (M.clo r) a b) = ringB (M.more r a b) := by
  unfold ringB
  rw [M.clo_more_clo hr ha hb, M.more_length, M.more_length, M.clo_length]
theorem shl_one (j : Nat) : (2 : Int) ^ j = ((1 <<< j : Nat) : Int) := by rw [Nat.shiftLeft_eq, Nat.one_mul]; simp
theorem i64_shl (j : Nat) (hj : j ≤ 12) : IntKind.i64.wrap (2 ^ j) = ((1 <<< j : Nat) : Int) := by
  rw [shl_one]
  refine i64_wrap_nat _ ?_
  rw [Nat.shiftLeft_eq, Nat.one_mul]; have := pow_lt j hj; omega
end Go.Proofs.YtajiichehffaaaaDoor
namespace Go.Proofs.YtajiichehffaaaaDoor
open Go.RowKit Go.Shelf
attribute [local go_sem] Oper.semAt_some

theorem made_arr (n : Nat) : madeCells #[.int .i64 0] n = arr (List.replicate n 0) := by
  apply Array.ext
  · simp [madeCells, arr]
  · intro i h1 h2
    simp [madeCells, arr, Nat.mod_one]

set_option maxHeartbeats 400000 in
theorem turned_err (zs : List Int) (p : Option Addr) (n cap c : Nat) (w : World) (hl : zs.length = n) (he : Env w) (hmax : n ≤ maxLen) (hc : Has zs p w) (h0 : code zs = c) (hne : c ≠ 0) :
    Calls Tryd.prog 42 #[.slice p n cap] w fun e w' => e = .returned (.tuple #[.slice none 0 0, .iface 59 (.int .i64 (c : Nat))]) ∧ Below w.heap.size w w' := by
  go_enter Tryd.func42, Tryd.ntmps42
  go_wp2_with (go_at_call 48; refine (behind_err zs p n cap c _ hl he hmax hc h0 hne).mono ?_; rintro e w' ⟨rfl, hB⟩)
  go_ret2
  exact ⟨rfl, hB⟩

set_option maxRecDepth 100000 in
set_option maxHeartbeats 2000000 in
theorem turned_ok (zs : List Int) (p : Option Addr) (n cap : Nat) (w : World) (hl : zs.length = n) (he : Env w) (hmax : n ≤ maxLen) (hc : Has zs p w) (h0 : code zs = 0) :
    Calls Tryd.prog 42 #[.slice p n cap] w fun e w' => ∃ A, e = .returned (.tuple #[.slice (some ⟨A, 0, none⟩) n n, .nilIface]) ∧ RowAt 3 w' A (M.turned (nats zs)) ∧ w.heap.size ≤ A ∧ Below w.heap.size w w' := by
  have hz := code_zero h0
  have hn : n ≤ 12 := by omega
  have hmk0 := run_make_row' (P := Tryd.prog) 32 3 (.int .i64 0) 8 Tryd.underlying32 Tryd.info3 rfl .i64 .i64 n (by omega) (by omega)
  refine callsIn_wide.1 (callsIn_of_wp_marks (n := 3) Tryd.func42 rfl trivial ?_ rfl)
  simp only [Tryd.ntmps42, List.size_toArray, List.length_cons, List.length_nil, Nat.reduceAdd, Nat.reduceSub, Array.replicate_succ, Array.replicate_zero, List.push_toArray, List.append_toArray, List.nil_append, List.cons_append]
  refine wpIn_wide.2 ?_
  go_wp2_with (go_at_call 48; refine (behind_ok zs p n cap _ hl he hmax hc h0).mono ?_; rintro e w1 ⟨A, rfl, hrc, hA, hBc⟩)
  obtain ⟨c, hcdef⟩ : ∃ c, M.clo (nats zs) = c := ⟨_, rfl⟩
  have hclen : c.length = n := by rw [← hcdef, M.clo_length, nats_length, hl]
  have hcok : M.Ok c := by rw [← hcdef]; exact M.clo_ok (nats_ok hz.2.1)
  have hgoal : M.turned (nats zs) = M.turn c n := by unfold M.turned; rw [hcdef, nats_length, hl]
  rw [hcdef] at hrc
  have HG : Hid (M.turned (nats zs) = M.turn c n) := hgoal
  have hA1 : A < w1.heap.size := hrc.lt
  have hrow0 : RowAt 3 ((w1.alloc (.cells (madeCells #[.int .i64 0] n) 3)).alloc (.cells #[.slice (some ⟨w1.heap.size, 0, none⟩) n n] 32)) w1.heap.size (M.turn c 0) := by
    rw [M.turn_zero, hclen]
    refine RowAt.alloc ?_ _
    unfold RowAt
    rw [World.alloc_heap_new, made_arr]
  have hbox0 : Boxed ((w1.alloc (.cells (madeCells #[.int .i64 0] n) 3)).alloc (.cells #[.slice (some ⟨w1.heap.size, 0, none⟩) n n] 32)) (w1.heap.size + 1) 32 (.slice (some ⟨w1.heap.size, 0, none⟩) n n) := by
    have h := Boxed.new (w1.alloc (.cells (madeCells #[.int .i64 0] n) 3)) 32 (.slice (some ⟨w1.heap.size, 0, none⟩) n n)
    rw [World.size_alloc] at h
    exact h
  have hrc0 : RowAt 3 ((w1.alloc (.cells (madeCells #[.int .i64 0] n) 3)).alloc (.cells #[.slice (some ⟨w1.heap.size, 0, none⟩) n n] 32)) A c := (hrc.alloc _).alloc _
  have hB0 : Below w.heap.size w ((w1.alloc (.cells (madeCells #[.int .i64 0] n) 3)).alloc (.cells #[.slice (some ⟨w1.heap.size, 0, none⟩) n n] 32)) := (hBc.alloc hBc.size _).alloc (by have := hBc.size; simp; omega) _
  have hw1 : w.heap.size ≤ w1.heap.size := hBc.size
  refine wp_loop (fun a W => ∃ (i : Nat) (ds : List Deferred) (u7 u8 u9 u24 u25 u26 u27 u28 u29 u30 u31 u32 u33 u34 u35 u36 u37 u38 u39 : Value), i ≤ n ∧ RowAt 3 W w1.heap.size (M.turn c i) ∧ RowAt 3 W A c ∧ Boxed W (w1.heap.size + 1) 32 (.slice (some ⟨w1.heap.size, 0, none⟩) n n) ∧ Below w.heap.size w W ∧ Marks w.heap.size W W.heap.size ds ∧
      a = { tmps := #[.slice p n cap, undef, .slice none 0 0, .nilIface, .slice (some ⟨A, 0, none⟩) n n, .nilIface, .pointer (some ⟨w1.heap.size + 1, 0, none⟩), u7, u8, u9, .tuple #[.slice (some ⟨A, 0, none⟩) n n, .nilIface], .slice p n cap, .tuple #[.slice (some ⟨A, 0, none⟩) n n, .nilIface], .slice (some ⟨A, 0, none⟩) n n, .nilIface, .nilIface, .bool false, undef, .slice (some ⟨A, 0, none⟩) n n, .int .i64 n, .slice (some ⟨w1.heap.size, 0, none⟩) n n, .slice (some ⟨A, 0, none⟩) n n, .int .i64 n, .int .i64 (i : Nat), u24, u25, u26, u27, u28, u29, u30, u31, u32, u33, u34, u35, u36, u37, u38, u39, undef], defers := ds }) (fun a _ => n - (intOf (a.tmps.getD 23 undef)).toNat) ?start ?round
  case start => exact ⟨0, [], _, _, _, _, _, _, _, _, _, _, _, _, _, _, _, _, _, _, _, Nat.zero_le _, hrow0, hrc0, hbox0, hB0, trivial, rfl⟩
  case round =>
    clear hrow0 hrc0 hbox0 hB0 hmk0 hcdef hgoal hrc
    rintro a W ⟨i, ds, u7, u8, u9, u24, u25, u26, u27, u28, u29, u30, u31, u32, u33, u34, u35, u36, u37, u38, u39, hi, hrow, hrc, hbox, hB, hmk, rfl⟩
    dsimp only
    have hbc := hbox.cell
    by_cases hil : i < n
    · have hci := hrc.cell (k := i) (by rw [hclen]; exact hil)
      have hWs : w1.heap.size + 1 < W.heap.size := hbox.lt
      have htl : (M.turn c i).length = n := by rw [M.turn_length, hclen]
      go_wp2_with (go_at_call 27; refine (things_any _ _).mono ?_; rintro e w' ⟨rfl, rfl⟩)
      have hrow2 : RowAt 3 ((W.alloc (.cells #[.int .i64 (i : Nat)] 3)).alloc (.cells #[.int .i64 (M.row c i : Nat)] 3)) w1.heap.size (M.turn c i) := (hrow.alloc _).alloc _
      have hrc2 : RowAt 3 ((W.alloc (.cells #[.int .i64 (i : Nat)] 3)).alloc (.cells #[.int .i64 (M.row c i : Nat)] 3)) A c := (hrc.alloc _).alloc _
      have hbox2 : Boxed ((W.alloc (.cells #[.int .i64 (i : Nat)] 3)).alloc (.cells #[.int .i64 (M.row c i : Nat)] 3)) (w1.heap.size + 1) 32 (.slice (some ⟨w1.heap.size, 0, none⟩) n n) := (hbox.alloc _).alloc _
      have hbi2 : Boxed ((W.alloc (.cells #[.int .i64 (i : Nat)] 3)).alloc (.cells #[.int .i64 (M.row c i : Nat)] 3)) W.heap.size 3 (.int .i64 (i : Nat)) := (Boxed.new W 3 (.int .i64 (i : Nat))).alloc _
      have hbs2 : Boxed ((W.alloc (.cells #[.int .i64 (i : Nat)] 3)).alloc (.cells #[.int .i64 (M.row c i : Nat)] 3)) (W.heap.size + 1) 3 (.int .i64 (M.row c i : Nat)) := by
        have h := Boxed.new (W.alloc (.cells #[.int .i64 (i : Nat)] 3)) 3 (.int .i64 (M.row c i : Nat))
        rw [World.size_alloc] at h; exact h
      have hB2 : Below w.heap.size w ((W.alloc (.cells #[.int .i64 (i : Nat)] 3)).alloc (.cells #[.int .i64 (M.row c i : Nat)] 3)) := (hB.alloc (by omega) _).alloc (by simp; omega) _
      have hmk2 : Marks w.heap.size ((W.alloc (.cells #[.int .i64 (i : Nat)] 3)).alloc (.cells #[.int .i64 (M.row c i : Nat)] 3)) (W.heap.size + 2) ds := ((hmk.others (KeepsOthers.alloc _ _)).others (KeepsOthers.alloc _ _)).hi (by omega)
      have hT2 := he.tab.below hB2 he.two
      have hs2 : M.row c i < 2 ^ n := by have := hcok i; rw [hclen] at this; exact this
      have htw := he.two
      clear hmk hB hci hbc
      refine (wpIn_wide (n := 3)).1 ?_
      refine wpIn_rangeFunc_ownG rfl (by omega) (gf := 45) (lb := #[.pointer (some ⟨W.heap.size + 1, 0, none⟩)]) rfl trivial (enters_of Tryd.func45 (by kernel_rfl) rfl)
        (things_stops (3 - 1) (W.heap.size + 1) w.heap.size n (M.row c i) hn hs2 he.two _ (by simp) (by simp; omega) hT2 hbs2.cell) belowK_t (belowK_b (by simp; omega)) (Below.refl _ _) (fun _ => rfl)
        (fun (pre : List (Fin n)) W' => RowAt 3 W' w1.heap.size (M.tinner (M.turn c i) i (pre.map fun x : Fin n => x.1)) ∧ RowAt 3 W' A c ∧ Boxed W' (w1.heap.size + 1) 32 (.slice (some ⟨w1.heap.size, 0, none⟩) n n) ∧ Boxed W' W.heap.size 3 (.int .i64 (i : Nat)) ∧ Below w.heap.size w W' ∧ Marks w.heap.size W' (W.heap.size + 2) ds)
        (fun _ _ _ => False)
        (OwnFrom.and (Own.from (rowAt_own 3 w1.heap.size fun pre : List (Fin n) => M.tinner (M.turn c i) i (pre.map fun x : Fin n => x.1)) _) (OwnFrom.and (Own.from (rowAt_own 3 A fun _ => c) _) (OwnFrom.and (Own.from (boxed_own _ _ fun _ => (.slice (some ⟨w1.heap.size, 0, none⟩) n n)) _) (OwnFrom.and (Own.from (boxed_own _ _ fun _ => .int .i64 (i : Nat)) _) (OwnFrom.and (ownFrom_below (Nat.le_refl _) (by simp; omega)) (by simpa using marks_own w.heap.size (W.heap.size + 2) ds))))))
        (fun _ _ _ _ _ hs _ _ => hs)
        ⟨hrow2, hrc2, hbox2, hbi2, hB2, hmk2⟩
        (fun x => { tmps := #[.slice p n cap, undef, .slice none 0 0, .nilIface, .slice (some ⟨A, 0, none⟩) n n, .nilIface, .pointer (some ⟨w1.heap.size + 1, 0, none⟩), .pointer (some ⟨W.heap.size, 0, none⟩), .int .i64 (M.row c i : Nat), .int .i64 (x.1 : Nat), .tuple #[.slice (some ⟨A, 0, none⟩) n n, .nilIface], .slice p n cap, .tuple #[.slice (some ⟨A, 0, none⟩) n n, .nilIface], .slice (some ⟨A, 0, none⟩) n n, .nilIface, .nilIface, .bool false, undef, .slice (some ⟨A, 0, none⟩) n n, .int .i64 n, .slice (some ⟨w1.heap.size, 0, none⟩) n n, .slice (some ⟨A, 0, none⟩) n n, .int .i64 n, .int .i64 (i : Nat), .bool true, .int .i64 (i : Nat), .pointer (some ⟨A, i, none⟩), .int .i64 (M.row c i : Nat), .int .i64 (M.row c i : Nat), .func (.func 45) #[] #[.pointer (some ⟨W.heap.size + 1, 0, none⟩)], .int .i64 (x.1 : Nat), u31, u32, u33, u34, u35, u36, u37, u38, u39, undef], defers := [] }) ?assign ?body ?done ?stop
      case assign =>
        intro l x W K hK
        gi_wp2
        exact hK
      case body =>
        rintro l pre x Wb ⟨hr, hrc, hbx, hbi, hB, hmk⟩ _
        obtain ⟨mm, hmm⟩ : ∃ mm, M.tinner (M.turn c i) i (pre.map fun x : Fin n => x.1) = mm := ⟨_, rfl⟩
        have hmo : ∀ j, M.row mm j < 2 ^ n := by
          rw [← hmm]
          exact M.tinner_lt (fun j => by have := M.turn_ok c i (by omega) j; rw [htl] at this; exact this) hil _
        rw [hmm] at hr
        have hml : mm.length = n := by rw [← hmm, M.tinner_length, htl]
        have hc1 := hbx.cell
        have hc2 := hbi.cell
        have hx := x.2
        have hc4 := hr.cell (k := x.1) (by rw [hml]; exact hx)
        have hf4 := hr.frozen x.1
        have hsh : IntKind.i64.wrap (2 ^ i) = ((1 <<< i : Nat) : Int) := i64_shl i (by omega)
        have hjp : 1 <<< i < 65536 := by rw [Nat.shiftLeft_eq, Nat.one_mul]; have := pow_lt i (by omega); omega
        obtain ⟨q, hq⟩ : ∃ q : Nat, 1 <<< i = q := ⟨_, rfl⟩
        rw [hq] at hsh hjp
        have HQ : Hid (1 <<< i = q) := hq
        clear hq
        gi_wp2
        refine wpIn_region_still_tail 7 (by kernel_rfl) (by kernel_rfl) (fun _ _ h => h) (by kernel_rfl) ?_
        simp only [List.take_succ_cons, List.take_zero, List.drop_succ_cons, List.drop_zero]
        repeat still_step
        refine wpStill_nil ?_
        go_wp2
        have hor := i64_or_nat (M.row mm x.1) q (by have h := hmo x.1; have := pow_lt n hn; omega) hjp
        rw [hor]
        refine ⟨((KeepsOthers.setCell _ _ _).trans (KeepsOthers.drew _)).from _, ((Below.refl _ Wb).setCell (p := ⟨w1.heap.size, x.1, none⟩) hw1 _).drew, ?_, (hrc.other (a := ⟨w1.heap.size, x.1, none⟩) (by simp; omega) _).drew, boxed_drew (boxed_otherAt hbx (a := ⟨w1.heap.size, x.1, none⟩) (by simp) _), boxed_drew (boxed_otherAt hbi (a := ⟨w1.heap.size, x.1, none⟩) (by simp; omega) _), (hB.setCell (p := ⟨w1.heap.size, x.1, none⟩) hw1 _).drew, (hmk.others (KeepsOthers.setCell _ _ _)).others (KeepsOthers.drew _)⟩
        rw [List.map_append, List.map_cons, List.map_nil, M.tinner_snoc, hmm, HQ.out]
        exact (hr.set x.1 _).drew
      case done =>
        rintro D ys Wd hD hys ⟨hr, hrc, hbx, hbi, hB, hmk⟩ hK
        have hD' : W.heap.size + 2 ≤ D := by simpa using hD
        have hDl := (Array.getElem?_eq_some_iff.1 hK).1
        rw [hys, M.turn_succ (by omega)] at hr
        go_wp2
        refine ⟨⟨i + 1, { target := .collected D, args := #[] } :: ds, _, _, _, _, _, _, _, _, _, _, _, _, _, _, _, _, _, _, _, by omega, hr, hrc, hbx, hB, ⟨D, by omega, hDl, rfl, hK, hmk.hi hD'⟩, rfl⟩, ?_⟩
        simp [intOf]; omega
      case stop =>
        rintro D c pre W _ _ h _
        exact h.elim
    · obtain rfl : i = n := by omega
      go_wp2_with fail
      refine leaves_marks ds W.heap.size W hB.size hmk (fun W' ht => ⟨_, results_tmp2 rfl _ _ _, _, rfl, ?_, hw1, hB.trans ht.below⟩)
      rw [HG.out]
      exact ht.row hrow
end Go.Proofs.YtajiichehffaaaaDoor
