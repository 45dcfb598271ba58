/- The greatest whole cut in a cut (package cut, Line), at whatever numbers; what lay in memory lies as it lay. -/
import Derived.Test.YtlhpkpjcfjdgaaaDoorCt5
namespace Go.Proofs.YtlhpkpjcfjdgaaaDoor
open Go.RowKit Go.Shelf
attribute [local go_sem] Oper.semAt_some
namespace M
/-- how many of these events are at a process, all that happened before them being in s -/
def lnc (T : List (Int × Int)) (s : Nat) (xs : List Nat) (p : Nat) : Nat := (xs.filter fun i => pr T i == (p : Int) && subB (bs T i) s).length
def lnl (T : List (Int × Int)) (s P : Nat) (xs : List Nat) : List Nat := (List.range P).map (lnc T s xs)
theorem lnl_length (T : List (Int × Int)) (s P : Nat) (xs : List Nat) : (lnl T s P xs).length = P := by simp [lnl]
theorem lnl_row (T : List (Int × Int)) (s : Nat) {P : Nat} (xs : List Nat) {p : Nat} (h : p < P) : row (lnl T s P xs) p = lnc T s xs p := by simp [row, lnl, h]
theorem lnl_nil (T : List (Int × Int)) (s P : Nat) : lnl T s P [] = List.replicate P 0 := by
  refine List.ext_getElem (by simp [lnl]) fun k h1 h2 => ?_
  simp [lnl, lnc]
theorem lnc_le (T : List (Int × Int)) (s : Nat) (xs : List Nat) (p : Nat) : lnc T s xs p ≤ xs.length := List.length_filter_le _ _
theorem lnl_hit {T : List (Int × Int)} {s P : Nat} {xs : List Nat} {x a v : Nat} (ha : pr T x = (a : Int)) (hs : subB (bs T x) s = true) (hv : v = lnc T s xs a + 1) : (lnl T s P xs).set a v = lnl T s P (xs ++ [x]) := by
  subst hv
  refine List.ext_getElem (by simp [lnl]) fun k h1 h2 => ?_
  simp only [lnl, List.getElem_set, List.getElem_map, List.getElem_range, lnc, List.filter_append, List.filter_cons, List.filter_nil, ha, hs, Bool.and_true]
  by_cases e : a = k
  · subst e; simp
  · have : ((a : Int) == (k : Int)) = false := by simp; omega
    rw [if_neg e, this]; simp
theorem lnl_miss {T : List (Int × Int)} {s P : Nat} {xs : List Nat} {x : Nat} (hs : subB (bs T x) s = false) : lnl T s P (xs ++ [x]) = lnl T s P xs := by
  refine List.ext_getElem (by simp [lnl]) fun k h1 h2 => ?_
  simp only [lnl, List.getElem_map, List.getElem_range, lnc, List.filter_append, List.filter_cons, List.filter_nil, hs, Bool.and_false]
  simp
theorem lnl_end {P : Int} {T : List (Int × Int)} (hk : TOk P T) (c : List Nat) : lnl T (cset T c T.length) c.length (bitsB (cset T c T.length)) = line T c := by
  refine List.ext_getElem (by simp [lnl, line]) fun p h1 h2 => ?_
  simp only [lnl, line, List.getElem_map, List.getElem_range, lnc, ln]
  rw [cb_filter]
  unfold bitsB
  rw [List.filter_filter]
  have hle : T.length ≤ 24 := hk.len
  have hr : List.range 24 = List.range T.length ++ (List.range (24 - T.length)).map (fun x => T.length + x) := by
    rw [← List.range_add, show T.length + (24 - T.length) = 24 by omega]
  rw [hr, List.filter_append]
  have h0 : ((List.range (24 - T.length)).map (fun x => T.length + x)).filter (fun i => (pr T i == (p : Int) && subB (bs T i) (cset T c T.length)) && (cset T c T.length).testBit i) = [] := by
    rw [List.filter_eq_nil_iff]
    intro i hi
    obtain ⟨x, _, rfl⟩ := List.mem_map.1 hi
    rw [cset_bit, decide_eq_false (by omega), Bool.false_and, Bool.and_false]
    simp
  rw [h0, List.append_nil]
  congr 1
  refine List.filter_congr fun i hi => ?_
  rw [List.mem_range] at hi
  rw [cset_bit, decide_eq_true hi, Bool.true_and]
  unfold lnB
  cases inC T c i <;> simp
end M
set_option maxRecDepth 100000 in
set_option maxHeartbeats 2000000 in
theorem cline_err (P : Int) (T : List (Int × Int)) (p : Option Addr) (n cap : Nat) (zs : List Int) (q : Option Addr) (m cap2 : Nat) (w : World) (hl : T.length = n) (hmax : n ≤ maxLen) (hc : HasE T p w) (hl2 : zs.length = m) (hmax2 : m ≤ maxLen) (hz : HasI zs q w) (c : Nat) (hcc : M.ccode P T zs = c) (hne : c ≠ 0) :
    Calls Tryd.prog 19 #[trV P p n cap, .slice q m cap2] w fun e w' => e = .returned (.tuple #[.slice none 0 0, .iface 74 (.int .i64 (c : Nat))]) ∧ Below w.heap.size w w' := by
  have hB0 : Below w.heap.size w (w.alloc (.cells #[.int .i64 P, .slice p n cap] 24)) := (Below.refl _ _).alloc (Nat.le_refl _) _
  go_enter Tryd.func19, Tryd.ntmps19
  go_wp2_with fail
  refine (numbers_err P T p n cap zs q m cap2 _ hl hmax (hc.later hB0) hl2 hmax2 (hz.later hB0) c hcc hne).mono ?_
  rintro e w1 ⟨rfl, hB1⟩
  have hBx := bel_al (bel_on hB0 hB1) (.cells #[.int .i64 0, .int .i64 0, .int .i64 0, .int .i64 0, .int .i64 0] 65)
  have HB : Hid (Below _ _ _) := hBx
  clear hBx hB0 hB1
  go_wp2_with fail
  go_ret2
  exact ⟨rfl, HB.out⟩
set_option maxRecDepth 100000 in
set_option maxHeartbeats 4000000 in
theorem cline_ok (P : Int) (T : List (Int × Int)) (p : Option Addr) (n cap : Nat) (zs : List Int) (q : Option Addr) (m cap2 : Nat) (w : World) (hl : T.length = n) (he : Env w) (hmax : n ≤ maxLen) (hc : HasE T p w) (hl2 : zs.length = m) (hmax2 : m ≤ maxLen) (hz : HasI zs q w) (h0 : M.ccode P T zs = 0) :
    Calls Tryd.prog 19 #[trV P p n cap, .slice q m cap2] w fun e w' => ∃ A, e = .returned (.tuple #[.slice (some ⟨A, 0, none⟩) m m, .nilIface]) ∧ RowAt 3 w' A (M.line T (M.cof0 zs)) ∧ w.heap.size ≤ A ∧ Below w.heap.size w w' := by
  have hpad := M.pad_set (T := T) (nu_lt h0) n
  obtain ⟨hok, hCk, hzz⟩ := M.ccode_zero.1 h0
  have h1 : M.tcode P T = 0 := M.tcode_zero.2 hok
  have hn : n ≤ 24 := hl ▸ hok.len
  have hPm : P = (m : Nat) := by have := hCk.len; rw [M.cof0_length] at this; omega
  have hm5 : m ≤ 5 := by have := hok.p5; omega
  have hend := M.lnl_end hok (M.cof0 zs)
  rw [hl, M.cof0_length, hl2] at hend
  subst hPm
  have hB0 : Below w.heap.size w (w.alloc (.cells #[.int .i64 (m : Nat), .slice p n cap] 24)) := (Below.refl _ _).alloc (Nat.le_refl _) _
  have hbox := tbox_new w (m : Nat) p n cap
  have hblk := Blk.new w #[.int .i64 (m : Nat), .slice p n cap] 24
  have hmk0 := run_make_row' (P := Tryd.prog) 25 3 (.int .i64 0) 8 Tryd.underlying25 infoInt rfl .i64 .i64 m (by omega) (by omega)
  refine callsIn_wide.1 (callsIn_of_wp_marks (n := 3) Tryd.func19 rfl trivial ?_ rfl)
  simp only [Tryd.ntmps19, List.size_toArray, List.length_cons, List.length_nil, Nat.reduceAdd, Nat.reduceSub, Array.replicate_succ, Array.replicate_zero, List.push_toArray, List.append_toArray, List.nil_append, List.cons_append]
  refine wpIn_wide.2 ?_
  go_wp2_with fail
  refine (numbers_ok _ T p n cap zs q m cap2 _ hl hmax (hc.later hB0) hl2 hmax2 (hz.later hB0) h0).mono ?_
  rintro e w1 ⟨rfl, hB1⟩
  obtain ⟨x0, e0⟩ : ∃ x, M.row (M.cof0 zs) 0 = x := ⟨_, rfl⟩
  obtain ⟨x1, e1⟩ : ∃ x, M.row (M.cof0 zs) 1 = x := ⟨_, rfl⟩
  obtain ⟨x2, e2⟩ : ∃ x, M.row (M.cof0 zs) 2 = x := ⟨_, rfl⟩
  obtain ⟨x3, e3⟩ : ∃ x, M.row (M.cof0 zs) 3 = x := ⟨_, rfl⟩
  obtain ⟨x4, e4⟩ : ∃ x, M.row (M.cof0 zs) 4 = x := ⟨_, rfl⟩
  have hp2 : M.cset T [x0, x1, x2, x3, x4] n = M.cset T (M.cof0 zs) n := by rw [← hpad]; unfold M.pad; rw [e0, e1, e2, e3, e4]
  rw [show cuV (M.cof0 zs) = nuV x0 x1 x2 x3 x4 by rw [← e0, ← e1, ← e2, ← e3, ← e4]]
  clear e0 e1 e2 e3 e4 hpad
  have hset := M.cset_lt T (M.cof0 zs) n
  obtain ⟨s, hs⟩ : ∃ s, M.cset T (M.cof0 zs) n = s := ⟨_, rfl⟩
  rw [hs] at hset hend hp2
  have HP : Hid (M.cset T [x0, x1, x2, x3, x4] n = s) := hp2
  have HE : Hid (M.lnl T s m (M.bitsB s) = M.line T (M.cof0 zs)) := hend
  clear hs hend hp2
  have hs24 : s < 16777216 := by have := pow_24 n hn; omega
  obtain ⟨w2, hw2⟩ : ∃ w2, w1.alloc (.cells #[.int .i64 (x0 : Nat), .int .i64 (x1 : Nat), .int .i64 (x2 : Nat), .int .i64 (x3 : Nat), .int .i64 (x4 : Nat)] 65) = w2 := ⟨_, rfl⟩
  have hb2 : Below w1.heap.size w1 w2 := by rw [← hw2]; exact bel_al (Below.refl _ _) _
  have r2 : RowAt 65 w2 w1.heap.size [x0, x1, x2, x3, x4] := by subst hw2; unfold RowAt; rw [World.alloc_heap_new]; rfl
  have t2 := (hbox.later hB1 (by simp)).later hb2 (Nat.lt_of_lt_of_le hbox.lt hB1.size)
  have tk0 := t2.procs
  have tk1 := t2.events
  have tkl := t2.lt
  have hB2 := bel_on (bel_on hB0 hB1) hb2
  have hX2 := bel_on hB1 hb2
  have sw1 := (bel_on hB0 hB1).size
  clear hbox hB0 hB1 hb2
  go_wp2_with fail
  refine (before_ok _ T p n cap _ hl hmax (hc.later hB2) h1).mono ?_
  rintro e w3 ⟨A, rfl, hbf, hA, hB3⟩
  have r3 := r2.below hB3 r2.lt
  have t3 := t2.later hB3 tkl
  have hB3' := bel_on hB2 hB3
  have hX3 := bel_on hX2 hB3
  clear tk0 tk1 hw2
  obtain ⟨w4, hw4⟩ : ∃ w4, w3.alloc (.cells #[.slice (some ⟨A, 0, none⟩) n n] 25) = w4 := ⟨_, rfl⟩
  obtain ⟨w5, hw5⟩ : ∃ w5, w4.alloc (.cells (madeCells #[.int .i64 0] m) 3) = w5 := ⟨_, rfl⟩
  obtain ⟨w6, hw6⟩ : ∃ w6, w5.alloc (.cells #[.slice (some ⟨w3.heap.size + 1, 0, none⟩) m m] 25) = w6 := ⟨_, rfl⟩
  have s4 : w4.heap.size = w3.heap.size + 1 := by subst hw4; simp
  have s5 : w5.heap.size = w3.heap.size + 1 + 1 := by subst hw5; simp [s4]
  have s6 : w6.heap.size = w3.heap.size + 1 + 1 + 1 := by subst hw6; simp [s5]
  have g4 : Below w3.heap.size w3 w6 := by rw [← hw6, ← hw5, ← hw4]; exact bel_al (bel_al (bel_al (Below.refl _ _) _) _) _
  have b4 : Boxed w6 w3.heap.size 25 (.slice (some ⟨A, 0, none⟩) n n) := by rw [← hw6, ← hw5, ← hw4]; exact ((Boxed.new w3 _ _).alloc _).alloc _
  have b5 : RowAt 3 w6 (w3.heap.size + 1) (M.lnl T s m []) := by
    rw [← hw6]
    refine RowAt.alloc ?_ _
    subst hw5
    unfold RowAt
    rw [← s4, World.alloc_heap_new, made_noughts, M.lnl_nil]
  have b6 : Boxed w6 (w3.heap.size + 1 + 1) 25 (.slice (some ⟨w3.heap.size + 1, 0, none⟩) m m) := by
    rw [← hw6, ← s5]; exact Boxed.new w5 _ _
  have t6 := t3.later g4 t3.lt
  have r6 := r3.below g4 r3.lt
  have f6 := hbf.below g4 hbf.lt
  have hB6 := bel_on hB3' g4
  have hX6 := bel_on hX3 g4
  have k0 := t6.procs
  have k1 := t6.events
  have kl := t6.lt
  have t4 := t3.later (show Below w3.heap.size w3 w4 by rw [← hw4]; exact bel_al (Below.refl _ _) _) t3.lt
  have k0' := t4.procs
  have kl' := t4.lt
  have c0 : w6.cell? ⟨w1.heap.size, 0, none⟩ = some (.int .i64 (x0 : Nat)) := r6.cell (k := 0) (by simp)
  have c1 : w6.cell? ⟨w1.heap.size, 1, none⟩ = some (.int .i64 (x1 : Nat)) := r6.cell (k := 1) (by simp)
  have c2 : w6.cell? ⟨w1.heap.size, 2, none⟩ = some (.int .i64 (x2 : Nat)) := r6.cell (k := 2) (by simp)
  have c3 : w6.cell? ⟨w1.heap.size, 3, none⟩ = some (.int .i64 (x3 : Nat)) := r6.cell (k := 3) (by simp)
  have c4 : w6.cell? ⟨w1.heap.size, 4, none⟩ = some (.int .i64 (x4 : Nat)) := r6.cell (k := 4) (by simp)
  have rl := r6.lt
  have hbl := hbf.lt
  have szA : w1.heap.size < w2.heap.size := r2.lt
  have sz3 := hB3.size
  clear t4 r2 r3 t2 t3 hbf g4 hB3 hB3' hB2
  go_wp2_with fail
  clear k0 k1 kl k0' kl' c0 c1 c2 c3 c4 hw4 hw5 hw6 s4 s5
  refine (events_ok _ T p n cap x0 x1 x2 x3 x4 _ hl (hc.later hB6) h1).mono ?_
  rintro e w7 ⟨rfl, hB7⟩
  rw [HP.out]
  have t7 := hblk.below (bel_on hX6 hB7) hblk.lt
  have f7 := f6.below hB7 f6.lt
  have d4 : Boxed w7 w3.heap.size 25 (.slice (some ⟨A, 0, none⟩) n n) := boxed_below b4 hB7 b4.lt
  have d5 := b5.below hB7 b5.lt
  have d6 : Boxed w7 (w3.heap.size + 1 + 1) 25 (.slice (some ⟨w3.heap.size + 1, 0, none⟩) m m) := boxed_below b6 hB7 b6.lt
  have hB7' := bel_on hB6 hB7
  have sz7 := hB7.size
  clear b4 b5 b6 t6 f6 r6 hB6 hB7 hX2 hX3 hX6 hblk
  go_wp2_with (go_at_call 52; refine (things_any _ _).mono ?_; rintro e w' ⟨rfl, rfl⟩)
  rename_i Q' K hK0
  obtain ⟨Wx, hWx⟩ : ∃ Wx, (w7.alloc (.cells #[.int .i64 (s : Nat)] 3)).alloc (.cells #[.int .i64 (s : Nat)] 3) = Wx := ⟨_, rfl⟩
  have hxs : Wx.heap.size = w7.heap.size + 2 := by rw [← hWx]; simp
  have y1 : Blk Wx w.heap.size #[.int .i64 (m : Nat), .slice p n cap] 24 := by rw [← hWx]; exact (t7.alloc _).alloc _
  have y2 : RowAt 3 Wx A (M.before T) := by rw [← hWx]; exact (f7.alloc _).alloc _
  have y3 : Boxed Wx w3.heap.size 25 (.slice (some ⟨A, 0, none⟩) n n) := by rw [← hWx]; exact (d4.alloc _).alloc _
  have y4 : RowAt 3 Wx (w3.heap.size + 1) (M.lnl T s m []) := by rw [← hWx]; exact (d5.alloc _).alloc _
  have y5 : Boxed Wx (w3.heap.size + 1 + 1) 25 (.slice (some ⟨w3.heap.size + 1, 0, none⟩) m m) := by rw [← hWx]; exact (d6.alloc _).alloc _
  have y6 : Boxed Wx w7.heap.size 3 (.int .i64 (s : Nat)) := by rw [← hWx]; exact (Boxed.new w7 _ _).alloc _
  have y7 : Boxed Wx (w7.heap.size + 1) 3 (.int .i64 (s : Nat)) := by
    rw [← hWx]
    have h := Boxed.new (w7.alloc (.cells #[.int .i64 (s : Nat)] 3)) 3 (.int .i64 (s : Nat))
    rw [World.size_alloc] at h; exact h
  have hBx : Below w.heap.size w Wx := by rw [← hWx]; exact bel_al (bel_al hB7' _) _
  rw [hWx]
  clear t7 f7 d4 d5 d6 hB7' hWx
  have hT2 := he.tab.below hBx he.two
  have htw := he.two
  refine (wpIn_wide (n := 3)).1 ?_
  refine wpIn_rangeFunc_ownG rfl (by omega) (gf := 72) (lb := #[.pointer (some ⟨w7.heap.size + 1, 0, none⟩)]) rfl trivial (enters_of Tryd.func72 (by kernel_rfl) rfl)
    (things_big (3 - 1) (w7.heap.size + 1) w.heap.size n s hn hset he.two _ (by omega) (by omega) hT2 y7.cell) belowK_t (belowK_b (by omega)) (Below.refl _ _) (fun _ => rfl)
    (fun (pre : List (Fin n)) W' => RowAt 3 W' (w3.heap.size + 1) (M.lnl T s m (pre.map fun x : Fin n => x.1)) ∧ Blk W' w.heap.size #[.int .i64 (m : Nat), .slice p n cap] 24 ∧ RowAt 3 W' A (M.before T) ∧ Boxed W' w3.heap.size 25 (.slice (some ⟨A, 0, none⟩) n n) ∧ Boxed W' (w3.heap.size + 1 + 1) 25 (.slice (some ⟨w3.heap.size + 1, 0, none⟩) m m) ∧ Boxed W' w7.heap.size 3 (.int .i64 (s : Nat)) ∧ Below w.heap.size w W')
    (fun _ _ _ => False)
    (OwnFrom.and (Own.from (rowAt_own 3 (w3.heap.size + 1) fun pre : List (Fin n) => M.lnl T s m (pre.map fun x : Fin n => x.1)) _) (OwnFrom.and (Own.from (Blk.own _ (fun _ => #[.int .i64 (m : Nat), .slice p n cap]) _) _) (OwnFrom.and (Own.from (rowAt_own 3 A fun _ => M.before T) _) (OwnFrom.and (Own.from (boxed_own _ _ fun _ => (.slice (some ⟨A, 0, none⟩) n n)) _) (OwnFrom.and (Own.from (boxed_own _ _ fun _ => (.slice (some ⟨w3.heap.size + 1, 0, none⟩) m m)) _) (OwnFrom.and (Own.from (boxed_own _ _ fun _ => .int .i64 (s : Nat)) _) (ownFrom_below (Nat.le_refl _) (by omega))))))))
    (fun _ _ _ _ _ hs _ _ => hs)
    ⟨y4, y1, y2, y3, y5, y6, hBx⟩
    (fun x => { tmps := #[trV (m : Nat) p n cap, .slice q m cap2, .pointer (some ⟨w.heap.size, 0, none⟩), undef, .slice none 0 0, .nilIface, .pointer (some ⟨w1.heap.size, 0, none⟩), .nilIface, .pointer (some ⟨w3.heap.size, 0, none⟩), .pointer (some ⟨w3.heap.size + 1 + 1, 0, none⟩), .pointer (some ⟨w7.heap.size, 0, none⟩), .int .i64 (x.1 : Nat), .tuple #[nuV x0 x1 x2 x3 x4, .nilIface], .agg #[.int .i64 (m : Nat), .slice p n cap], .slice q m cap2, .tuple #[nuV x0 x1 x2 x3 x4, .nilIface], nuV x0 x1 x2 x3 x4, .nilIface, .nilIface, .bool false, undef, .tuple #[.slice (some ⟨A, 0, none⟩) n n, .nilIface], .agg #[.int .i64 (m : Nat), .slice p n cap], .tuple #[.slice (some ⟨A, 0, none⟩) n n, .nilIface], .slice (some ⟨A, 0, none⟩) n n, .nilIface, .nilIface, .bool false, undef, .pointer (some ⟨w.heap.size, 0, none⟩), .int .i64 (m : Nat), .slice (some ⟨w3.heap.size + 1, 0, none⟩) m m, .agg #[.int .i64 (m : Nat), .slice p n cap], nuV x0 x1 x2 x3 x4, .int .i64 (s : Nat), .int .i64 (s : Nat), .func (.func 72) #[] #[.pointer (some ⟨w7.heap.size + 1, 0, none⟩)], .int .i64 (x.1 : Nat), undef, undef, undef, undef, undef, undef, undef, undef, undef, undef, undef, undef, undef, undef, undef, undef, undef, undef, undef], defers := [] }) ?assign ?body ?done ?stop
  case assign =>
    intro l x W K hK
    gi_wp2
    exact hK
  case body =>
    rintro l pre x Wb ⟨hr, hx1, hbf, hx4, hxl, hxs, hB⟩ hpl
    have hx := x.2
    have hT : x.1 < T.length := by omega
    have v1 := hx1.cell 1
    have v2 := hbf.cell (k := x.1) (by unfold M.before; rw [M.bfs_length]; omega)
    rw [show M.row (M.before T) x.1 = M.bs T x.1 from M.before_row T hT] at v2
    have v3 := hx4.cell
    have v4 := hxl.cell
    have v5 := hxs.cell
    have hb24 : M.bs T x.1 < 16777216 := by
      have := M.bs_lt T x.1
      have := pow_24 x.1 (by omega)
      omega
    obtain ⟨r, hra, hrl, hrb⟩ := i64_andNot_big (M.bs T x.1) s hb24 hs24
    obtain ⟨y, hy⟩ : ∃ y, M.bs T x.1 = y := ⟨_, rfl⟩
    have HY : Hid (M.bs T x.1 = y) := hy
    rw [hy] at v2 hra hrl hrb hb24
    have HR : Hid (∀ j, r.testBit j = (y.testBit j && !s.testBit j)) := hrb
    clear hy hrb
    gi_wp2
    refine wpIn_region_still_tail 6 (by kernel_rfl) (by kernel_rfl) (fun _ _ h => h) (by kernel_rfl) ?_
    simp only [List.take_succ_cons, List.take_zero, List.drop_succ_cons, List.drop_zero]
    repeat still_step
    refine wpStill_nil ?_
    by_cases h0 : r = 0
    · subst h0
      have hsub : M.subB (M.bs T x.1) s = true := by
        rw [HY.out, M.subB_iff]
        intro j hj
        have := HR.out j
        rw [hj, Nat.zero_testBit, Bool.true_and] at this
        cases h : s.testBit j with
        | true => rfl
        | false => rw [h] at this; cases this
      obtain ⟨b, off, hp, hbb, hcp, hcf⟩ := (hc.later hB) x.1 hT
      subst hp
      obtain ⟨a, ha, haP⟩ := M.pr_nat hok hT
      have ham : a < m := by omega
      rw [ha] at hcp
      have v6 := hr.cell (k := a) (by rw [M.lnl_length]; exact ham)
      rw [M.lnl_row T s _ ham] at v6
      have hle := M.lnc_le T s (pre.map fun x : Fin n => x.1) a
      rw [List.length_map] at hle
      have hst := hr.set a (M.lnc T s (pre.map fun x : Fin n => x.1) a + 1)
      rw [M.lnl_hit ha hsub rfl] at hst
      obtain ⟨g, hg⟩ : ∃ g, M.lnc T s (pre.map fun x : Fin n => x.1) a = g := ⟨_, rfl⟩
      rw [hg] at v6 hle hst
      have hfz := hr.frozen a
      obtain ⟨g1, hg1⟩ : ∃ g1, g + 1 = g1 := ⟨_, rfl⟩
      rw [hg1] at hst
      have hgi : ((g : Int) + 1) = (g1 : Int) := by omega
      have HST : Hid (RowAt _ _ _ _) := hst
      have ha5 : (a : Int) < (m : Int) := by omega
      clear hst hg hg1 hsub ha haP HR HY hra hcf
      go_wp2
      gi_wp2
      refine wpIn_region_still_tail 11 (by kernel_rfl) (by kernel_rfl) (fun _ _ h => h) (by kernel_rfl) ?_
      simp only [List.take_succ_cons, List.take_zero, List.drop_succ_cons, List.drop_zero]
      repeat still_step
      refine wpStill_nil ?_
      go_wp2
      gi_wp2
      have HK : KeepsOthers Wb (((Wb.setCell ⟨w3.heap.size + 1, a, none⟩ (.int .i64 (g1 : Nat))).drew).drew) := ((KeepsOthers.setCell _ _ _).trans (KeepsOthers.drew _)).trans (KeepsOthers.drew _)
      refine ⟨HK.from _, (((Below.refl _ Wb).setCell (p := ⟨w3.heap.size + 1, a, none⟩) (by simp; omega) _).drew).drew, ?_, hx1.other (a := ⟨w3.heap.size + 1, a, none⟩) (by simp; omega) _, ((hbf.other (a := ⟨w3.heap.size + 1, a, none⟩) (by simp; omega) _).drew).drew, boxed_drew (boxed_drew (boxed_otherAt hx4 (a := ⟨w3.heap.size + 1, a, none⟩) (by simp) _)), boxed_drew (boxed_drew (boxed_otherAt hxl (a := ⟨w3.heap.size + 1, a, none⟩) (by simp) _)), boxed_drew (boxed_drew (boxed_otherAt hxs (a := ⟨w3.heap.size + 1, a, none⟩) (by simp; omega) _)), ((hB.setCell (p := ⟨w3.heap.size + 1, a, none⟩) (by simp; omega) _).drew).drew⟩
      rw [List.map_append, List.map_cons, List.map_nil]
      exact HST.out.drew.drew
    · have hne : ((r : Int) == 0) = false := by simp; omega
      have hsub : M.subB (M.bs T x.1) s = false := by
        rw [HY.out]
        cases h : M.subB y s with
        | false => rfl
        | true =>
          refine absurd (Nat.eq_of_testBit_eq fun j => ?_) h0
          rw [HR.out j, Nat.zero_testBit]
          cases hj : y.testBit j with
          | false => rfl
          | true => rw [M.subB_iff.1 h j hj]; rfl
      go_wp2
      gi_wp2
      refine ⟨(KeepsOthers.drew _).from _, (Below.refl _ Wb).drew, ?_, hx1, hbf.drew, boxed_drew hx4, boxed_drew hxl, boxed_drew hxs, hB.drew⟩
      rw [List.map_append, List.map_cons, List.map_nil, M.lnl_miss hsub]
      exact hr.drew
  case done =>
    rintro D ys Wd hD hys ⟨hr, hx1, hbf, hx4, hxl, hxs, hB⟩ hK
    have hDl := (Array.getElem?_eq_some_iff.1 hK).1
    rw [hys, HE.out] at hr
    show K _ _
    refine hK0 _ _ ?_
    have hc2 := hxl.cell
    go_wp2_with fail
    refine leaves_marks _ (D + 1) Wd hB.size ⟨D, by omega, by omega, rfl, hK, trivial⟩ (fun W' ht => ⟨_, results_tmp2 rfl _ _ _, ⟨w3.heap.size + 1, rfl, ?_, by omega, hB.trans ht.below⟩⟩)
    exact ht.cells _ _ hr rfl
  case stop =>
    rintro D c pre W _ _ h _
    exact h.elim
end Go.Proofs.YtlhpkpjcfjdgaaaDoor
