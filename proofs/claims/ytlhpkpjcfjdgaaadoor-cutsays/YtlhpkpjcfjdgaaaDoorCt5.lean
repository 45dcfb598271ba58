/- The events of a cut, and whether it is whole (package cut, Events, Is), at whatever numbers; what lay in memory lies as it lay. -/
import Derived.Test.YtlhpkpjcfjdgaaaDoorCt3
import Derived.Test.YtlhpkpjcfjdgaaaDoorBCb
namespace Go.Proofs.YtlhpkpjcfjdgaaaDoor
open Go.RowKit
theorem nu_lt {P : Int} {T : List (Int × Int)} {zs : List Int} (h : M.ccode P T zs = 0) : (M.cof0 zs).length ≤ 5 := by
  obtain ⟨h1, h2, -⟩ := M.ccode_zero.1 h
  have := h1.p5
  have := h2.len
  omega
set_option maxRecDepth 100000 in
set_option maxHeartbeats 2000000 in
theorem cevents_err (P : Int) (T : List (Int × Int)) (p : Option Addr) (n cap : Nat) (zs : List Int) (q : Option Addr) (m cap2 : Nat) (w : World) (hl : T.length = n) (hmax : n ≤ maxLen) (hc : HasE T p w) (hl2 : zs.length = m) (hmax2 : m ≤ maxLen) (hz : HasI zs q w) (c : Nat) (hcc : M.ccode P T zs = c) (hne : c ≠ 0) :
    Calls Tryd.prog 17 #[trV P p n cap, .slice q m cap2] w fun e w' => e = .returned (.tuple #[.int .i64 0, .iface 74 (.int .i64 (c : Nat))]) ∧ Below w.heap.size w w' := by
  have hB0 : Below w.heap.size w (w.alloc (.cells #[.int .i64 P, .slice p n cap] 24)) := (Below.refl _ _).alloc (Nat.le_refl _) _
  go_enter Tryd.func17, Tryd.ntmps17
  go_wp2_with fail
  refine (numbers_err P T p n cap zs q m cap2 _ hl hmax (hc.later hB0) hl2 hmax2 (hz.later hB0) c hcc hne).mono ?_
  rintro e w1 ⟨rfl, hB1⟩
  have hBx := bel_al (bel_on hB0 hB1) (.cells #[.int .i64 0, .int .i64 0, .int .i64 0, .int .i64 0, .int .i64 0] 65)
  have HB : Hid (Below _ _ _) := hBx
  clear hBx hB0 hB1
  go_wp2_with fail
  go_ret2
  exact ⟨rfl, HB.out⟩
set_option maxRecDepth 100000 in
set_option maxHeartbeats 2000000 in
theorem cis_err (P : Int) (T : List (Int × Int)) (p : Option Addr) (n cap : Nat) (zs : List Int) (q : Option Addr) (m cap2 : Nat) (w : World) (hl : T.length = n) (hmax : n ≤ maxLen) (hc : HasE T p w) (hl2 : zs.length = m) (hmax2 : m ≤ maxLen) (hz : HasI zs q w) (c : Nat) (hcc : M.ccode P T zs = c) (hne : c ≠ 0) :
    Calls Tryd.prog 18 #[trV P p n cap, .slice q m cap2] w fun e w' => e = .returned (.tuple #[.bool false, .iface 74 (.int .i64 (c : Nat))]) ∧ Below w.heap.size w w' := by
  have hB0 : Below w.heap.size w (w.alloc (.cells #[.int .i64 P, .slice p n cap] 24)) := (Below.refl _ _).alloc (Nat.le_refl _) _
  go_enter Tryd.func18, Tryd.ntmps18
  go_wp2_with fail
  refine (numbers_err P T p n cap zs q m cap2 _ hl hmax (hc.later hB0) hl2 hmax2 (hz.later hB0) c hcc hne).mono ?_
  rintro e w1 ⟨rfl, hB1⟩
  have hBx := bel_al (bel_on hB0 hB1) (.cells #[.int .i64 0, .int .i64 0, .int .i64 0, .int .i64 0, .int .i64 0] 65)
  have HB : Hid (Below _ _ _) := hBx
  clear hBx hB0 hB1
  go_wp2_with fail
  go_ret2
  exact ⟨rfl, HB.out⟩
set_option maxRecDepth 100000 in
set_option maxHeartbeats 2000000 in
theorem cevents_ok (P : Int) (T : List (Int × Int)) (p : Option Addr) (n cap : Nat) (zs : List Int) (q : Option Addr) (m cap2 : Nat) (w : World) (hl : T.length = n) (hmax : n ≤ maxLen) (hc : HasE T p w) (hl2 : zs.length = m) (hmax2 : m ≤ maxLen) (hz : HasI zs q w) (h0 : M.ccode P T zs = 0) :
    Calls Tryd.prog 17 #[trV P p n cap, .slice q m cap2] w fun e w' => e = .returned (.tuple #[.int .i64 (M.cset T (M.cof0 zs) n : Nat), .nilIface]) ∧ Below w.heap.size w w' := by
  have hpad := M.pad_set (T := T) (nu_lt h0) n
  have hB0 : Below w.heap.size w (w.alloc (.cells #[.int .i64 P, .slice p n cap] 24)) := (Below.refl _ _).alloc (Nat.le_refl _) _
  have hbox := tbox_new w P p n cap
  go_enter Tryd.func17, Tryd.ntmps17
  go_wp2_with fail
  refine (numbers_ok P T p n cap zs q m cap2 _ hl hmax (hc.later hB0) hl2 hmax2 (hz.later hB0) h0).mono ?_
  rintro e w1 ⟨rfl, hB1⟩
  have h1 : M.tcode P T = 0 := M.tcode_zero.2 (M.ccode_zero.1 h0).1
  obtain ⟨x0, e0⟩ : ∃ x, M.row (M.cof0 zs) 0 = x := ⟨_, rfl⟩
  obtain ⟨x1, e1⟩ : ∃ x, M.row (M.cof0 zs) 1 = x := ⟨_, rfl⟩
  obtain ⟨x2, e2⟩ : ∃ x, M.row (M.cof0 zs) 2 = x := ⟨_, rfl⟩
  obtain ⟨x3, e3⟩ : ∃ x, M.row (M.cof0 zs) 3 = x := ⟨_, rfl⟩
  obtain ⟨x4, e4⟩ : ∃ x, M.row (M.cof0 zs) 4 = x := ⟨_, rfl⟩
  have hp2 : M.cset T [x0, x1, x2, x3, x4] n = M.cset T (M.cof0 zs) n := by rw [← hpad]; unfold M.pad; rw [e0, e1, e2, e3, e4]
  have HP : Hid (M.cset T [x0, x1, x2, x3, x4] n = M.cset T (M.cof0 zs) n) := hp2
  rw [show cuV (M.cof0 zs) = nuV x0 x1 x2 x3 x4 by rw [← e0, ← e1, ← e2, ← e3, ← e4]]
  clear e0 e1 e2 e3 e4 hp2 hpad
  obtain ⟨w2, hw2⟩ : ∃ w2, w1.alloc (.cells #[.int .i64 (x0 : Nat), .int .i64 (x1 : Nat), .int .i64 (x2 : Nat), .int .i64 (x3 : Nat), .int .i64 (x4 : Nat)] 65) = w2 := ⟨_, rfl⟩
  have hb2 : Below w1.heap.size w1 w2 := by rw [← hw2]; exact bel_al (Below.refl _ _) _
  have r2 : RowAt 65 w2 w1.heap.size [x0, x1, x2, x3, x4] := by subst hw2; unfold RowAt; rw [World.alloc_heap_new]; rfl
  have t2 := (hbox.later hB1 (by simp)).later hb2 (Nat.lt_of_lt_of_le hbox.lt hB1.size)
  have tk0 := t2.procs
  have tk1 := t2.events
  have tkl := t2.lt
  have c0 := r2.cell (k := 0) (by simp)
  have c1 := r2.cell (k := 1) (by simp)
  have c2 := r2.cell (k := 2) (by simp)
  have c3 := r2.cell (k := 3) (by simp)
  have c4 := r2.cell (k := 4) (by simp)
  have rl := r2.lt
  have hB2 := bel_on (bel_on hB0 hB1) hb2
  clear hbox hB0 hB1 hb2 t2
  go_wp2_with fail
  refine (events_ok P T p n cap x0 x1 x2 x3 x4 _ hl (hc.later hB2) h1).mono ?_
  rintro e w3 ⟨rfl, hB3⟩
  have HB : Hid (Below _ _ _) := bel_on hB2 hB3
  clear hB2 hB3 hw2
  go_wp2_with fail
  go_ret2
  exact ⟨by rw [← HP.out]; rfl, HB.out⟩
set_option maxRecDepth 100000 in
set_option maxHeartbeats 2000000 in
theorem cis_ok (P : Int) (T : List (Int × Int)) (p : Option Addr) (n cap : Nat) (zs : List Int) (q : Option Addr) (m cap2 : Nat) (w : World) (hl : T.length = n) (he : Env w) (hmax : n ≤ maxLen) (hc : HasE T p w) (hl2 : zs.length = m) (hmax2 : m ≤ maxLen) (hz : HasI zs q w) (h0 : M.ccode P T zs = 0) :
    Calls Tryd.prog 18 #[trV P p n cap, .slice q m cap2] w fun e w' => e = .returned (.tuple #[.bool (M.whB T (M.cof0 zs)), .nilIface]) ∧ Below w.heap.size w w' := by
  have hpad := M.pad_wh (T := T) (nu_lt h0)
  have hB0 : Below w.heap.size w (w.alloc (.cells #[.int .i64 P, .slice p n cap] 24)) := (Below.refl _ _).alloc (Nat.le_refl _) _
  have hbox := tbox_new w P p n cap
  go_enter Tryd.func18, Tryd.ntmps18
  go_wp2_with fail
  refine (numbers_ok P T p n cap zs q m cap2 _ hl hmax (hc.later hB0) hl2 hmax2 (hz.later hB0) h0).mono ?_
  rintro e w1 ⟨rfl, hB1⟩
  have h1 : M.tcode P T = 0 := M.tcode_zero.2 (M.ccode_zero.1 h0).1
  obtain ⟨x0, e0⟩ : ∃ x, M.row (M.cof0 zs) 0 = x := ⟨_, rfl⟩
  obtain ⟨x1, e1⟩ : ∃ x, M.row (M.cof0 zs) 1 = x := ⟨_, rfl⟩
  obtain ⟨x2, e2⟩ : ∃ x, M.row (M.cof0 zs) 2 = x := ⟨_, rfl⟩
  obtain ⟨x3, e3⟩ : ∃ x, M.row (M.cof0 zs) 3 = x := ⟨_, rfl⟩
  obtain ⟨x4, e4⟩ : ∃ x, M.row (M.cof0 zs) 4 = x := ⟨_, rfl⟩
  have hp2 : M.whB T [x0, x1, x2, x3, x4] = M.whB T (M.cof0 zs) := by rw [← hpad]; unfold M.pad; rw [e0, e1, e2, e3, e4]
  have HP : Hid (M.whB T [x0, x1, x2, x3, x4] = M.whB T (M.cof0 zs)) := hp2
  rw [show cuV (M.cof0 zs) = nuV x0 x1 x2 x3 x4 by rw [← e0, ← e1, ← e2, ← e3, ← e4]]
  clear e0 e1 e2 e3 e4 hp2 hpad
  obtain ⟨w2, hw2⟩ : ∃ w2, w1.alloc (.cells #[.int .i64 (x0 : Nat), .int .i64 (x1 : Nat), .int .i64 (x2 : Nat), .int .i64 (x3 : Nat), .int .i64 (x4 : Nat)] 65) = w2 := ⟨_, rfl⟩
  have hb2 : Below w1.heap.size w1 w2 := by rw [← hw2]; exact bel_al (Below.refl _ _) _
  have r2 : RowAt 65 w2 w1.heap.size [x0, x1, x2, x3, x4] := by subst hw2; unfold RowAt; rw [World.alloc_heap_new]; rfl
  have t2 := (hbox.later hB1 (by simp)).later hb2 (Nat.lt_of_lt_of_le hbox.lt hB1.size)
  have tk0 := t2.procs
  have tk1 := t2.events
  have tkl := t2.lt
  have c0 := r2.cell (k := 0) (by simp)
  have c1 := r2.cell (k := 1) (by simp)
  have c2 := r2.cell (k := 2) (by simp)
  have c3 := r2.cell (k := 3) (by simp)
  have c4 := r2.cell (k := 4) (by simp)
  have rl := r2.lt
  have hB2 := bel_on (bel_on hB0 hB1) hb2
  clear hbox hB0 hB1 hb2 t2
  go_wp2_with fail
  refine (isWhole_ok P T p n cap x0 x1 x2 x3 x4 _ hl (he.later hB2) (hc.later hB2) h1).mono ?_
  rintro e w3 ⟨rfl, hB3⟩
  have HB : Hid (Below _ _ _) := bel_on hB2 hB3
  clear hB2 hB3 hw2
  go_wp2_with fail
  go_ret2
  exact ⟨by rw [← HP.out]; rfl, HB.out⟩
end Go.Proofs.YtlhpkpjcfjdgaaaDoor
