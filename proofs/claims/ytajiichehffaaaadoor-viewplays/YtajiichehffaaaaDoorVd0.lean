/- The document's own store of views as a list of deeds: when one did what, who wrote what, who committed last, what was read first; how it goes along with the program's store. No walk. -/
import Derived.Test.YtajiichehffaaaaDoorVwz
namespace Go.Proofs.YtajiichehffaaaaDoor
open Go.RowKit
namespace M
/-- the first below n that does -/
def fstI (f : Nat → Bool) : Nat → Option Nat
  | 0 => none
  | n + 1 => match fstI f n with
    | some i => some i
    | none => if f n = true then some n else none
theorem fstI_hit {f : Nat → Bool} {n : Nat} (h : fstI f n = none) (hf : f n = true) : fstI f (n + 1) = some n := by unfold fstI; rw [h]; exact if_pos hf
theorem fstI_miss {f : Nat → Bool} {n : Nat} (h : fstI f n = none) (hf : f n = false) : fstI f (n + 1) = none := by unfold fstI; rw [h]; exact if_neg (by rw [hf]; simp)
theorem fstI_keep {f : Nat → Bool} {n i : Nat} (h : fstI f n = some i) : fstI f (n + 1) = some i := by unfold fstI; rw [h]
theorem fstI_up {f : Nat → Bool} {n i : Nat} (h : fstI f n = some i) : ∀ {m : Nat}, n ≤ m → fstI f m = some i
  | 0, hm => by obtain rfl : n = 0 := by omega
                exact h
  | m + 1, hm => by
    by_cases e : n = m + 1
    · subst e; exact h
    · exact fstI_keep (fstI_up h (by omega))
theorem fstI_some {f : Nat → Bool} : ∀ {n i : Nat}, fstI f n = some i → i < n ∧ f i = true
  | 0, i, h => by cases h
  | n + 1, i, h => by
    cases e : fstI f n with
    | some j =>
      rw [fstI_keep e] at h
      cases h
      obtain ⟨a, b⟩ := fstI_some e
      exact ⟨by omega, b⟩
    | none =>
      cases c : f n with
      | true => rw [fstI_hit e c] at h; cases h; exact ⟨by omega, c⟩
      | false => rw [fstI_miss e c] at h; cases h
theorem fstI_none {f : Nat → Bool} : ∀ {n : Nat}, fstI f n = none → ∀ j, j < n → f j = false
  | 0, _, j, hj => absurd hj (Nat.not_lt_zero _)
  | n + 1, h, j, hj => by
    cases e : fstI f n with
    | some i => rw [fstI_keep e] at h; cases h
    | none =>
      cases c : f n with
      | true => rw [fstI_hit e c] at h; cases h
      | false =>
        by_cases k : j = n
        · subst k; exact c
        · exact fstI_none e j (by omega)
theorem fstI_congr {f g : Nat → Bool} : ∀ {n : Nat}, (∀ j, j < n → f j = g j) → fstI f n = fstI g n
  | 0, _ => rfl
  | n + 1, h => by unfold fstI; rw [fstI_congr (fun j hj => h j (by omega)), h n (by omega)]
end M
/-! ### the list of deeds -/
theorem dAt_app {D : List Dz} {d : Dz} {j : Nat} (h : j < D.length) : dAt (D ++ [d]) j = dAt D j := by unfold dAt; rw [List.getElem?_append_left h]
theorem dAt_last (D : List Dz) (d : Dz) : dAt (D ++ [d]) D.length = d := by unfold dAt; simp
def whP (t k : Int) (d : Dz) : Bool := d.t == t && d.k == k
def wrP (t o : Int) (d : Dz) : Bool := d.t == t && d.k == 3 && d.i == o && d.x == 1
def rfP (t o : Int) (d : Dz) : Bool := d.t == t && d.k == 3 && d.i == o
/-- when one did something of a kind (-1: it did not) -/
def whZ (D : List Dz) (t k : Int) : Int := match M.fstI (fun j => whP t k (dAt D j)) D.length with
  | some i => ((i : Nat) : Int)
  | none => -1
/-- does one write an item? -/
def wrZ (D : List Dz) (t o : Int) : Bool := (M.fstI (fun j => wrP t o (dAt D j)) D.length).isSome
/-- did one read an item ahead of writing it? -/
def rfZ (D : List Dz) (t o : Int) : Bool := match M.fstI (fun j => rfP t o (dAt D j)) D.length with
  | some i => (dAt D i).x == 0
  | none => false
/-- who committed an item last, ahead of a time (-1: nobody) -/
def laZ (D : List Dz) (o : Int) : Nat → Int
  | 0 => -1
  | n + 1 => if (dAt D n).k = 5 ∧ wrZ D (dAt D n).t o = true then (dAt D n).t else laZ D o n
/-- how many committed ahead of a time -/
def comN (D : List Dz) : Nat → Nat
  | 0 => 0
  | n + 1 => comN D n + if (dAt D n).k = 5 then 1 else 0
theorem whZ_hit {D : List Dz} {t k : Int} {j : Nat} (h : M.fstI (fun j => whP t k (dAt D j)) j = none) (hj : j < D.length) (hp : whP t k (dAt D j) = true) : whZ D t k = ((j : Nat) : Int) := by
  unfold whZ; rw [M.fstI_up (M.fstI_hit h hp) (show j + 1 ≤ D.length by omega)]
theorem whZ_none {D : List Dz} {t k : Int} (h : M.fstI (fun j => whP t k (dAt D j)) D.length = none) : whZ D t k = -1 := by unfold whZ; rw [h]
theorem whZ_cases (D : List Dz) (t k : Int) : whZ D t k = -1 ∨ ∃ j : Nat, whZ D t k = ((j : Nat) : Int) ∧ j < D.length ∧ whP t k (dAt D j) = true := by
  cases e : M.fstI (fun j => whP t k (dAt D j)) D.length with
  | none => exact .inl (whZ_none e)
  | some i =>
    obtain ⟨h1, h2⟩ := M.fstI_some e
    exact .inr ⟨i, by unfold whZ; rw [e], h1, h2⟩
theorem whZ_same {D : List Dz} {d : Dz} {t k : Int} (h : whP t k d = false ∨ whZ D t k ≠ -1) : whZ (D ++ [d]) t k = whZ D t k := by
  have e0 : M.fstI (fun j => whP t k (dAt (D ++ [d]) j)) D.length = M.fstI (fun j => whP t k (dAt D j)) D.length := M.fstI_congr (fun j hj => by rw [dAt_app hj])
  have hl : (D ++ [d]).length = D.length + 1 := by simp
  unfold whZ
  rw [hl]
  cases e : M.fstI (fun j => whP t k (dAt D j)) D.length with
  | some i => rw [M.fstI_keep (e0.trans e)]
  | none =>
    rw [M.fstI_miss (e0.trans e) (by
      rw [dAt_last]
      rcases h with h | h
      · exact h
      · exact absurd (whZ_none e) h)]
theorem whZ_new {D : List Dz} {d : Dz} {t k : Int} (h : whZ D t k = -1) (hp : whP t k d = true) : whZ (D ++ [d]) t k = ((D.length : Nat) : Int) := by
  have e0 : M.fstI (fun j => whP t k (dAt (D ++ [d]) j)) D.length = M.fstI (fun j => whP t k (dAt D j)) D.length := M.fstI_congr (fun j hj => by rw [dAt_app hj])
  refine whZ_hit ?_ (by simp) (by rw [dAt_last]; exact hp)
  rw [e0]
  cases e : M.fstI (fun j => whP t k (dAt D j)) D.length with
  | none => rfl
  | some i => unfold whZ at h; rw [e] at h; simp only at h; omega
theorem wrZ_hit {D : List Dz} {t o : Int} {j : Nat} (h : M.fstI (fun j => wrP t o (dAt D j)) j = none) (hj : j < D.length) (hp : wrP t o (dAt D j) = true) : wrZ D t o = true := by
  unfold wrZ; rw [M.fstI_up (M.fstI_hit h hp) (show j + 1 ≤ D.length by omega)]; rfl
theorem wrZ_none {D : List Dz} {t o : Int} (h : M.fstI (fun j => wrP t o (dAt D j)) D.length = none) : wrZ D t o = false := by unfold wrZ; rw [h]; rfl
theorem wrZ_snoc (D : List Dz) (d : Dz) (t o : Int) : wrZ (D ++ [d]) t o = (wrZ D t o || wrP t o d) := by
  have e0 : M.fstI (fun j => wrP t o (dAt (D ++ [d]) j)) D.length = M.fstI (fun j => wrP t o (dAt D j)) D.length := M.fstI_congr (fun j hj => by rw [dAt_app hj])
  have hl : (D ++ [d]).length = D.length + 1 := by simp
  unfold wrZ
  rw [hl]
  cases e : M.fstI (fun j => wrP t o (dAt D j)) D.length with
  | some i => rw [M.fstI_keep (e0.trans e)]; rfl
  | none =>
    cases c : wrP t o d with
    | true => rw [M.fstI_hit (e0.trans e) (by rw [dAt_last]; exact c)]; rfl
    | false => rw [M.fstI_miss (e0.trans e) (by rw [dAt_last]; exact c)]; rfl
theorem rfZ_hit {D : List Dz} {t o : Int} {j : Nat} (h : M.fstI (fun j => rfP t o (dAt D j)) j = none) (hj : j < D.length) (hp : rfP t o (dAt D j) = true) : rfZ D t o = ((dAt D j).x == 0) := by
  unfold rfZ; rw [M.fstI_up (M.fstI_hit h hp) (show j + 1 ≤ D.length by omega)]
theorem rfZ_none {D : List Dz} {t o : Int} (h : M.fstI (fun j => rfP t o (dAt D j)) D.length = none) : rfZ D t o = false := by unfold rfZ; rw [h]
/-- what is read, or written, for the first time -/
theorem rfZ_snoc (D : List Dz) (d : Dz) (t o : Int) : rfZ (D ++ [d]) t o = if rfP t o d = true ∧ M.fstI (fun j => rfP t o (dAt D j)) D.length = none then d.x == 0 else rfZ D t o := by
  have e0 : M.fstI (fun j => rfP t o (dAt (D ++ [d]) j)) D.length = M.fstI (fun j => rfP t o (dAt D j)) D.length := M.fstI_congr (fun j hj => by rw [dAt_app hj])
  have hl : (D ++ [d]).length = D.length + 1 := by simp
  unfold rfZ
  rw [hl]
  cases e : M.fstI (fun j => rfP t o (dAt D j)) D.length with
  | some i =>
    rw [M.fstI_keep (e0.trans e), if_neg (fun h => by cases h.2)]
    show ((dAt (D ++ [d]) i).x == 0) = _
    rw [dAt_app (M.fstI_some e).1]
  | none =>
    cases c : rfP t o d with
    | true =>
      rw [M.fstI_hit (e0.trans e) (by rw [dAt_last]; exact c), if_pos ⟨rfl, rfl⟩]
      show ((dAt (D ++ [d]) D.length).x == 0) = _
      rw [dAt_last]
    | false =>
      rw [M.fstI_miss (e0.trans e) (by rw [dAt_last]; exact c), if_neg (fun h => by cases h.1)]
theorem comN_app {D : List Dz} {d : Dz} : ∀ {n : Nat}, n ≤ D.length → comN (D ++ [d]) n = comN D n
  | 0, _ => rfl
  | n + 1, h => by
    unfold comN
    rw [comN_app (show n ≤ D.length by omega), dAt_app (show n < D.length by omega)]
theorem comN_mono (D : List Dz) {a : Nat} : ∀ {b : Nat}, a ≤ b → comN D a ≤ comN D b
  | 0, h => by obtain rfl : a = 0 := by omega
               exact Nat.le_refl _
  | b + 1, h => by
    by_cases e : a = b + 1
    · subst e; exact Nat.le_refl _
    · exact Nat.le_trans (comN_mono D (a := a) (b := b) (by omega)) (Nat.le_add_right _ _)
theorem comN_at {D : List Dz} {a : Nat} (h : (dAt D a).k = 5) : comN D (a + 1) = comN D a + 1 := by
  show comN D a + (if (dAt D a).k = 5 then 1 else 0) = _
  rw [if_pos h]
theorem comN_no {D : List Dz} {a : Nat} (h : (dAt D a).k ≠ 5) : comN D (a + 1) = comN D a := by
  show comN D a + (if (dAt D a).k = 5 then 1 else 0) = _
  rw [if_neg h]; rfl
theorem comN_lt {D : List Dz} {a b : Nat} (h : (dAt D a).k = 5) (hab : a < b) : comN D a < comN D b := by
  have := comN_mono D (show a + 1 ≤ b by omega)
  rw [comN_at h] at this
  omega
/-- the document's store and the program's -/
structure VD (s : M.Vw) (D : List Dz) (st : Nat) : Prop where
  vi : M.VI s
  ok : ∀ j, j < D.length → vdIn (dAt D j).k (dAt D j).t (dAt D j).i (dAt D j).x = true
  st : ∀ t, st.testBit t = true ↔ s.dg t = 3
  b0 : ∀ t : Nat, s.dg t = 0 → whZ D t 4 = -1
  b1 : ∀ t : Nat, s.dg t ≠ 0 → ∃ b : Nat, b < D.length ∧ whZ D t 4 = ((b : Nat) : Int) ∧ (dAt D b).k = 4 ∧ comN D b = s.se t
  c0 : ∀ t : Nat, s.dg t ≠ 2 → whZ D t 5 = -1
  c1 : ∀ t : Nat, s.dg t = 2 → ∃ c : Nat, c < D.length ∧ whZ D t 5 = ((c : Nat) : Int) ∧ (dAt D c).k = 5 ∧ comN D c = s.ro.idxOf t
  wr : ∀ t o : Nat, wrZ D t o = (s.wr t).testBit o
  rd : ∀ t o : Nat, rfZ D t o = (s.rd t).testBit o
  fs : ∀ t o : Nat, M.fstI (fun j => rfP t o (dAt D j)) D.length = none ↔ ((s.wr t).testBit o = false ∧ (s.rd t).testBit o = false)
  co : ∀ j, j < D.length → (dAt D j).k = 5 → comN D j < s.ro.length ∧ (dAt D j).t = ((M.row s.ro (comN D j) : Nat) : Int)
  cl : comN D D.length = s.ro.length
theorem VD.zero : VD M.vw0 [] 0 := ⟨M.VI.zero, fun j h => absurd h (Nat.not_lt_zero _), fun t => by rw [Nat.zero_testBit]; exact ⟨fun h => (by cases h), fun (h : (0 : Nat) = 3) => (by cases h)⟩, fun _ _ => rfl, fun _ h => absurd rfl h, fun _ _ => rfl, fun _ (h : (0 : Nat) = 2) => (by cases h), fun t o => (by show false = (0 : Nat).testBit o; rw [Nat.zero_testBit]), fun t o => (by show false = (0 : Nat).testBit o; rw [Nat.zero_testBit]), fun t o => by
  show (none : Option Nat) = none ↔ (0 : Nat).testBit o = false ∧ (0 : Nat).testBit o = false
  rw [Nat.zero_testBit]; simp, fun j h => absurd h (Nat.not_lt_zero _), rfl⟩
theorem VD.lt {s : M.Vw} {D : List Dz} {st : Nat} (h : VD s D st) : st < 32 := Nat.lt_pow_two_of_testBit (n := 5) _ (fun i hi => by
  cases e : st.testBit i with
  | false => rfl
  | true => have := (h.st i).1 e; rw [h.vi.hi i hi] at this; cases this)
theorem VD.tx {s : M.Vw} {D : List Dz} {st j : Nat} (h : VD s D st) (hj : j < D.length) : ∃ t : Nat, (dAt D j).t = (t : Int) ∧ t < 5 := by
  have := (vdIn_true (h.ok j hj)).2.1
  exact ⟨(dAt D j).t.toNat, by omega, by omega⟩
/-- who committed last is told by both -/
theorem VD.la {s : M.Vw} {D : List Dz} {st : Nat} (h : VD s D st) (o : Nat) : ∀ {n : Nat}, n ≤ D.length → laZ D o n = M.lastW s o (comN D n)
  | 0, _ => rfl
  | n + 1, hn => by
    have ih := h.la o (n := n) (by omega)
    by_cases c : (dAt D n).k = 5
    · obtain ⟨h1, h2⟩ := h.co n (by omega) c
      rw [comN_at c]
      show (if (dAt D n).k = 5 ∧ wrZ D (dAt D n).t o = true then (dAt D n).t else laZ D o n) = (if (s.wr (M.row s.ro (comN D n))).testBit o = true then ((M.row s.ro (comN D n) : Nat) : Int) else M.lastW s o (comN D n))
      rw [h2, h.wr, ih]
      by_cases e : (s.wr (M.row s.ro (comN D n))).testBit o = true
      · rw [if_pos ⟨c, e⟩, if_pos e]
      · rw [if_neg (fun x => e x.2), if_neg e]
    · rw [comN_no c]
      show (if (dAt D n).k = 5 ∧ wrZ D (dAt D n).t o = true then (dAt D n).t else laZ D o n) = _
      rw [if_neg (fun x => c x.1), ih]
/-- a place of a commit against a beginning, and against another one -/
theorem VD.cb {s : M.Vw} {D : List Dz} {st a b : Nat} (h : VD s D st) (ha : s.dg a = 2) (hb : s.dg b ≠ 0) : (whZ D a 5 < whZ D b 4 ↔ s.ro.idxOf a < s.se b) ∧ (whZ D b 4 < whZ D a 5 ↔ s.se b ≤ s.ro.idxOf a) := by
  obtain ⟨c, c1, c2, c3, c4⟩ := h.c1 a ha
  obtain ⟨d, d1, d2, d3, d4⟩ := h.b1 b hb
  rw [c2, d2, ← c4, ← d4]
  have hne : c ≠ d := fun e => by rw [e, d3] at c3; cases c3
  have h1 : c < d → comN D c < comN D d := fun e => comN_lt c3 e
  have h2 : d < c → comN D d ≤ comN D c := fun e => comN_mono D (Nat.le_of_lt e)
  constructor
  · exact ⟨fun e => h1 (by omega), fun e => by
      rcases Nat.lt_or_ge c d with k | k
      · omega
      · have := h2 (by omega); omega⟩
  · exact ⟨fun e => h2 (by omega), fun e => by
      rcases Nat.lt_or_ge c d with k | k
      · have := h1 k; omega
      · omega⟩
theorem VD.cc {s : M.Vw} {D : List Dz} {st a b : Nat} (h : VD s D st) (ha : s.dg a = 2) (hb : s.dg b = 2) : whZ D a 5 < whZ D b 5 ↔ s.ro.idxOf a < s.ro.idxOf b := by
  obtain ⟨c, c1, c2, c3, c4⟩ := h.c1 a ha
  obtain ⟨d, d1, d2, d3, d4⟩ := h.c1 b hb
  rw [c2, d2, ← c4, ← d4]
  exact ⟨fun e => comN_lt c3 (by omega), fun e => by
    rcases Nat.lt_or_ge c d with k | k
    · omega
    · have := comN_mono D k; omega⟩
/-- next behind, item by item -/
theorem VD.nx {s : M.Vw} {D : List Dz} {st a b : Nat} (h : VD s D st) (ha : s.dg a = 2) (hb : s.dg b = 2) (o : Nat) {c : Nat} (hc : whZ D b 5 = ((c : Nat) : Int)) (hw : (s.wr a).testBit o = true) :
    (s.ro.idxOf a < s.ro.idxOf b ∧ laZ D o c = ((a : Nat) : Int)) ↔ (s.ro.idxOf a < s.ro.idxOf b ∧ ∀ x, x ∈ s.ro → s.ro.idxOf a < s.ro.idxOf x → s.ro.idxOf x < s.ro.idxOf b → (s.wr x).testBit o = false) := by
  obtain ⟨c', c1, c2, c3, c4⟩ := h.c1 b hb
  obtain rfl : c = c' := by rw [c2] at hc; omega
  rw [h.la o (Nat.le_of_lt c1), c4]
  have ma := (h.vi.ro a).2 ha
  have mb := (h.vi.ro b).2 hb
  have hbl := (M.idx_row mb).2
  refine and_congr_right (fun hlt => ?_)
  rcases M.lastW_cases h.vi o (n := s.ro.idxOf b) (by omega) with ⟨w1, w2⟩ | ⟨x, w1, w2, w3, w4, w5⟩
  · have := w2 a ma hw
    omega
  · rw [w1]
    constructor
    · intro e y hy h1 h2
      obtain rfl : x = a := by omega
      cases k : (s.wr y).testBit o with
      | false => rfl
      | true => have := w5 y hy k h2; omega
    · intro hno
      have h1 := w5 a ma hw hlt
      have h2 : ¬ s.ro.idxOf a < s.ro.idxOf x := fun e => by have := hno x w2 e w3; rw [w4] at this; cases this
      have := M.idx_inj w2 ma (by omega)
      rw [this]
/-! ### deeds, one by one -/
theorem VD.stop {s : M.Vw} {D : List Dz} {st u : Nat} (h : VD s D st) (hu : u < 5) (hd : s.dg u = 1) : VD (M.vStop s u) D (st ||| 1 <<< u) := by
  refine ⟨h.vi.stop hu hd, h.ok, fun t => ?_, fun t e => h.b0 t ?_, fun t e => h.b1 t ?_, fun t e => h.c0 t ?_, fun t e => h.c1 t ?_, h.wr, h.rd, h.fs, h.co, h.cl⟩
  · show _ ↔ M.up1 s.dg u 3 t = 3
    rw [Nat.testBit_or, M.oneBit, Bool.or_eq_true, decide_eq_true_eq, h.st]
    by_cases c : t = u
    · subst c; rw [M.up1_same]; simp
    · rw [M.up1_other _ _ c]
      exact ⟨fun k => k.resolve_right (fun e => c e.symm), .inl⟩
  · have e' : M.up1 s.dg u 3 t = 0 := e
    by_cases c : t = u
    · subst c; rw [M.up1_same] at e'; cases e'
    · rw [M.up1_other _ _ c] at e'; exact e'
  · have e' : M.up1 s.dg u 3 t ≠ 0 := e
    by_cases c : t = u
    · subst c; omega
    · rw [M.up1_other _ _ c] at e'; exact e'
  · have e' : M.up1 s.dg u 3 t ≠ 2 := e
    by_cases c : t = u
    · subst c; omega
    · rw [M.up1_other _ _ c] at e'; exact e'
  · have e' : M.up1 s.dg u 3 t = 2 := e
    by_cases c : t = u
    · subst c; rw [M.up1_same] at e'; cases e'
    · rw [M.up1_other _ _ c] at e'; exact e'
/-- what a deed that is appended asks of the program's store behind it -/
structure VStep (s s' : M.Vw) (d : Dz) : Prop where
  vi : M.VI s'
  st : ∀ t, s'.dg t = 3 ↔ s.dg t = 3
  bN : ∀ t : Nat, d.k = 4 → d.t = (t : Int) → s.dg t = 0 ∧ s'.dg t ≠ 0 ∧ s'.se t = s.ro.length
  bO : ∀ t : Nat, ¬ (d.k = 4 ∧ d.t = (t : Int)) → (s'.dg t = 0 ↔ s.dg t = 0) ∧ (s.dg t ≠ 0 → s'.se t = s.se t)
  cN : ∀ t : Nat, d.k = 5 → d.t = (t : Int) → s.dg t ≠ 2 ∧ s'.dg t = 2 ∧ s'.ro.idxOf t = s.ro.length
  cO : ∀ t : Nat, ¬ (d.k = 5 ∧ d.t = (t : Int)) → (s'.dg t = 2 ↔ s.dg t = 2) ∧ (s.dg t = 2 → s'.ro.idxOf t = s.ro.idxOf t)
  wr : ∀ t o : Nat, (s'.wr t).testBit o = ((s.wr t).testBit o || wrP t o d)
  rd : ∀ t o : Nat, (s'.rd t).testBit o = if rfP t o d = true ∧ (s.wr t).testBit o = false ∧ (s.rd t).testBit o = false then d.x == 0 else (s.rd t).testBit o
  fs : ∀ t o : Nat, rfP t o d = true → (s'.wr t).testBit o = true ∨ (s'.rd t).testBit o = true
  ro : ∀ k, k < s.ro.length → M.row s'.ro k = M.row s.ro k
  le : s'.ro.length = s.ro.length + if d.k = 5 then 1 else 0
  la : d.k = 5 → d.t = ((M.row s'.ro s.ro.length : Nat) : Int)
theorem whP_iff {t k : Int} {d : Dz} : whP t k d = true ↔ d.t = t ∧ d.k = k := by unfold whP; simp
theorem whP_no {t k : Int} {d : Dz} (h : ¬ (d.k = k ∧ d.t = t)) : whP t k d = false := by
  cases e : whP t k d with
  | false => rfl
  | true => have := whP_iff.1 e; exact absurd ⟨this.2, this.1⟩ h
theorem wrP_rf {t o : Int} {d : Dz} (h : wrP t o d = true) : rfP t o d = true := by
  unfold wrP at h; unfold rfP
  simp only [Bool.and_eq_true] at h ⊢
  exact h.1
theorem fst_snoc {D : List Dz} {d : Dz} {t o : Int} : M.fstI (fun j => rfP t o (dAt (D ++ [d]) j)) (D ++ [d]).length = none ↔ M.fstI (fun j => rfP t o (dAt D j)) D.length = none ∧ rfP t o d = false := by
  have e0 : M.fstI (fun j => rfP t o (dAt (D ++ [d]) j)) D.length = M.fstI (fun j => rfP t o (dAt D j)) D.length := M.fstI_congr (fun j hj => by rw [dAt_app hj])
  have hl : (D ++ [d]).length = D.length + 1 := by simp
  rw [hl]
  cases e : M.fstI (fun j => rfP t o (dAt D j)) D.length with
  | some i => rw [M.fstI_keep (e0.trans e)]; simp
  | none =>
    cases c : rfP t o d with
    | true => rw [M.fstI_hit (e0.trans e) (by rw [dAt_last]; exact c)]; simp
    | false => rw [M.fstI_miss (e0.trans e) (by rw [dAt_last]; exact c)]; simp
theorem VD.app {s s' : M.Vw} {D : List Dz} {st : Nat} {d : Dz} (h : VD s D st) (hok : vdIn d.k d.t d.i d.x = true) (hs : VStep s s' d) : VD s' (D ++ [d]) st := by
  have hl : (D ++ [d]).length = D.length + 1 := by simp
  have hm1 : ∀ n : Nat, ((n : Nat) : Int) ≠ -1 := fun n => by omega
  refine ⟨hs.vi, fun j hj => ?_, fun t => (h.st t).trans (hs.st t).symm, fun t e => ?_, fun t e => ?_, fun t e => ?_, fun t e => ?_, fun t o => ?_, fun t o => ?_, fun t o => ?_, fun j hj hk => ?_, ?_⟩
  · by_cases c : j < D.length
    · rw [dAt_app c]; exact h.ok j c
    · obtain rfl : j = D.length := by omega
      rw [dAt_last]; exact hok
  · by_cases c : d.k = 4 ∧ d.t = (t : Int)
    · exact absurd e (hs.bN t c.1 c.2).2.1
    · rw [whZ_same (.inl (whP_no c))]; exact h.b0 t ((hs.bO t c).1.1 e)
  · by_cases c : d.k = 4 ∧ d.t = (t : Int)
    · obtain ⟨a1, a2, a3⟩ := hs.bN t c.1 c.2
      refine ⟨D.length, by omega, whZ_new (h.b0 t a1) (whP_iff.2 ⟨c.2, c.1⟩), by rw [dAt_last]; exact c.1, ?_⟩
      rw [comN_app (Nat.le_refl _), a3]; exact h.cl
    · have e0 : s.dg t ≠ 0 := fun x => e ((hs.bO t c).1.2 x)
      obtain ⟨b, b1, b2, b3, b4⟩ := h.b1 t e0
      exact ⟨b, by omega, by rw [whZ_same (.inl (whP_no c))]; exact b2, by rw [dAt_app b1]; exact b3, by rw [comN_app (Nat.le_of_lt b1), (hs.bO t c).2 e0]; exact b4⟩
  · by_cases c : d.k = 5 ∧ d.t = (t : Int)
    · exact absurd (hs.cN t c.1 c.2).2.1 e
    · rw [whZ_same (.inl (whP_no c))]; exact h.c0 t (fun x => e ((hs.cO t c).1.2 x))
  · by_cases c : d.k = 5 ∧ d.t = (t : Int)
    · obtain ⟨a1, a2, a3⟩ := hs.cN t c.1 c.2
      refine ⟨D.length, by omega, whZ_new (h.c0 t a1) (whP_iff.2 ⟨c.2, c.1⟩), by rw [dAt_last]; exact c.1, ?_⟩
      rw [comN_app (Nat.le_refl _), a3]; exact h.cl
    · have e0 : s.dg t = 2 := (hs.cO t c).1.1 e
      obtain ⟨b, b1, b2, b3, b4⟩ := h.c1 t e0
      exact ⟨b, by omega, by rw [whZ_same (.inl (whP_no c))]; exact b2, by rw [dAt_app b1]; exact b3, by rw [comN_app (Nat.le_of_lt b1), (hs.cO t c).2 e0]; exact b4⟩
  · rw [wrZ_snoc, h.wr, hs.wr]
  · rw [rfZ_snoc, h.rd, hs.rd]
    by_cases c : rfP t o d = true ∧ (s.wr t).testBit o = false ∧ (s.rd t).testBit o = false
    · rw [if_pos c, if_pos ⟨c.1, (h.fs t o).2 c.2⟩]
    · rw [if_neg c, if_neg (fun x => c ⟨x.1, (h.fs t o).1 x.2⟩)]
  · rw [fst_snoc, h.fs]
    constructor
    · rintro ⟨⟨a1, a2⟩, a3⟩
      have hw : wrP t o d = false := by
        cases k : wrP t o d with
        | false => rfl
        | true => rw [wrP_rf k] at a3; cases a3
      rw [hs.wr, hs.rd, a1, hw, if_neg (fun x => by rw [a3] at x; cases x.1)]
      exact ⟨rfl, a2⟩
    · rintro ⟨a1, a2⟩
      have a3 : rfP t o d = false := by
        cases k : rfP t o d with
        | false => rfl
        | true =>
          rcases hs.fs t o k with x | x
          · rw [a1] at x; cases x
          · rw [a2] at x; cases x
      rw [hs.wr, Bool.or_eq_false_iff] at a1
      rw [hs.rd, if_neg (fun x => by rw [a3] at x; cases x.1)] at a2
      exact ⟨⟨a1.1, a2⟩, a3⟩
  · rw [hs.le]
    by_cases c : j < D.length
    · rw [dAt_app c] at hk ⊢
      rw [comN_app (Nat.le_of_lt c)]
      obtain ⟨a1, a2⟩ := h.co j c hk
      exact ⟨by omega, by rw [hs.ro _ a1]; exact a2⟩
    · obtain rfl : j = D.length := by omega
      rw [dAt_last] at hk ⊢
      rw [comN_app (Nat.le_refl _), h.cl, if_pos hk]
      exact ⟨by omega, hs.la hk⟩
  · rw [hl, hs.le]
    show comN (D ++ [d]) D.length + (if (dAt (D ++ [d]) D.length).k = 5 then 1 else 0) = _
    rw [comN_app (Nat.le_refl _), dAt_last, h.cl]
theorem wrP_no {t o : Int} {d : Dz} (h : d.k ≠ 3) : wrP t o d = false := by unfold wrP; rw [show (d.k == 3) = false by simpa using h]; simp
theorem rfP_no {t o : Int} {d : Dz} (h : d.k ≠ 3) : rfP t o d = false := by unfold rfP; rw [show (d.k == 3) = false by simpa using h]; simp
theorem VStep.beg {s : M.Vw} (h : M.VI s) {u : Nat} (hu : u < 5) (h0 : s.dg u = 0) (o x : Int) : VStep s (M.vBeg s u) ⟨4, u, o, x⟩ := by
  refine ⟨h.beg hu h0, fun t => ?_, fun t _ e => ?_, fun t e => ?_, fun t e => ?_, fun t _ => ⟨?_, fun _ => rfl⟩, fun t i => ?_, fun t i => ?_, fun t i e => ?_, fun k _ => rfl, rfl, fun e => ?_⟩
  · show M.up1 s.dg u 1 t = 3 ↔ _
    by_cases c : t = u
    · subst c; rw [M.up1_same]; omega
    · rw [M.up1_other _ _ c]
  · obtain rfl : u = t := by have : ((u : Nat) : Int) = t := e; omega
    exact ⟨h0, by show M.up1 s.dg u 1 u ≠ 0; rw [M.up1_same]; decide, by show M.up1 s.se u _ u = _; rw [M.up1_same]⟩
  · have c : t ≠ u := fun e2 => e ⟨rfl, by subst e2; rfl⟩
    exact ⟨by show M.up1 s.dg u 1 t = 0 ↔ _; rw [M.up1_other _ _ c], fun _ => by show M.up1 s.se u _ t = _; rw [M.up1_other _ _ c]⟩
  · have : (4 : Int) = 5 := e
    omega
  · show M.up1 s.dg u 1 t = 2 ↔ _
    by_cases c : t = u
    · subst c; rw [M.up1_same]; omega
    · rw [M.up1_other _ _ c]
  · rw [wrP_no (show (4 : Int) ≠ 3 by decide), Bool.or_false]; rfl
  · rw [rfP_no (show (4 : Int) ≠ 3 by decide), if_neg (fun x => by cases x.1)]; rfl
  · rw [rfP_no (show (4 : Int) ≠ 3 by decide)] at e; cases e
  · have : (4 : Int) = 5 := e
    omega
theorem VStep.com {s : M.Vw} (h : M.VI s) {u : Nat} (hu : u < 5) (h1 : s.dg u = 1) (hc : M.clashB s u = false) (o x : Int) : VStep s (M.vCom s u) ⟨5, u, o, x⟩ := by
  have nt : u ∉ s.ro := fun e => by have := (h.ro u).1 e; omega
  have idt : (s.ro ++ [u]).idxOf u = s.ro.length := by rw [M.idx_not nt]; simp
  refine ⟨h.com hu h1 hc, fun t => ?_, fun t e => ?_, fun t _ => ⟨?_, fun _ => rfl⟩, fun t _ e => ?_, fun t e => ?_, fun t i => ?_, fun t i => ?_, fun t i e => ?_, fun k hk => ?_, ?_, fun _ => ?_⟩
  · show M.up1 s.dg u 2 t = 3 ↔ _
    by_cases c : t = u
    · subst c; rw [M.up1_same]; omega
    · rw [M.up1_other _ _ c]
  · have : (5 : Int) = 4 := e
    omega
  · show M.up1 s.dg u 2 t = 0 ↔ _
    by_cases c : t = u
    · subst c; rw [M.up1_same]; omega
    · rw [M.up1_other _ _ c]
  · obtain rfl : u = t := by have : ((u : Nat) : Int) = t := e; omega
    exact ⟨by omega, by show M.up1 s.dg u 2 u = 2; rw [M.up1_same], idt⟩
  · have c : t ≠ u := fun e2 => e ⟨rfl, by subst e2; rfl⟩
    refine ⟨by show M.up1 s.dg u 2 t = 2 ↔ _; rw [M.up1_other _ _ c], fun e2 => ?_⟩
    exact M.idx_app ((h.ro t).2 e2)
  · rw [wrP_no (show (5 : Int) ≠ 3 by decide), Bool.or_false]; rfl
  · rw [rfP_no (show (5 : Int) ≠ 3 by decide), if_neg (fun x => by cases x.1)]; rfl
  · rw [rfP_no (show (5 : Int) ≠ 3 by decide)] at e; cases e
  · show M.row (s.ro ++ [u]) k = _
    unfold M.row; rw [List.getElem?_append_left hk]
  · show (s.ro ++ [u]).length = _
    simp
  · show (u : Int) = ((M.row (s.ro ++ [u]) s.ro.length : Nat) : Int)
    unfold M.row; simp
theorem rfP_iff {t o u i : Nat} {x : Int} : rfP t o ⟨3, u, i, x⟩ = true ↔ u = t ∧ i = o := by
  unfold rfP
  simp only [beq_self_eq_true, Bool.and_true, Bool.and_eq_true, beq_iff_eq]
  omega
theorem wrP_iff {t o u i : Nat} {x : Int} : wrP t o ⟨3, u, i, x⟩ = true ↔ (u = t ∧ i = o) ∧ x = 1 := by
  unfold wrP
  simp only [beq_self_eq_true, Bool.and_true, Bool.and_eq_true, beq_iff_eq]
  omega
theorem VStep.wrt {s : M.Vw} (h : M.VI s) {u i : Nat} (hi : i < 4) (h1 : s.dg u = 1) : VStep s (M.vWr s u i) ⟨3, u, i, 1⟩ := by
  have hk : ∀ {P : Prop}, (3 : Int) = 4 → P := fun e => by omega
  have hk5 : ∀ {P : Prop}, (3 : Int) = 5 → P := fun e => by omega
  have hw : ∀ t o : Nat, ((M.vWr s u i).wr t).testBit o = ((s.wr t).testBit o || wrP t o ⟨3, u, i, 1⟩) := fun t o => by
    rw [Bool.eq_iff_iff, Bool.or_eq_true, wrP_iff]
    show (M.up1 s.wr u (s.wr u ||| 1 <<< i) t).testBit o = true ↔ _
    by_cases c : t = u
    · subst c
      rw [M.up1_same, Nat.testBit_or, M.oneBit, Bool.or_eq_true, decide_eq_true_eq]
      exact ⟨fun e => e.imp_right (fun e => ⟨⟨rfl, e⟩, rfl⟩), fun e => e.imp_right (fun e => e.1.2)⟩
    · rw [M.up1_other _ _ c]
      exact ⟨.inl, fun e => e.resolve_right (fun e => c e.1.1.symm)⟩
  refine ⟨h.wrt hi h1, fun _ => Iff.rfl, fun t e => hk e, fun t _ => ⟨Iff.rfl, fun _ => rfl⟩, fun t e => hk5 e, fun t _ => ⟨Iff.rfl, fun _ => rfl⟩, hw, fun t o => ?_, fun t o e => .inl ?_, fun _ _ => rfl, rfl, fun e => hk5 e⟩
  · show (s.rd t).testBit o = _
    by_cases c : rfP t o ⟨3, u, i, 1⟩ = true ∧ (s.wr t).testBit o = false ∧ (s.rd t).testBit o = false
    · rw [if_pos c, c.2.2]; rfl
    · rw [if_neg c]
  · rw [hw, Bool.or_eq_true]
    exact .inr (wrP_iff.2 ⟨rfP_iff.1 e, rfl⟩)
theorem VStep.own {s : M.Vw} (h : M.VI s) {u i : Nat} (hb : (s.wr u).testBit i = true) : VStep s s ⟨3, u, i, 0⟩ := by
  have hk : ∀ {P : Prop}, (3 : Int) = 4 → P := fun e => by omega
  have hk5 : ∀ {P : Prop}, (3 : Int) = 5 → P := fun e => by omega
  have hn : ∀ t o : Nat, wrP t o ⟨3, u, i, 0⟩ = false := fun t o => by
    cases e : wrP t o ⟨3, u, i, 0⟩ with
    | false => rfl
    | true => have := (wrP_iff.1 e).2; omega
  refine ⟨h, fun _ => Iff.rfl, fun t e => hk e, fun t _ => ⟨Iff.rfl, fun _ => rfl⟩, fun t e => hk5 e, fun t _ => ⟨Iff.rfl, fun _ => rfl⟩, fun t o => by rw [hn, Bool.or_false], fun t o => ?_, fun t o e => .inl ?_, fun _ _ => rfl, rfl, fun e => hk5 e⟩
  · by_cases c : rfP t o ⟨3, u, i, 0⟩ = true ∧ (s.wr t).testBit o = false ∧ (s.rd t).testBit o = false
    · obtain ⟨rfl, rfl⟩ := rfP_iff.1 c.1
      rw [hb] at c; cases c.2.1
    · rw [if_neg c]
  · obtain ⟨rfl, rfl⟩ := rfP_iff.1 e
    exact hb
theorem VStep.red {s : M.Vw} (h : M.VI s) {u i : Nat} (hi : i < 4) (h1 : s.dg u = 1) (hb : (s.wr u).testBit i = false) : VStep s (M.vRd s u i) ⟨3, u, i, 0⟩ := by
  have hk : ∀ {P : Prop}, (3 : Int) = 4 → P := fun e => by omega
  have hk5 : ∀ {P : Prop}, (3 : Int) = 5 → P := fun e => by omega
  have hn : ∀ t o : Nat, wrP t o ⟨3, u, i, 0⟩ = false := fun t o => by
    cases e : wrP t o ⟨3, u, i, 0⟩ with
    | false => rfl
    | true => have := (wrP_iff.1 e).2; omega
  have hr : ∀ t o : Nat, ((M.vRd s u i).rd t).testBit o = true ↔ (s.rd t).testBit o = true ∨ (u = t ∧ i = o) := fun t o => by
    show (M.up1 s.rd u (s.rd u ||| 1 <<< i) t).testBit o = true ↔ _
    by_cases c : t = u
    · subst c
      rw [M.up1_same, Nat.testBit_or, M.oneBit, Bool.or_eq_true, decide_eq_true_eq]
      exact ⟨fun e => e.imp_right (fun e => ⟨rfl, e⟩), fun e => e.imp_right (fun e => e.2)⟩
    · rw [M.up1_other _ _ c]
      exact ⟨.inl, fun e => e.resolve_right (fun e => c e.1.symm)⟩
  refine ⟨h.red hi h1, fun _ => Iff.rfl, fun t e => hk e, fun t _ => ⟨Iff.rfl, fun _ => rfl⟩, fun t e => hk5 e, fun t _ => ⟨Iff.rfl, fun _ => rfl⟩, fun t o => by rw [hn, Bool.or_false]; rfl, fun t o => ?_, fun t o e => .inr ((hr t o).2 (.inr (rfP_iff.1 e))), fun _ _ => rfl, rfl, fun e => hk5 e⟩
  rw [Bool.eq_iff_iff, hr]
  by_cases c : rfP t o ⟨3, u, i, 0⟩ = true ∧ (s.wr t).testBit o = false ∧ (s.rd t).testBit o = false
  · rw [if_pos c]
    exact ⟨fun _ => rfl, fun _ => .inr (rfP_iff.1 c.1)⟩
  · rw [if_neg c]
    refine ⟨fun e => e.elim id (fun e => ?_), .inl⟩
    cases k : (s.rd t).testBit o with
    | true => rfl
    | false =>
      obtain ⟨rfl, rfl⟩ := e
      exact absurd ⟨rfP_iff.2 ⟨rfl, rfl⟩, hb, k⟩ c
/-- does a commit stand against another one's? -/
theorem VD.clash {s : M.Vw} {D : List Dz} {st u b : Nat} (h : VD s D st) (hu : s.dg u ≠ 0) (hb : whZ D u 4 = ((b : Nat) : Int)) : M.clashB s u = true ↔ ∃ o, o < 4 ∧ wrZ D u (o : Nat) = true ∧ ∃ j, b ≤ j ∧ j < D.length ∧ (dAt D j).k = 5 ∧ wrZ D (dAt D j).t (o : Nat) = true := by
  obtain ⟨b', b1, b2, b3, b4⟩ := h.b1 u hu
  obtain rfl : b = b' := by omega
  rw [M.clashB_iff h.vi]
  constructor
  · rintro ⟨v, v1, v2, v3⟩
    obtain ⟨o, o1, o2⟩ := M.and_ne.1 v3
    obtain ⟨c, c1, c2, c3, c4⟩ := h.c1 v ((h.vi.ro v).1 v1)
    refine ⟨o, M.bit16 (h.vi.wb v) o1, by rw [h.wr]; exact o2, c, ?_, c1, c3, ?_⟩
    · rcases Nat.lt_or_ge c b with k | k
      · have := comN_lt c3 k; omega
      · exact k
    · obtain ⟨_, e⟩ := h.co c c1 c3
      rw [e, c4, (M.idx_row v1).1, h.wr]; exact o1
  · rintro ⟨o, o1, o2, j, j1, j2, j3, j4⟩
    obtain ⟨e1, e2⟩ := h.co j j2 j3
    rw [e2, h.wr] at j4
    rw [h.wr] at o2
    refine ⟨_, M.row_memV e1, ?_, M.and_ne.2 ⟨o, j4, o2⟩⟩
    rw [M.row_idx h.vi.nd e1, ← b4]
    exact comN_mono D j1
end Go.Proofs.YtajiichehffaaaaDoor
