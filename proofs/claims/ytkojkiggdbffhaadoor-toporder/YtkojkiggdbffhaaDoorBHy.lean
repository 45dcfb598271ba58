/- Rows of whole numbers in a block of its own; no program text is named. Whether a stamp is less (package hybrid, Less), the one behind the latest (next), and what is known ahead of all events (nothingKnown); what lay in memory lies as it lay. What is wrong with a trace and the times at its events (package hybrid, Check); what lay in memory lies as it lay. -/
import Derived.Test.YtkojkiggdbffhaaDoorBTr
import Derived.Test.YtkojkiggdbffhaaDoorBMb
namespace Go.Proofs.YtkojkiggdbffhaaDoor
open Go.RowKit

/-- Whole numbers as cells. -/
def arrZ (m : List Int) : Array Value := (m.map fun x => Value.int .i64 x).toArray
theorem arrZ_size (m : List Int) : (arrZ m).size = m.length := by simp [arrZ]
theorem arrZ_get (m : List Int) (k : Nat) (h : k < m.length) : (arrZ m)[k]? = some (.int .i64 (M.rowZ m k)) := by
  simp [arrZ, M.rowZ, h]
theorem arrZ_set (m : List Int) (i : Nat) (x : Int) : (arrZ m).setIfInBounds i (.int .i64 x) = arrZ (m.set i x) := by
  simp [arrZ, List.map_set]
/-- Block A holds the numbers m, none frozen. -/
def RowZ (t : TypeId) (W : World) (A : Nat) (m : List Int) : Prop := W.heap[A]? = some (.cells (arrZ m) t (0, 0))
theorem RowZ.lt {t : TypeId} {W : World} {A : Nat} {m : List Int} (h : RowZ t W A m) : A < W.heap.size := (Array.getElem?_eq_some_iff.1 h).1
theorem RowZ.cell {t : TypeId} {W : World} {A : Nat} {m : List Int} (h : RowZ t W A m) {k : Nat} (hk : k < m.length) : W.cell? ⟨A, k, none⟩ = some (.int .i64 (M.rowZ m k)) := by
  simp [World.cell?, show W.heap[A]? = _ from h, arrZ_get m k hk]
theorem RowZ.frozen {t : TypeId} {W : World} {A : Nat} {m : List Int} (h : RowZ t W A m) (k : Nat) : W.frozen? ⟨A, k, none⟩ = false := by
  simp [World.frozen?, show W.heap[A]? = _ from h]
theorem RowZ.alloc {t : TypeId} {W : World} {A : Nat} {m : List Int} (h : RowZ t W A m) (o : Obj) : RowZ t (W.alloc o) A m := ((World.grownBy_alloc W o none).block A h.lt (by simp)).trans h
theorem RowZ.drew {t : TypeId} {W : World} {A : Nat} {m : List Int} (h : RowZ t W A m) : RowZ t W.drew A m := h
theorem RowZ.below {t : TypeId} {W W' : World} {A B : Nat} {m : List Int} (h : RowZ t W A m) (hb : Below B W W') (hA : A < B) : RowZ t W' A m := (hb.block A hA).trans h
theorem RowZ.set {t : TypeId} {W : World} {A : Nat} {m : List Int} (h : RowZ t W A m) (i : Nat) (x : Int) : RowZ t (W.setCell ⟨A, i, none⟩ (.int .i64 x)) A (m.set i x) := by
  obtain ⟨hlt, hk⟩ := Array.getElem?_eq_some_iff.1 h
  show (W.heap.modify A _)[A]? = _
  rw [Array.getElem?_eq_getElem (by rw [Array.size_modify]; exact hlt), Array.getElem_modify_self, hk]
  simp [arrZ_set]
theorem RowZ.other {t : TypeId} {W : World} {A : Nat} {m : List Int} (h : RowZ t W A m) {a : Addr} (ha : A ≠ a.block) (v : Value) : RowZ t (W.setCell a v) A m :=
  (Below.heap_setCell W a v A ha).trans h
theorem RowZ.hasI {w : World} {A : Nat} {m : List Int} {t : TypeId} (h : RowZ t w A m) : HasI m (some ⟨A, 0, none⟩) w := fun j hj =>
  ⟨A, 0, rfl, h.lt, by rw [Nat.zero_add]; exact h.cell hj⟩
theorem HasI.at_ {zs : List Int} {p : Option Addr} {w : World} (h : HasI zs p w) {j : Nat} (hj : j < zs.length) {z : Int} (hz : zs[j]?.getD 0 = z) : ∃ b off, p = some ⟨b, off, none⟩ ∧ b < w.heap.size ∧ w.cell? ⟨b, off + j, none⟩ = some (.int .i64 z) := by
  obtain ⟨b, off, h1, h2, h3⟩ := h j hj
  exact ⟨b, off, h1, h2, by rw [h3, hz]⟩
/-- A stamp as a value. -/
abbrev stV (a c : Int) : Value := .agg #[.int .i64 a, .int .i64 c]
end Go.Proofs.YtkojkiggdbffhaaDoor
namespace Go.Proofs.YtkojkiggdbffhaaDoor
open Go.RowKit

set_option maxHeartbeats 400000 in
theorem less_ok (a c b d : Int) (r : Bool) (w : World) (hr : M.lsB a c b d = r) :
    Calls Tryd.prog 18 #[stV a c, stV b d] w fun e w' => e = .returned (.bool r) ∧ Below w.heap.size w w' := by
  have hB : Below w.heap.size w ((w.alloc (.cells #[.int .i64 a, .int .i64 c] 47)).alloc (.cells #[.int .i64 b, .int .i64 d] 47)) := bel_al (bel_al (Below.refl _ _) _) _
  unfold M.lsB at hr
  by_cases h : a = b
  · subst h
    rw [if_pos rfl] at hr
    go_enter Tryd.func18, Tryd.ntmps18
    go_wp2
    go_ret
    exact ⟨rfl, hB⟩
  · rw [if_neg h] at hr
    go_enter Tryd.func18, Tryd.ntmps18
    go_wp2
    go_ret
    exact ⟨rfl, hB⟩
theorem results_cell2 {fn : Func} {t : Tmp} (h : fn.results = #[.cell t 47]) (tmps : Array Value) (w : World) (B : Nat) (a b : Int) (hp : tmps.getD t undef = .pointer (some ⟨B, 0, none⟩)) (h0 : w.cell? ⟨B, 0, none⟩ = some (.int .i64 a)) (h1 : w.cell? ⟨B, 1, none⟩ = some (.int .i64 b)) :
    (results fn tmps).run Tryd.prog w = .ok (stV a b) w := by
  have hp' : tmps[t]?.getD undef = .pointer (some ⟨B, 0, none⟩) := by simpa using hp
  simp [results, h, go_sem, hp', h0, h1]
set_option maxHeartbeats 1000000 in
theorem next_ok (x c z : Int) (w : World) (hc0 : 0 ≤ c) (hc : c ≤ 1000) :
    Calls Tryd.prog 41 #[stV x c, .int .i64 z] w fun e w' => e = .returned (stV (M.nxT x z) (M.nxC x c z)) ∧ Below w.heap.size w w' := by
  have hB : Below w.heap.size w ((w.alloc (.cells #[.int .i64 x, .int .i64 c] 47)).alloc (.cells #[.int .i64 0, .int .i64 0] 47)) := bel_al (bel_al (Below.refl _ _) _) _
  unfold M.nxT M.nxC
  by_cases h : x < z
  · rw [if_pos h, if_pos h]
    go_enter Tryd.func41, Tryd.ntmps41
    go_wp2
    refine bodyPost_ret (v := stV z 0) (by simp [results, Tryd.results41, go_sem]) rfl ⟨rfl, ?_⟩
    repeat first | exact Below.refl _ _ | exact hB | apply bel_al
  · rw [if_neg h, if_neg h]
    go_enter Tryd.func41, Tryd.ntmps41
    go_wp2
    refine bodyPost_ret (v := stV x (c + 1)) (by simp [results, Tryd.results41, go_sem]) rfl ⟨rfl, ?_⟩
    repeat first | exact Below.refl _ _ | exact hB | apply bel_al
/-- The first k processes know nothing. -/
def nk (k : Nat) : List Int := (List.range 10).map fun x => if x % 2 = 0 ∧ x / 2 < k then -1 else 0
theorem nk_set {k : Nat} (hk : k < 5) : (nk k).set (k * 2) (-1) = nk (k + 1) := by
  rcases k with _ | _ | _ | _ | _ | k
  · decide
  · decide
  · decide
  · decide
  · decide
  · omega
abbrev noneV : Value := .agg #[.int .i64 (-1), .int .i64 0, .int .i64 (-1), .int .i64 0, .int .i64 (-1), .int .i64 0, .int .i64 (-1), .int .i64 0, .int .i64 (-1), .int .i64 0]
theorem results_cell10 {fn : Func} {t : Tmp} (h : fn.results = #[.cell t 71]) (tmps : Array Value) (w : World) (B : Nat) (hp : tmps.getD t undef = .pointer (some ⟨B, 0, none⟩)) (hr : RowZ 71 w B (nk 5)) :
    (results fn tmps).run Tryd.prog w = .ok noneV w := by
  have hp' : tmps[t]?.getD undef = .pointer (some ⟨B, 0, none⟩) := by simpa using hp
  have h0 : w.cell? ⟨B, 0, none⟩ = some (.int .i64 (-1)) := hr.cell (k := 0) (by decide)
  have h1 : w.cell? ⟨B, 1, none⟩ = some (.int .i64 (0)) := hr.cell (k := 1) (by decide)
  have h2 : w.cell? ⟨B, 2, none⟩ = some (.int .i64 (-1)) := hr.cell (k := 2) (by decide)
  have h3 : w.cell? ⟨B, 3, none⟩ = some (.int .i64 (0)) := hr.cell (k := 3) (by decide)
  have h4 : w.cell? ⟨B, 4, none⟩ = some (.int .i64 (-1)) := hr.cell (k := 4) (by decide)
  have h5 : w.cell? ⟨B, 5, none⟩ = some (.int .i64 (0)) := hr.cell (k := 5) (by decide)
  have h6 : w.cell? ⟨B, 6, none⟩ = some (.int .i64 (-1)) := hr.cell (k := 6) (by decide)
  have h7 : w.cell? ⟨B, 7, none⟩ = some (.int .i64 (0)) := hr.cell (k := 7) (by decide)
  have h8 : w.cell? ⟨B, 8, none⟩ = some (.int .i64 (-1)) := hr.cell (k := 8) (by decide)
  have h9 : w.cell? ⟨B, 9, none⟩ = some (.int .i64 (0)) := hr.cell (k := 9) (by decide)
  simp [results, h, go_sem, hp', h0, h1, h2, h3, h4, h5, h6, h7, h8, h9]
set_option maxRecDepth 100000 in
set_option maxHeartbeats 2000000 in
theorem nothing_ok (w : World) :
    Calls Tryd.prog 40 #[] w fun e w' => e = .returned noneV ∧ Below w.heap.size w w' := by
  obtain ⟨w1, hw1⟩ : ∃ w1, w.alloc (.cells (arrZ (nk 0)) 71) = w1 := ⟨_, rfl⟩
  obtain ⟨w2, hw2⟩ : ∃ w2, w1.alloc (.cells (arrZ (nk 0)) 71) = w2 := ⟨_, rfl⟩
  have s1 : w1.heap.size = w.heap.size + 1 := by subst hw1; simp
  have r1 : RowZ 71 w1 w.heap.size (nk 0) := by subst hw1; unfold RowZ; rw [World.alloc_heap_new]
  have r2 : RowZ 71 w2 (w.heap.size + 1) (nk 0) := by subst hw2; unfold RowZ; rw [← s1, World.alloc_heap_new]
  have q1 : RowZ 71 w2 w.heap.size (nk 0) := hw2 ▸ r1.alloc _
  have hB2 : Below w.heap.size w w2 := by rw [← hw2, ← hw1]; exact bel_al (bel_al (Below.refl _ _) _) _
  have hw1' : w.alloc (.cells #[.int .i64 0, .int .i64 0, .int .i64 0, .int .i64 0, .int .i64 0, .int .i64 0, .int .i64 0, .int .i64 0, .int .i64 0, .int .i64 0] 71) = w1 := hw1
  have hw2' : w1.alloc (.cells #[.int .i64 0, .int .i64 0, .int .i64 0, .int .i64 0, .int .i64 0, .int .i64 0, .int .i64 0, .int .i64 0, .int .i64 0, .int .i64 0] 71) = w2 := hw2
  clear hw1 hw2 r1
  go_enter Tryd.func40, Tryd.ntmps40
  go_wp2_with fail
  go_loopw [3] (fun v wr => ∃ k : Nat, v = .int .i64 k ∧ k ≤ 5 ∧ RowZ 71 wr (w.heap.size + 1) (nk k) ∧ RowZ 71 wr w.heap.size (nk 0) ∧ Below w.heap.size w wr) (fun v _ => 5 - (intOf v).toNat)
  case atStart => exact ⟨0, rfl, by omega, r2, q1, hB2⟩
  case round =>
    clear hw1' hw2' q1 r2 hB2 s1
    obtain ⟨k, rfl, hk, hX, hZ, hB⟩ := hrel
    by_cases hlt : k < 5
    · have hc := hX.cell (k := k * 2) (show k * 2 < 10 by omega)
      have hf := hX.frozen (k * 2)
      obtain ⟨z, hz⟩ : ∃ z, M.rowZ (nk k) (k * 2) = z := ⟨_, rfl⟩
      rw [hz] at hc
      clear hz
      have hX2 := hX.set (k * 2) (-1)
      rw [nk_set hlt] at hX2
      have hZ2 := hZ.other (a := ⟨w.heap.size + 1, k * 2, none⟩) (show w.heap.size ≠ w.heap.size + 1 by omega) (.int .i64 (-1))
      have hB2 := hB.setCell (p := ⟨w.heap.size + 1, k * 2, none⟩) (show w.heap.size ≤ w.heap.size + 1 by omega) (.int .i64 (-1))
      have H1 : Hid (RowZ _ _ _ _) := hX2
      have H2 : Hid (RowZ _ _ _ _) := hZ2
      clear hX hZ hX2 hZ2
      have hki : (k : Int) < 5 := by omega
      go_wp2_with fail
      go_roundw
      case rel => exact ⟨k + 1, by go_num, by omega, H1.out, H2.out, hB2⟩
      case measure => simp [intOf]; omega
    · obtain rfl : k = 5 := by omega
      have c0 : wr.cell? ⟨w.heap.size + 1, 0, none⟩ = some (.int .i64 (-1)) := hX.cell (k := 0) (by decide)
      have z0 : wr.cell? ⟨w.heap.size, 0, none⟩ = some (.int .i64 0) := hZ.cell (k := 0) (by decide)
      have f0 := hZ.frozen 0
      have c1 : wr.cell? ⟨w.heap.size + 1, 1, none⟩ = some (.int .i64 0) := hX.cell (k := 1) (by decide)
      have z1 : wr.cell? ⟨w.heap.size, 1, none⟩ = some (.int .i64 0) := hZ.cell (k := 1) (by decide)
      have f1 := hZ.frozen 1
      have c2 : wr.cell? ⟨w.heap.size + 1, 2, none⟩ = some (.int .i64 (-1)) := hX.cell (k := 2) (by decide)
      have z2 : wr.cell? ⟨w.heap.size, 2, none⟩ = some (.int .i64 0) := hZ.cell (k := 2) (by decide)
      have f2 := hZ.frozen 2
      have c3 : wr.cell? ⟨w.heap.size + 1, 3, none⟩ = some (.int .i64 0) := hX.cell (k := 3) (by decide)
      have z3 : wr.cell? ⟨w.heap.size, 3, none⟩ = some (.int .i64 0) := hZ.cell (k := 3) (by decide)
      have f3 := hZ.frozen 3
      have c4 : wr.cell? ⟨w.heap.size + 1, 4, none⟩ = some (.int .i64 (-1)) := hX.cell (k := 4) (by decide)
      have z4 : wr.cell? ⟨w.heap.size, 4, none⟩ = some (.int .i64 0) := hZ.cell (k := 4) (by decide)
      have f4 := hZ.frozen 4
      have c5 : wr.cell? ⟨w.heap.size + 1, 5, none⟩ = some (.int .i64 0) := hX.cell (k := 5) (by decide)
      have z5 : wr.cell? ⟨w.heap.size, 5, none⟩ = some (.int .i64 0) := hZ.cell (k := 5) (by decide)
      have f5 := hZ.frozen 5
      have c6 : wr.cell? ⟨w.heap.size + 1, 6, none⟩ = some (.int .i64 (-1)) := hX.cell (k := 6) (by decide)
      have z6 : wr.cell? ⟨w.heap.size, 6, none⟩ = some (.int .i64 0) := hZ.cell (k := 6) (by decide)
      have f6 := hZ.frozen 6
      have c7 : wr.cell? ⟨w.heap.size + 1, 7, none⟩ = some (.int .i64 0) := hX.cell (k := 7) (by decide)
      have z7 : wr.cell? ⟨w.heap.size, 7, none⟩ = some (.int .i64 0) := hZ.cell (k := 7) (by decide)
      have f7 := hZ.frozen 7
      have c8 : wr.cell? ⟨w.heap.size + 1, 8, none⟩ = some (.int .i64 (-1)) := hX.cell (k := 8) (by decide)
      have z8 : wr.cell? ⟨w.heap.size, 8, none⟩ = some (.int .i64 0) := hZ.cell (k := 8) (by decide)
      have f8 := hZ.frozen 8
      have c9 : wr.cell? ⟨w.heap.size + 1, 9, none⟩ = some (.int .i64 0) := hX.cell (k := 9) (by decide)
      have z9 : wr.cell? ⟨w.heap.size, 9, none⟩ = some (.int .i64 0) := hZ.cell (k := 9) (by decide)
      have f9 := hZ.frozen 9
      have hR := ((((((((((hZ.set 0 (-1)).set 1 0).set 2 (-1)).set 3 0).set 4 (-1)).set 5 0).set 6 (-1)).set 7 0).set 8 (-1)).set 9 0)
      have hB2 := ((((((((((hB.setCell (p := ⟨w.heap.size, 0, none⟩) (Nat.le_refl _) (.int .i64 (-1))).setCell (p := ⟨w.heap.size, 1, none⟩) (Nat.le_refl _) (.int .i64 0)).setCell (p := ⟨w.heap.size, 2, none⟩) (Nat.le_refl _) (.int .i64 (-1))).setCell (p := ⟨w.heap.size, 3, none⟩) (Nat.le_refl _) (.int .i64 0)).setCell (p := ⟨w.heap.size, 4, none⟩) (Nat.le_refl _) (.int .i64 (-1))).setCell (p := ⟨w.heap.size, 5, none⟩) (Nat.le_refl _) (.int .i64 0)).setCell (p := ⟨w.heap.size, 6, none⟩) (Nat.le_refl _) (.int .i64 (-1))).setCell (p := ⟨w.heap.size, 7, none⟩) (Nat.le_refl _) (.int .i64 0)).setCell (p := ⟨w.heap.size, 8, none⟩) (Nat.le_refl _) (.int .i64 (-1))).setCell (p := ⟨w.heap.size, 9, none⟩) (Nat.le_refl _) (.int .i64 0))
      have HR : Hid (RowZ _ _ _ _) := hR
      have HB : Hid (Below _ _ _) := hB2
      clear hR hB2 hX hZ
      go_wp2_with fail
      refine bodyPost_ret (v := noneV) (results_cell10 rfl _ _ w.heap.size rfl HR.out) rfl ⟨rfl, HB.out⟩
end Go.Proofs.YtkojkiggdbffhaaDoor
namespace Go.Proofs.YtkojkiggdbffhaaDoor
open Go.RowKit
namespace M
/-- all of the first k times may be -/
def tmTo (zs : List Int) : Nat → Bool
  | 0 => true
  | k + 1 => tmTo zs k && decide (0 ≤ zs[k]?.getD 0 ∧ zs[k]?.getD 0 ≤ 1000000)
theorem tmTo_iff (zs : List Int) (n : Nat) : tmTo zs n = true ↔ ∀ k, k < n → 0 ≤ zs[k]?.getD 0 ∧ zs[k]?.getD 0 ≤ 1000000 := by
  induction n with
  | zero => simp [tmTo]
  | succ n ih =>
    simp only [tmTo, Bool.and_eq_true, decide_eq_true_eq, ih]
    constructor
    · rintro ⟨h1, h2⟩ k hk
      by_cases e : k = n
      · subst e; exact h2
      · exact h1 k (by omega)
    · exact fun h => ⟨fun k hk => h k (by omega), h n (by omega)⟩
/-- what is wrong with a trace and times -/
def hcode (P : Int) (T : List (Int × Int)) (zs : List Int) : Nat := if tcode P T ≠ 0 then tcode P T else if zs.length ≠ T.length then 3 else if tmTo zs zs.length = true then 0 else 1
structure HOk (P : Int) (T : List (Int × Int)) (zs : List Int) : Prop where
  tr : TOk P T
  len : zs.length = T.length
  rng : ∀ k, k < T.length → 0 ≤ zs[k]?.getD 0 ∧ zs[k]?.getD 0 ≤ 1000000
theorem hcode_zero {P : Int} {T : List (Int × Int)} {zs : List Int} : hcode P T zs = 0 ↔ HOk P T zs := by
  unfold hcode
  constructor
  · intro h
    split at h
    · rename_i h1; exact absurd h h1
    · rename_i h1
      split at h
      · omega
      · rename_i h2
        split at h
        · rename_i h3
          exact ⟨tcode_zero.1 (by simpa using h1), by simpa using h2, fun k hk => (tmTo_iff zs _).1 h3 k (by omega)⟩
        · omega
  · intro h
    rw [if_neg (fun e => e (tcode_zero.2 h.tr)), if_neg (fun e => e h.len), if_pos ((tmTo_iff zs _).2 (fun k hk => h.rng k (by have := h.len; omega)))]
theorem tmTo_false {zs : List Int} {k n : Nat} (hk : k < n) (h : ¬ (0 ≤ zs[k]?.getD 0 ∧ zs[k]?.getD 0 ≤ 1000000)) : ¬ tmTo zs n = true := fun e => h ((tmTo_iff zs n).1 e k hk)
theorem HOk.tm {P : Int} {T : List (Int × Int)} {zs : List Int} (h : HOk P T zs) {k : Nat} (hk : k < T.length) : zs[k]?.getD 0 = (tm zs k : Nat) := by
  unfold M.tm
  have := h.rng k hk
  omega
theorem HOk.tmB {P : Int} {T : List (Int × Int)} {zs : List Int} (h : HOk P T zs) : ∀ k, k < T.length → M.tm zs k ≤ 1000000 := fun k hk => by
  unfold M.tm
  have := h.rng k hk
  omega
end M
set_option maxRecDepth 100000 in
set_option maxHeartbeats 2000000 in
theorem hcheck_ok (P : Int) (T : List (Int × Int)) (p : Option Addr) (n cap : Nat) (zs : List Int) (q : Option Addr) (m cap2 : Nat) (w : World) (hl : T.length = n) (hmax : n ≤ maxLen) (hc : HasE T p w) (hl2 : zs.length = m) (hmax2 : m ≤ maxLen) (hz : HasI zs q w) :
    Calls Tryd.prog 39 #[trV P p n cap, .slice q m cap2] w fun e w' => e = .returned (terr (M.hcode P T zs)) ∧ Below w.heap.size w w' := by
  have hB0 : Below w.heap.size w (w.alloc (.cells #[.int .i64 P, .slice p n cap] 24)) := (Below.refl _ _).alloc (Nat.le_refl _) _
  have hcb := hc.later hB0
  by_cases h1 : M.tcode P T ≠ 0
  · have e : M.hcode P T zs = M.tcode P T := if_pos h1
    rw [e]
    obtain ⟨c, hcc⟩ : ∃ c, M.tcode P T = c := ⟨_, rfl⟩
    rw [hcc] at h1 ⊢
    go_enter Tryd.func39, Tryd.ntmps39
    go_wp2_with fail
    refine (check_tr P T p n cap _ hl hmax hcb).mono ?_
    rw [hcc, terr_ne h1]
    rintro e w1 ⟨rfl, hB1⟩
    go_wp2_with fail
    go_ret
    exact ⟨by rw [terr_ne h1]; rfl, bel_on hB0 hB1⟩
  have h1 : M.tcode P T = 0 := Decidable.not_not.1 h1
  have hbox := tbox_new w P p n cap
  by_cases h2 : m ≠ n
  · have e : M.hcode P T zs = 3 := by unfold M.hcode; rw [if_neg (fun e => e h1), if_pos (by omega)]
    rw [e]
    have hmn : ((m : Int) != (n : Int)) = true := by simp; omega
    go_enter Tryd.func39, Tryd.ntmps39
    go_wp2_with fail
    refine (check_tr P T p n cap _ hl hmax hcb).mono ?_
    rw [h1, terr_zero]
    rintro e w1 ⟨rfl, hB1⟩
    have hk2 := (hbox.later hB1 (by simp)).events
    go_wp2_with fail
    go_ret
    exact ⟨rfl, bel_on hB0 hB1⟩
  obtain rfl : m = n := Decidable.not_not.1 h2
  clear h2
  have e : M.hcode P T zs = if M.tmTo zs m = true then 0 else 1 := by unfold M.hcode; rw [if_neg (fun e => e h1), if_neg (by omega), hl2]
  have HC : Hid (M.hcode P T zs = if M.tmTo zs m = true then 0 else 1) := e
  clear e
  unfold maxLen at hmax2
  go_enter Tryd.func39, Tryd.ntmps39
  go_wp2_with fail
  refine (check_tr P T p m cap _ hl hmax hcb).mono ?_
  rw [h1, terr_zero]
  rintro e w1 ⟨rfl, hB1⟩
  have hk2 := (hbox.later hB1 (by simp)).events
  have hB2 := bel_on hB0 hB1
  have hz2 := hz.later hB2
  clear hB0 hB1 hbox hcb hc hz
  go_wp2_with fail
  go_loopw [22] (fun v wr => ∃ i : Nat, v = .int .i64 i ∧ i ≤ m ∧ Hid (M.tmTo zs i = true) ∧ Below w1.heap.size w1 wr) (fun v _ => m - (intOf v).toNat)
  case atStart => exact ⟨0, rfl, Nat.zero_le _, show M.tmTo zs 0 = true from rfl, Below.refl _ _⟩
  case round =>
    clear hk2
    obtain ⟨i, rfl, hi, hz, hB⟩ := hrel
    by_cases hlt : i < m
    · obtain ⟨z, hze⟩ : ∃ z, zs[i]?.getD 0 = z := ⟨_, rfl⟩
      obtain ⟨b, off, rfl, hb, hc1⟩ := (hz2.later hB).at_ (show i < zs.length by omega) hze
      have HZ : Hid (zs[i]?.getD 0 = z) := hze
      clear hze
      by_cases hz0 : z < 0
      · have hne : ¬ M.tmTo zs m = true := M.tmTo_false hlt (by rw [HZ.out]; omega)
        have HE : Hid (M.hcode P T zs = 1) := by show _ = _; rw [HC.out, if_neg hne]
        have hd : decide (z < 0) = true := decide_eq_true hz0
        clear hne
        go_wp2_with fail
        go_ret
        exact ⟨by rw [HE.out]; rfl, bel_on hB2 hB⟩
      · by_cases hzm : z > 1000000
        · have hne : ¬ M.tmTo zs m = true := M.tmTo_false hlt (by rw [HZ.out]; omega)
          have HE : Hid (M.hcode P T zs = 1) := by show _ = _; rw [HC.out, if_neg hne]
          have hd : decide (z < 0) = false := decide_eq_false hz0
          have hd2 : decide (1000000 < z) = true := decide_eq_true hzm
          clear hne
          go_wp2_with fail
          go_ret
          exact ⟨by rw [HE.out]; rfl, bel_on hB2 hB⟩
        · have hd : decide (z < 0) = false := decide_eq_false hz0
          have hd2 : decide (1000000 < z) = false := decide_eq_false hzm
          have HN : Hid (M.tmTo zs (i + 1) = true) := by
            show M.tmTo zs (i + 1) = true
            simp only [M.tmTo, hz.out, Bool.true_and, HZ.out, decide_eq_true_eq]
            omega
          go_wp2_with fail
          go_roundw
          case rel => exact ⟨i + 1, by go_num, by omega, HN, hB⟩
          case measure => simp [intOf]; omega
    · obtain rfl : i = m := by omega
      go_wp2_with fail
      go_ret
      exact ⟨by rw [HC.out, if_pos hz.out]; rfl, bel_on hB2 hB⟩
end Go.Proofs.YtkojkiggdbffhaaDoor
