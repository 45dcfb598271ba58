/- Plain mathematics of vectors as cells: rows of five numbers, one behind the other; and memory in which some blocks stay. No program text is named. -/
import Derived.Test.YtnofgmbpkgnciaaDoorTbf
import Derived.Test.YtnofgmbpkgnciaaDoorStp
import Derived.Test.YtnofgmbpkgnciaaDoorOwnI
namespace Go.Proofs.YtnofgmbpkgnciaaDoor
open Go.RowKit
namespace M
/-- an event's vector -/
def vl (T : List (Int × Int)) (i : Nat) : List Nat := [vc T i 0, vc T i 1, vc T i 2, vc T i 3, vc T i 4]
/-- the vectors of the first i events, cell by cell, then noughts -/
def cvF (T : List (Int × Int)) (i x : Nat) : Nat := if x / 5 < i then vc T (x / 5) ((x % 5 : Nat) : Int) else 0
def cvl (T : List (Int × Int)) (n i : Nat) : List Nat := (List.range (n * 5)).map (cvF T i)
theorem cvl_length (T : List (Int × Int)) (n i : Nat) : (cvl T n i).length = n * 5 := by simp [cvl]
theorem cvl_row (T : List (Int × Int)) {n i x : Nat} (h : x < n * 5) : row (cvl T n i) x = cvF T i x := by
  unfold row cvl
  simp [h]
theorem cvl_at (T : List (Int × Int)) {n i k q : Nat} (h : k < i) (hk : k < n) (hq : q < 5) : row (cvl T n i) (k * 5 + q) = vc T k (q : Int) := by
  rw [cvl_row T (by omega)]
  unfold cvF
  rw [if_pos (by omega), show (k * 5 + q) / 5 = k by omega, show (k * 5 + q) % 5 = q by omega]
theorem cvl_zero (T : List (Int × Int)) (n : Nat) : cvl T n 0 = List.replicate (n * 5) 0 := by
  apply List.ext_getElem
  · simp [cvl]
  · intro x h1 h2
    simp [cvl, cvF]
/-- what all processes know of, cell by cell -/
def kvl (T : List (Int × Int)) (i : Nat) : List Nat := (List.range 25).map fun x => kv T ((x / 5 : Nat) : Int) ((x % 5 : Nat) : Int) i
theorem kvl_length (T : List (Int × Int)) (i : Nat) : (kvl T i).length = 25 := by simp [kvl]
theorem kvl_at (T : List (Int × Int)) (i : Nat) {a q : Nat} (ha : a < 5) (hq : q < 5) : row (kvl T i) (a * 5 + q) = kv T (a : Int) (q : Int) i := by
  have h : a * 5 + q < 25 := by omega
  unfold row kvl
  simp only [List.getElem?_map, List.getElem?_range h, Option.map_some, Option.getD_some]
  rw [show (a * 5 + q) / 5 = a by omega, show (a * 5 + q) % 5 = q by omega]
/-- five numbers from o on -/
def set5 (m : List Nat) (o v0 v1 v2 v3 v4 : Nat) : List Nat := ((((m.set o v0).set (o + 1) v1).set (o + 2) v2).set (o + 3) v3).set (o + 4) v4
theorem set5_length (m : List Nat) (o v0 v1 v2 v3 v4 : Nat) : (set5 m o v0 v1 v2 v3 v4).length = m.length := by simp [set5]
theorem set5_at {m : List Nat} {o v0 v1 v2 v3 v4 x : Nat} {V : List Nat} (hV : V = [v0, v1, v2, v3, v4]) (hx : x < m.length) : row (set5 m o v0 v1 v2 v3 v4) x = if o ≤ x ∧ x < o + 5 then row V (x - o) else row m x := by
  subst hV
  unfold set5
  rw [row_set, row_set, row_set, row_set, row_set]
  simp only [List.length_set, hx, and_true]
  by_cases h : o ≤ x ∧ x < o + 5
  · rw [if_pos h]
    obtain ⟨d, rfl⟩ : ∃ d, x = o + d := ⟨x - o, by omega⟩
    rw [show o + d - o = d by omega]
    have hd : d = 0 ∨ d = 1 ∨ d = 2 ∨ d = 3 ∨ d = 4 := by omega
    rcases hd with rfl | rfl | rfl | rfl | rfl <;> simp [row]
  · rw [if_neg h, if_neg (by omega), if_neg (by omega), if_neg (by omega), if_neg (by omega), if_neg (by omega)]
theorem vl_row (T : List (Int × Int)) (i : Nat) {q : Nat} (h : q < 5) : row (vl T i) q = vc T i (q : Int) := by
  unfold row vl
  have hd : q = 0 ∨ q = 1 ∨ q = 2 ∨ q = 3 ∨ q = 4 := by omega
  rcases hd with rfl | rfl | rfl | rfl | rfl <;> rfl
theorem ext_row {a b : List Nat} (hl : a.length = b.length) (h : ∀ x, x < a.length → row a x = row b x) : a = b := by
  apply List.ext_getElem hl
  intro x h1 h2
  have := h x h1
  simpa [row, h1, h2] using this
theorem cvl_set {T : List (Int × Int)} {n i v0 v1 v2 v3 v4 : Nat} (hV : vl T i = [v0, v1, v2, v3, v4]) : set5 (cvl T n i) (i * 5) v0 v1 v2 v3 v4 = cvl T n (i + 1) := by
  apply ext_row
  · rw [set5_length, cvl_length, cvl_length]
  · intro x hx
    rw [set5_length] at hx
    rw [set5_at hV hx]
    rw [cvl_length] at hx
    rw [cvl_row T hx, cvl_row T hx]
    unfold cvF
    by_cases h : i * 5 ≤ x ∧ x < i * 5 + 5
    · rw [if_pos h, if_pos (by omega), show x / 5 = i by omega, show x - i * 5 = x % 5 by omega, vl_row T i (by omega)]
    · rw [if_neg h]
      by_cases h2 : x / 5 < i
      · rw [if_pos h2, if_pos (by omega)]
      · rw [if_neg h2, if_neg (by omega)]
theorem kvl_set {T : List (Int × Int)} {i a v0 v1 v2 v3 v4 : Nat} (ha : pr T i = (a : Nat)) (hV : vl T i = [v0, v1, v2, v3, v4]) : set5 (kvl T i) (a * 5) v0 v1 v2 v3 v4 = kvl T (i + 1) := by
  apply ext_row
  · rw [set5_length, kvl_length, kvl_length]
  · intro x hx
    rw [set5_length] at hx
    rw [set5_at hV hx]
    rw [kvl_length] at hx
    have e : x = x / 5 * 5 + x % 5 := by omega
    have h1 : row (kvl T (i + 1)) x = kv T ((x / 5 : Nat) : Int) ((x % 5 : Nat) : Int) (i + 1) := by
      have := kvl_at T (i + 1) (a := x / 5) (q := x % 5) (by omega) (by omega)
      rw [← e] at this; exact this
    have h2 : row (kvl T i) x = kv T ((x / 5 : Nat) : Int) ((x % 5 : Nat) : Int) i := by
      have := kvl_at T i (a := x / 5) (q := x % 5) (by omega) (by omega)
      rw [← e] at this; exact this
    rw [h1, h2, kv_succ, ha]
    by_cases h : a * 5 ≤ x ∧ x < a * 5 + 5
    · rw [if_pos h, if_pos (by omega), show x - a * 5 = x % 5 by omega, vl_row T i (by omega)]
    · rw [if_neg h, if_neg (by omega)]
/-- one more at place a -/
theorem inc_set {u0 u1 u2 u3 u4 v0 v1 v2 v3 v4 a x : Nat} (ha : a < 5) (hx : row [u0, u1, u2, u3, u4] a + 1 = x) (h0 : v0 = u0 + if a = 0 then 1 else 0) (h1 : v1 = u1 + if a = 1 then 1 else 0) (h2 : v2 = u2 + if a = 2 then 1 else 0) (h3 : v3 = u3 + if a = 3 then 1 else 0) (h4 : v4 = u4 + if a = 4 then 1 else 0) :
    [u0, u1, u2, u3, u4].set a x = [v0, v1, v2, v3, v4] := by
  have hd : a = 0 ∨ a = 1 ∨ a = 2 ∨ a = 3 ∨ a = 4 := by omega
  rcases hd with rfl | rfl | rfl | rfl | rfl <;> simp_all [row]
/-- the vector that is told -/
def vcs (T : List (Int × Int)) (j P : Nat) : List Nat := (vl T j).take P
theorem vcs_length (T : List (Int × Int)) (j : Nat) {P : Nat} (h : P ≤ 5) : (vcs T j P).length = P := by simp [vcs, vl]; omega
theorem vcs_row (T : List (Int × Int)) (j : Nat) {P q : Nat} (h : P ≤ 5) (hq : q < P) : row (vcs T j P) q = vc T j (q : Int) := by
  rw [← vl_row T j (by omega)]
  unfold row vcs
  rw [List.getElem?_take, if_pos hq]
end M
/-- From the world w on, the blocks from N on that are there stay as they are. -/
structure Kp (N : Nat) (w w' : World) : Prop where
  size : w.heap.size ≤ w'.heap.size
  same : ∀ g, N ≤ g → g < w.heap.size → w'.heap[g]? = w.heap[g]?
theorem Kp.refl (N : Nat) (w : World) : Kp N w w := ⟨Nat.le_refl _, fun _ _ _ => rfl⟩
theorem Kp.below {N : Nat} {w v u : World} (h : Kp N w v) (hb : Below v.heap.size v u) : Kp N w u :=
  ⟨Nat.le_trans h.size hb.size, fun g h1 h2 => (hb.block g (by have := h.size; omega)).trans (h.same g h1 h2)⟩
theorem Kp.set {N : Nat} {w v : World} (h : Kp N w v) {a : Addr} (ha : a.block < N ∨ w.heap.size ≤ a.block) (x : Value) : Kp N w (v.setCell a x) :=
  ⟨by simpa using h.size, fun g h1 h2 => (Below.heap_setCell v a x g (by omega)).trans (h.same g h1 h2)⟩
theorem owns_kp {w w' : World} {N n size : Nat} {e : TypeId} {v : Value} {xs : List Value} (h : w.ownsRow N e size v n xs) (hb : Kp N w w') : w'.ownsRow N e size v n xs := by
  refine ⟨h.1, ?_⟩
  rcases h.2 with h2 | ⟨g, cap, cur, h1, h2, h3, h4⟩
  · exact .inl h2
  · exact .inr ⟨g, cap, cur, h1, h2, (hb.same g h2 (Array.getElem?_eq_some_iff.1 h3).1).trans h3, h4⟩
theorem owns_more {w : World} {N M n size : Nat} {e : TypeId} {v : Value} {xs : List Value} (h : w.ownsRow M e size v n xs) (hN : N ≤ M) : w.ownsRow N e size v n xs := by
  refine ⟨h.1, ?_⟩
  rcases h.2 with h2 | ⟨g, cap, cur, h1, h2, h3, h4⟩
  · exact .inl h2
  · exact .inr ⟨g, cap, cur, h1, by omega, h3, h4⟩
end Go.Proofs.YtnofgmbpkgnciaaDoor
