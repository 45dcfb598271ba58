/- Vectors of a trace (package stamp, Vectors), at whatever numbers; what lay in memory lies as it lay. -/
import Derived.Test.YtnofgmbpkgnciaaDoorSvm
import Derived.Test.YtnofgmbpkgnciaaDoorSjn
import Derived.Test.YtnofgmbpkgnciaaDoorScl
namespace Go.Proofs.YtnofgmbpkgnciaaDoor
open Go.RowKit

set_option maxHeartbeats 400000 in
theorem vectors_err (P : Int) (T : List (Int × Int)) (p : Option Addr) (n cap c : Nat) (w : World) (hl : T.length = n) (hmax : n ≤ maxLen) (hc : HasE T p w) (h0 : M.tcode P T = c) (hne : c ≠ 0) :
    Calls Tryd.prog 19 #[trV P p n cap] w fun e w' => e = .returned (.tuple #[.slice none 0 0, .iface 51 (.int .i64 (c : Nat))]) ∧ Below w.heap.size w w' := by
  have hB0 : Below w.heap.size w (w.alloc (.cells #[.int .i64 P, .slice p n cap] 24)) := (Below.refl _ _).alloc (Nat.le_refl _) _
  have hcb := hc.later hB0
  go_enter Tryd.func19, Tryd.ntmps19
  go_wp2_with fail
  refine (check_tr P T p n cap _ hl hmax hcb).mono ?_
  rw [h0, terr_ne hne]
  rintro e w1 ⟨rfl, hB1⟩
  go_wp2_with fail
  go_ret2
  exact ⟨rfl, bel_on hB0 hB1⟩
theorem infoSl : (Tryd.prog.info? 30).map (fun i => (i.zero, i.size, i.bytes)) = some (some (.slice none 0 0), 1, 24) := by kernel_rfl
theorem infoVec : (Tryd.prog.info? 59).map (fun i => (i.zero, i.size, i.bytes)) = some (some (.agg #[.int .i64 0, .int .i64 0, .int .i64 0, .int .i64 0, .int .i64 0]), 5, 40) := by kernel_rfl
theorem made_vecs (n : Nat) : madeCells #[.int .i64 0, .int .i64 0, .int .i64 0, .int .i64 0, .int .i64 0] n = arr (List.replicate n 0) := by
  apply Array.ext_getElem?
  intro k
  by_cases h : k < n
  · rw [arr_get _ _ (by simp [h])]
    have h2 : k % 5 = 0 ∨ k % 5 = 1 ∨ k % 5 = 2 ∨ k % 5 = 3 ∨ k % 5 = 4 := by omega
    rcases h2 with h2 | h2 | h2 | h2 | h2 <;> simp [madeCells, h, M.row, h2]
  · rw [Array.getElem?_eq_none (by simp [madeCells]; omega), Array.getElem?_eq_none (by rw [arr_size]; simp; omega)]
theorem make_vecs (n : Nat) (hn : n ≤ 24) (w : World) : (Instr.makeSlice 58 (.int .i64 (n : Int)) (.int .i64 (n : Int))).run Tryd.prog w = .ok (.slice (some ⟨w.heap.size, 0, none⟩) n n) (w.alloc (.cells (madeCells #[.int .i64 0, .int .i64 0, .int .i64 0, .int .i64 0, .int .i64 0] (n * 5)) 59)) := by
  obtain ⟨i, hi, hzz⟩ := Option.map_eq_some_iff.1 infoVec
  simp only [Prod.mk.injEq] at hzz
  obtain ⟨hz, hs, hb⟩ := hzz
  have := run_make (P := Tryd.prog) w 58 59 i _ Tryd.underlying58 hi hz .i64 .i64 n n (by omega) (Int.le_refl _) (by rw [hb]; omega) (by omega)
  rw [hs] at this
  simp only [Int.toNat_natCast] at this
  exact this
theorem cell_of_heap {w w' : World} {p : Addr} (h : w'.heap[p.block]? = w.heap[p.block]?) : w'.cell? p = w.cell? p := by
  unfold World.cell?
  rw [h]
theorem row5_le {u0 u1 u2 u3 u4 a c : Nat} (ha : a < 5) (h0 : u0 ≤ c) (h1 : u1 ≤ c) (h2 : u2 ≤ c) (h3 : u3 ≤ c) (h4 : u4 ≤ c) : M.row [u0, u1, u2, u3, u4] a ≤ c := by
  have hd : a = 0 ∨ a = 1 ∨ a = 2 ∨ a = 3 ∨ a = 4 := by omega
  rcases hd with rfl | rfl | rfl | rfl | rfl <;> assumption
theorem heap_set_self {W : World} {b : Nat} {cs : Array Value} {t : TypeId} {f : Nat × Nat} (h : W.heap[b]? = some (.cells cs t f)) (i : Nat) (v : Value) : (W.setCell ⟨b, i, none⟩ v).heap[b]? = some (.cells (cs.setIfInBounds i v) t f) := by
  obtain ⟨hlt, hk⟩ := Array.getElem?_eq_some_iff.1 h
  show (W.heap.modify b _)[b]? = _
  rw [Array.getElem?_eq_getElem (by rw [Array.size_modify]; exact hlt), Array.getElem_modify_self, hk]
  simp
/-- The rows of the first i events lie in block A, each in a row of its own from block N on. -/
def VRows (T : List (Int × Int)) (P n i N A : Nat) (w : World) : Prop := ∃ cs : Array Value, w.heap[A]? = some (.cells cs 30 (0, 0)) ∧ cs.size = n ∧ ∀ j, j < i → ∃ v, cs[j]? = some v ∧ w.ownsRow N 3 1 v P (icells (M.vcs T j P))
theorem VRows.lt {T : List (Int × Int)} {P n i N A : Nat} {w : World} (h : VRows T P n i N A w) : A < w.heap.size := by
  obtain ⟨cs, h1, _⟩ := h
  exact (Array.getElem?_eq_some_iff.1 h1).1
theorem VRows.kept {T : List (Int × Int)} {P n i N A : Nat} {w w' : World} (h : VRows T P n i N A w) (hA : w'.heap[A]? = w.heap[A]?) (hk : Kp N w w') : VRows T P n i N A w' := by
  obtain ⟨cs, h1, h2, h3⟩ := h
  refine ⟨cs, hA.trans h1, h2, fun j hj => ?_⟩
  obtain ⟨v, a, b⟩ := h3 j hj
  exact ⟨v, a, owns_kp b hk⟩
theorem VRows.cell {T : List (Int × Int)} {P n i N A : Nat} {w : World} (h : VRows T P n i N A w) {k : Nat} (hk : k < n) : ∃ v, w.cell? ⟨A, k, none⟩ = some v ∧ w.frozen? ⟨A, k, none⟩ = false := by
  obtain ⟨cs, h1, h2, _⟩ := h
  refine ⟨cs[k]'(by omega), ?_, ?_⟩
  · simp [World.cell?, h1, h2, hk]
  · simp [World.frozen?, h1]
theorem VRows.put {T : List (Int × Int)} {P n i N A : Nat} {w : World} {v : Value} (h : VRows T P n i N A w) (hi : i < n) (hAN : A < N) (hv : w.ownsRow N 3 1 v P (icells (M.vcs T i P))) : VRows T P n (i + 1) N A (w.setCell ⟨A, i, none⟩ v) := by
  have hk : Kp N w (w.setCell ⟨A, i, none⟩ v) := (Kp.refl N w).set (.inl hAN) v
  obtain ⟨cs, h1, h2, h3⟩ := h
  refine ⟨cs.setIfInBounds i v, heap_set_self h1 i v, by simpa using h2, fun j hj => ?_⟩
  by_cases e : j = i
  · subst e
    exact ⟨v, by simp [h2, hi], owns_kp hv hk⟩
  · obtain ⟨u, a, b⟩ := h3 j (by omega)
    exact ⟨u, by rw [Array.getElem?_setIfInBounds_ne (by omega)]; exact a, owns_kp b hk⟩
end Go.Proofs.YtnofgmbpkgnciaaDoor
