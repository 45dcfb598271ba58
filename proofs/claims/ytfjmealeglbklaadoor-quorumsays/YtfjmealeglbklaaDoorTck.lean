/- What is wrong with a trace (package trace, Check), at whatever numbers; what lay in memory lies as it lay. -/
import Derived.Test.YtfjmealeglbklaaDoorEvs
namespace Go.Proofs.YtfjmealeglbklaaDoor
open Go.RowKit

/-- Block B holds a trace's number of processes, and its slice of events. -/
structure TBox (w : World) (B : Nat) (P : Int) (p : Option Addr) (n cap : Nat) : Prop where
  lt : B < w.heap.size
  procs : w.cell? ⟨B, 0, none⟩ = some (.int .i64 P)
  events : w.cell? ⟨B, 1, none⟩ = some (.slice p n cap)
theorem TBox.later {w w' : World} {B N : Nat} {P : Int} {p : Option Addr} {n cap : Nat} (h : TBox w B P p n cap) (hb : Below N w w') (hN : B < N) : TBox w' B P p n cap :=
  ⟨by have := hb.size; have := h.lt; omega, (hb.cell (p := ⟨B, 0, none⟩) hN).trans h.procs, (hb.cell (p := ⟨B, 1, none⟩) hN).trans h.events⟩
theorem bel_al {w w' : World} (h : Below w.heap.size w w') (o : Obj) : Below w.heap.size w (w'.alloc o) := h.alloc h.size o
theorem below_drewN (w : World) (k : Nat) : Below w.heap.size w (w.drewN k) := by
  induction k with
  | zero => exact Below.refl _ _
  | succ k ih => exact ih.drew
theorem bel_drN {w w' : World} (h : Below w.heap.size w w') (k : Nat) : Below w.heap.size w (w'.drewN k) := h.trans ((below_drewN _ _).mono h.size)
theorem bel_on {w v u : World} (h : Below w.heap.size w v) (h2 : Below v.heap.size v u) : Below w.heap.size w u := h.trans (h2.mono h.size)

theorem ev_range {P : Int} {T : List (Int × Int)} {i n : Nat} {a : Int} (hz : M.evTo P T i = 0) (hi : i < n) (ha : M.pr T i = a) (h : ¬ (0 ≤ a ∧ a < P)) : M.evTo P T n = 1 := by
  have e : M.evC P T i = 1 := by unfold M.evC; rw [ha, if_neg (by omega)]
  rw [M.evTo_first hz hi (by rw [e]; omega), e]
theorem ev_range2 {P : Int} {T : List (Int × Int)} {i n : Nat} {f : Int} (hz : M.evTo P T i = 0) (hi : i < n) (hf : M.fm T i = f) (h1 : ¬ f = -1) (h : ¬ (0 ≤ f ∧ f < i)) : M.evTo P T n = 1 := by
  have e : M.evC P T i = 1 := by unfold M.evC; rw [hf, if_neg (by omega)]
  rw [M.evTo_first hz hi (by rw [e]; omega), e]
theorem ev_clash {P : Int} {T : List (Int × Int)} {i n j : Nat} {a b : Int} (hz : M.evTo P T i = 0) (hi : i < n) (ha : M.pr T i = a) (h : 0 ≤ a ∧ a < P) (hf : M.fm T i = (j : Nat)) (hj : j < i) (hb : M.pr T j = b) (e : b = a) : M.evTo P T n = 6 := by
  have e : M.evC P T i = 6 := by unfold M.evC; rw [ha, hf, if_pos (by omega), if_pos ⟨by omega, by rw [Int.toNat_natCast, hb, e]⟩]
  rw [M.evTo_first hz hi (by rw [e]; omega), e]
theorem ev_next0 {P : Int} {T : List (Int × Int)} {i : Nat} {a f : Int} (hz : M.evTo P T i = 0) (ha : M.pr T i = a) (h : 0 ≤ a ∧ a < P) (hf : M.fm T i = f) (e : f = -1) : M.evTo P T (i + 1) = 0 := by
  simp only [M.evTo]
  rw [if_pos hz]
  unfold M.evC; rw [ha, hf, if_pos (by omega), if_neg (by omega)]
theorem ev_next {P : Int} {T : List (Int × Int)} {i j : Nat} {a b : Int} (hz : M.evTo P T i = 0) (ha : M.pr T i = a) (h : 0 ≤ a ∧ a < P) (hf : M.fm T i = (j : Nat)) (hj : j < i) (hb : M.pr T j = b) (e : ¬ b = a) : M.evTo P T (i + 1) = 0 := by
  simp only [M.evTo]
  rw [if_pos hz]
  unfold M.evC; rw [ha, hf, if_pos (by omega), if_neg (fun h => e (by have := h.2; rw [Int.toNat_natCast, hb] at this; exact this))]
end Go.Proofs.YtfjmealeglbklaaDoor
