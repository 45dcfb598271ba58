/- A table in memory (package table): one block; what a store does to it. No walk. -/
import Derived.Test.YtelonimdpeenaaaDoorFrm
import Derived.Test.YtelonimdpeenaaaDoorTbm
namespace Go.Proofs.YtelonimdpeenaaaDoor
open Go.RowKit
namespace M
/-- one number set anew -/
def put3 (k : Kt) (a b c v : Nat) : Kt := fun x y z => if x = a ∧ y = b ∧ z = c then v else k x y z
/-- a row of numbers set anew -/
def put2 (k : Kt) (a b : Nat) (f : Nat → Nat) : Kt := fun x y z => if x = a ∧ y = b then f z else k x y z
theorem put3_wr (k : Kt) (p : Nat) : put3 k p p p (k p p p + 1) = wrK k p := by
  funext x y z
  unfold put3 wrK
  by_cases h : x = p ∧ y = p ∧ z = p
  · rw [if_pos h, if_pos h, h.1, h.2.1, h.2.2]
  · rw [if_neg h, if_neg h]
theorem put2_tl1 (k : Kt) (f t : Nat) : put2 k t t (fun w => Nat.max (k t t w) (k f f w)) = tlJ k f t 0 := by rw [tlJ_zero]; rfl
theorem put2_step (k : Kt) (f t j : Nat) : put2 (tlJ k f t j) t j (fun w => Nat.max (tlJ k f t j t j w) (k f j w)) = tlJ k f t (j + 1) := by rw [tlJ_step]; rfl
end M
/-- Cell i of a table's block: how many processes; then by who, of whom, of which. -/
def tbF (n : Nat) (k : M.Kt) (i : Nat) : Value := if i = 0 then .int .i64 (n : Nat) else .int .i64 (k ((i - 1) / 25) ((i - 1) / 5 % 5) ((i - 1) % 5) : Nat)
/-- A table of n processes. -/
abbrev TV (S n : Nat) (k : M.Kt) (w : World) : Prop := w.rowIs S 47 126 (tbF n k)
theorem tbF_at (n : Nat) (k : M.Kt) (a : Nat) {b c : Nat} (hb : b < 5) (hc : c < 5) : tbF n k (1 + a * 25 + b * 5 + c) = .int .i64 (k a b c : Nat) := by
  unfold tbF
  rw [if_neg (by omega), show (1 + a * 25 + b * 5 + c - 1) / 25 = a by omega, show (1 + a * 25 + b * 5 + c - 1) / 5 % 5 = b by omega, show (1 + a * 25 + b * 5 + c - 1) % 5 = c by omega]
section
variable {S n : Nat} {k : M.Kt} {w : World}
theorem TV.procs (h : TV S n k w) : w.cell? ⟨S, 0, none⟩ = some (.int .i64 (n : Nat)) := h.cell (i := 0) (by omega)
theorem TV.know (h : TV S n k w) {a b c : Nat} (ha : a < 5) (hb : b < 5) (hc : c < 5) : w.cell? ⟨S, 1 + a * 25 + b * 5 + c, none⟩ = some (.int .i64 (k a b c : Nat)) := by
  rw [World.rowIs.cell h (i := 1 + a * 25 + b * 5 + c) (by omega), tbF_at n k a hb hc]
theorem TV.below {w' : World} (h : TV S n k w) (hb : Below w.heap.size w w') : TV S n k w' := World.rowIs.of_block h (hb.block _ (World.rowIs.lt h))
theorem TV.frm {w' : World} {O : Nat → Prop} (h : TV S n k w) (hf : Frm O w w') (hO : ¬ O S) : TV S n k w' := World.rowIs.of_block h (hf.block _ (World.rowIs.lt h) hO)
theorem TV.congr {k' : M.Kt} (h : TV S n k w) (e : ∀ a b c, a < 5 → b < 5 → c < 5 → k a b c = k' a b c) : TV S n k' w := World.rowIs.congr h fun i hi => by
  unfold tbF
  by_cases h0 : i = 0
  · rw [if_pos h0, if_pos h0]
  · rw [if_neg h0, if_neg h0, e _ _ _ (by omega) (Nat.mod_lt _ (by omega)) (Nat.mod_lt _ (by omega))]
theorem TV.put {a b c : Nat} (h : TV S n k w) (ha : a < 5) (hb : b < 5) (hc : c < 5) (v : Nat) : TV S n (M.put3 k a b c v) (w.setCell ⟨S, 1 + a * 25 + b * 5 + c, none⟩ (.int .i64 (v : Nat))) := World.rowIs.congr (World.rowIs.set h _ _) fun i hi => by
  unfold tbF M.put3
  by_cases h0 : i = 0
  · rw [if_neg (by omega), if_pos h0, if_pos h0]
  · rw [if_neg h0, if_neg h0]
    by_cases e : i = 1 + a * 25 + b * 5 + c
    · rw [if_pos e, if_pos (by omega)]
    · rw [if_neg e, if_neg (by omega)]
end
/-- five numbers as a value -/
abbrev vecK (f : Nat → Nat) : Value := .agg #[.int .i64 (f 0 : Nat), .int .i64 (f 1 : Nat), .int .i64 (f 2 : Nat), .int .i64 (f 3 : Nat), .int .i64 (f 4 : Nat)]
/-- the world behind a row's store -/
def rowSet (w : World) (S o : Nat) (f : Nat → Nat) : World := ((((w.setCell ⟨S, o, none⟩ (.int .i64 (f 0 : Nat))).setCell ⟨S, o + 1, none⟩ (.int .i64 (f 1 : Nat))).setCell ⟨S, o + 2, none⟩ (.int .i64 (f 2 : Nat))).setCell ⟨S, o + 3, none⟩ (.int .i64 (f 3 : Nat))).setCell ⟨S, o + 4, none⟩ (.int .i64 (f 4 : Nat))
theorem TV.row {S n : Nat} {k : M.Kt} {w : World} {a b : Nat} (h : TV S n k w) (ha : a < 5) (hb : b < 5) (f : Nat → Nat) : TV S n (M.put2 k a b f) (rowSet w S (1 + a * 25 + b * 5) f) := by
  have h5 := ((((h.put ha hb (c := 0) (by omega) (f 0)).put ha hb (c := 1) (by omega) (f 1)).put ha hb (c := 2) (by omega) (f 2)).put ha hb (c := 3) (by omega) (f 3)).put ha hb (c := 4) (by omega) (f 4)
  refine TV.congr (w := rowSet w S (1 + a * 25 + b * 5) f) h5 (fun x y z hx hy hz => ?_)
  unfold M.put3 M.put2
  by_cases e : x = a ∧ y = b
  · obtain ⟨rfl, rfl⟩ := e
    rcases z with _ | _ | _ | _ | _ | z <;> first | omega | simp
  · rw [if_neg e, if_neg (fun q => e ⟨q.1, q.2.1⟩), if_neg (fun q => e ⟨q.1, q.2.1⟩), if_neg (fun q => e ⟨q.1, q.2.1⟩), if_neg (fun q => e ⟨q.1, q.2.1⟩), if_neg (fun q => e ⟨q.1, q.2.1⟩)]
theorem frm_row {O : Nat → Prop} {w w' : World} {S : Nat} (h : Frm O w w') (hS : O S) (o : Nat) (f : Nat → Nat) : Frm O w (rowSet w' S o f) :=
  ((((h.set (p := ⟨S, o, none⟩) hS _).set (p := ⟨S, o + 1, none⟩) hS _).set (p := ⟨S, o + 2, none⟩) hS _).set (p := ⟨S, o + 3, none⟩) hS _).set (p := ⟨S, o + 4, none⟩) hS _
end Go.Proofs.YtelonimdpeenaaaDoor
