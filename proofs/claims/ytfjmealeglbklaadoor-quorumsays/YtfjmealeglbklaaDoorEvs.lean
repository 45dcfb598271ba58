/- Traces in memory; whether an event heard of one (package trace, heard), and what is wrong with a trace (package trace, Check), at whatever numbers; what lay in memory lies as it lay. -/
import Derived.Test.YtfjmealeglbklaaDoorTrc
import Derived.Test.YtfjmealeglbklaaDoorBits
import Derived.Test.YtfjmealeglbklaaDoorKit
import Derived.LoopTactic
import Derived.Below
import Derived.BigQuiet
import Derived.Deep.QuietTactic
import Derived.Deep.RegionHeld3
namespace Go.Proofs.YtfjmealeglbklaaDoor
open Go.RowKit

/-- The slice's address p leads to the events T. -/
def HasE (T : List (Int × Int)) (p : Option Addr) (w : World) : Prop := ∀ j, j < T.length → ∃ b off, p = some ⟨b, off, none⟩ ∧ b < w.heap.size ∧ w.cell? ⟨b, off + j * 2, none⟩ = some (.int .i64 (M.pr T j)) ∧ w.cell? ⟨b, off + j * 2 + 1, none⟩ = some (.int .i64 (M.fm T j))
theorem HasE.later {T : List (Int × Int)} {p : Option Addr} {w w' : World} (h : HasE T p w) (hb : Below w.heap.size w w') : HasE T p w' := fun j hj => by
  obtain ⟨b, off, h1, h2, h3, h4⟩ := h j hj
  exact ⟨b, off, h1, by have := hb.size; omega, (hb.cell (p := ⟨b, off + j * 2, none⟩) h2).trans h3, (hb.cell (p := ⟨b, off + j * 2 + 1, none⟩) h2).trans h4⟩
/-- A trace as a value. -/
abbrev trV (P : Int) (p : Option Addr) (n cap : Nat) : Value := .agg #[.int .i64 P, .slice p n cap]
/-- What is told: nothing, or an error. -/
def terr (c : Nat) : Value := if c = 0 then .nilIface else .iface 53 (.int .i64 (c : Nat))
theorem terr_zero : terr 0 = .nilIface := rfl
theorem terr_ne {c : Nat} (h : c ≠ 0) : terr c = .iface 53 (.int .i64 (c : Nat)) := if_neg h
/-- Is a number one of so many? -/
def thingZ (z n : Int) : Bool := decide (0 ≤ z ∧ z < n)
theorem thingZ_true {z n : Int} (h0 : 0 ≤ z) (h1 : z < n) : thingZ z n = true := decide_eq_true ⟨h0, h1⟩
theorem thingZ_false {z n : Int} (h : ¬ (0 ≤ z ∧ z < n)) : thingZ z n = false := decide_eq_false h
end Go.Proofs.YtfjmealeglbklaaDoor
