/- Traces in memory; whether an event heard of one (package trace, heard), and what is wrong with a trace (package trace, Check), at whatever numbers; what lay in memory lies as it lay. What is wrong with a trace (package trace, Check), at whatever numbers; what lay in memory lies as it lay. What happened before each event of a trace (package trace, Before), at whatever numbers; what lay in memory lies as it lay. Two lists of numbers that are the same are told to be so (package whensteadsame, Ints); what lay in memory lies as it lay. -/
import Derived.Test.YtajiichehffaaaaDoorBMa
import Derived.Test.YtajiichehffaaaaDoorBits
import Derived.Test.YtajiichehffaaaaDoorKit
import Derived.LoopTactic
import Derived.Below
import Derived.BigQuiet
import Derived.Deep.QuietTactic
import Derived.Deep.RegionHeld3
import Derived.Test.YtajiichehffaaaaDoorBMb
namespace Go.Proofs.YtajiichehffaaaaDoor
open Go.RowKit

/-- The slice's address p leads to the events T. -/
def HasE (T : List (Int × Int)) (p : Option Addr) (w : World) : Prop := ∀ j, j < T.length → ∃ b off, p = some ⟨b, off, none⟩ ∧ b < w.heap.size ∧ w.cell? ⟨b, off + j * 2, none⟩ = some (.int .i64 (M.pr T j)) ∧ w.cell? ⟨b, off + j * 2 + 1, none⟩ = some (.int .i64 (M.fm T j))
theorem HasE.later {T : List (Int × Int)} {p : Option Addr} {w w' : World} (h : HasE T p w) (hb : Below w.heap.size w w') : HasE T p w' := fun j hj => by
  obtain ⟨b, off, h1, h2, h3, h4⟩ := h j hj
  exact ⟨b, off, h1, by have := hb.size; omega, (hb.cell (p := ⟨b, off + j * 2, none⟩) h2).trans h3, (hb.cell (p := ⟨b, off + j * 2 + 1, none⟩) h2).trans h4⟩
/-- A trace as a value. -/
abbrev trV (P : Int) (p : Option Addr) (n cap : Nat) : Value := .agg #[.int .i64 P, .slice p n cap]
/-- What is told: nothing, or an error. -/
def terr (c : Nat) : Value := if c = 0 then .nilIface else .iface 59 (.int .i64 (c : Nat))
theorem terr_zero : terr 0 = .nilIface := rfl
theorem terr_ne {c : Nat} (h : c ≠ 0) : terr c = .iface 59 (.int .i64 (c : Nat)) := if_neg h
/-- Is a number one of so many? -/
def thingZ (z n : Int) : Bool := decide (0 ≤ z ∧ z < n)
theorem thingZ_true {z n : Int} (h0 : 0 ≤ z) (h1 : z < n) : thingZ z n = true := decide_eq_true ⟨h0, h1⟩
theorem thingZ_false {z n : Int} (h : ¬ (0 ≤ z ∧ z < n)) : thingZ z n = false := decide_eq_false h
set_option maxHeartbeats 400000 in
theorem isThing_z (z n : Int) (w : World) :
    Calls Tryd.prog 40 #[.int .i64 z, .int .i64 n] w fun e w' => e = .returned (.bool (thingZ z n)) ∧ w = w' := by
  by_cases hz : z < 0
  · go_enter Tryd.func40, Tryd.ntmps40
    go_wp2
    go_ret
    exact ⟨bool_ret (thingZ_false (fun h => by omega)).symm, rfl⟩
  · have hz' : 0 ≤ z := by omega
    go_enter Tryd.func40, Tryd.ntmps40
    go_wp2
    go_ret
    exact ⟨bool_ret (by unfold thingZ; rw [Bool.eq_iff_iff]; simp [hz']), rfl⟩
end Go.Proofs.YtajiichehffaaaaDoor
namespace Go.Proofs.YtajiichehffaaaaDoor
open Go.RowKit

/-- Block B holds a trace's number of processes, and its slice of events. -/
structure TBox (w : World) (B : Nat) (P : Int) (p : Option Addr) (n cap : Nat) : Prop where
  lt : B < w.heap.size
  procs : w.cell? ⟨B, 0, none⟩ = some (.int .i64 P)
  events : w.cell? ⟨B, 1, none⟩ = some (.slice p n cap)
theorem TBox.later {w w' : World} {B N : Nat} {P : Int} {p : Option Addr} {n cap : Nat} (h : TBox w B P p n cap) (hb : Below N w w') (hN : B < N) : TBox w' B P p n cap :=
  ⟨by have := hb.size; have := h.lt; omega, (hb.cell (p := ⟨B, 0, none⟩) hN).trans h.procs, (hb.cell (p := ⟨B, 1, none⟩) hN).trans h.events⟩
theorem bel_al {w w' : World} (h : Below w.heap.size w w') (o : Obj) : Below w.heap.size w (w'.alloc o) := h.alloc h.size o
theorem below_drewN (w : World) (k : Nat) : Below w.heap.size w (w.drewN k) := by
  induction k with
  | zero => exact Below.refl _ _
  | succ k ih => exact ih.drew
theorem bel_drN {w w' : World} (h : Below w.heap.size w w') (k : Nat) : Below w.heap.size w (w'.drewN k) := h.trans ((below_drewN _ _).mono h.size)
theorem bel_on {w v u : World} (h : Below w.heap.size w v) (h2 : Below v.heap.size v u) : Below w.heap.size w u := h.trans (h2.mono h.size)

theorem ev_range {P : Int} {T : List (Int × Int)} {i n : Nat} {a : Int} (hz : M.evTo P T i = 0) (hi : i < n) (ha : M.pr T i = a) (h : ¬ (0 ≤ a ∧ a < P)) : M.evTo P T n = 1 := by
  have e : M.evC P T i = 1 := by unfold M.evC; rw [ha, if_neg (by omega)]
  rw [M.evTo_first hz hi (by rw [e]; omega), e]
theorem ev_range2 {P : Int} {T : List (Int × Int)} {i n : Nat} {f : Int} (hz : M.evTo P T i = 0) (hi : i < n) (hf : M.fm T i = f) (h1 : ¬ f = -1) (h : ¬ (0 ≤ f ∧ f < i)) : M.evTo P T n = 1 := by
  have e : M.evC P T i = 1 := by unfold M.evC; rw [hf, if_neg (by omega)]
  rw [M.evTo_first hz hi (by rw [e]; omega), e]
theorem ev_clash {P : Int} {T : List (Int × Int)} {i n j : Nat} {a b : Int} (hz : M.evTo P T i = 0) (hi : i < n) (ha : M.pr T i = a) (h : 0 ≤ a ∧ a < P) (hf : M.fm T i = (j : Nat)) (hj : j < i) (hb : M.pr T j = b) (e : b = a) : M.evTo P T n = 6 := by
  have e : M.evC P T i = 6 := by unfold M.evC; rw [ha, hf, if_pos (by omega), if_pos ⟨by omega, by rw [Int.toNat_natCast, hb, e]⟩]
  rw [M.evTo_first hz hi (by rw [e]; omega), e]
theorem ev_next0 {P : Int} {T : List (Int × Int)} {i : Nat} {a f : Int} (hz : M.evTo P T i = 0) (ha : M.pr T i = a) (h : 0 ≤ a ∧ a < P) (hf : M.fm T i = f) (e : f = -1) : M.evTo P T (i + 1) = 0 := by
  simp only [M.evTo]
  rw [if_pos hz]
  unfold M.evC; rw [ha, hf, if_pos (by omega), if_neg (by omega)]
theorem ev_next {P : Int} {T : List (Int × Int)} {i j : Nat} {a b : Int} (hz : M.evTo P T i = 0) (ha : M.pr T i = a) (h : 0 ≤ a ∧ a < P) (hf : M.fm T i = (j : Nat)) (hj : j < i) (hb : M.pr T j = b) (e : ¬ b = a) : M.evTo P T (i + 1) = 0 := by
  simp only [M.evTo]
  rw [if_pos hz]
  unfold M.evC; rw [ha, hf, if_pos (by omega), if_neg (fun h => e (by have := h.2; rw [Int.toNat_natCast, hb] at this; exact this))]
end Go.Proofs.YtajiichehffaaaaDoor
namespace Go.Proofs.YtajiichehffaaaaDoor
open Go.RowKit

theorem infoInt : (Tryd.prog.info? 3).map (fun i => (i.zero, i.size, i.bytes)) = some (some (.int .i64 0), 1, 8) := by kernel_rfl
theorem made_noughts (n : Nat) : madeCells #[.int .i64 0] n = arr (List.replicate n 0) := by
  apply Array.ext_getElem?
  intro k
  by_cases h : k < n
  · rw [arr_get _ _ (by simp [h])]
    simp [madeCells, h, M.row, Nat.mod_one]
  · rw [Array.getElem?_eq_none (by simp [madeCells]; omega), Array.getElem?_eq_none (by rw [arr_size]; simp; omega)]
theorem row_set_same {m : List Nat} {i v : Nat} (h : i < m.length) : M.row (m.set i v) i = v := by rw [M.row_set, if_pos ⟨rfl, h⟩]
theorem row_set_other {m : List Nat} {i j v : Nat} (h : i ≠ j) : M.row (m.set i v) j = M.row m j := by rw [M.row_set, if_neg (fun e => h e.1)]
end Go.Proofs.YtajiichehffaaaaDoor
namespace Go.Proofs.YtajiichehffaaaaDoor
open Go.RowKit

/-- The slice's address p leads to the numbers zs. -/
def HasI (zs : List Int) (p : Option Addr) (w : World) : Prop := ∀ j, j < zs.length → ∃ b off, p = some ⟨b, off, none⟩ ∧ b < w.heap.size ∧ w.cell? ⟨b, off + j, none⟩ = some (.int .i64 (zs[j]?.getD 0))
theorem HasI.later {zs : List Int} {p : Option Addr} {w w' : World} (h : HasI zs p w) (hb : Below w.heap.size w w') : HasI zs p w' := fun j hj => by
  obtain ⟨b, off, h1, h2, h3⟩ := h j hj
  exact ⟨b, off, h1, by have := hb.size; omega, (hb.cell (p := ⟨b, off + j, none⟩) h2).trans h3⟩
theorem RowAt.hasI {w : World} {A : Nat} {m : List Nat} {t : TypeId} (h : RowAt t w A m) : HasI (ints m) (some ⟨A, 0, none⟩) w := fun j hj => by
  rw [ints_length] at hj
  exact ⟨A, 0, rfl, h.lt, by rw [ints_get, Nat.zero_add]; exact h.cell hj⟩
set_option maxHeartbeats 1000000 in
theorem same_intsI (zs : List Int) (p q : Option Addr) (n cap cap' : Nat) (w : World) (hl : zs.length = n) (hmax : n ≤ maxLen) (hp : HasI zs p w) (hq : HasI zs q w) :
    Calls Tryd.prog 21 #[.slice p n cap, .slice q n cap'] w fun e w' => e = .returned (.bool true) ∧ Below w.heap.size w w' := by
  unfold maxLen at hmax
  go_enter Tryd.func21, Tryd.ntmps21
  go_wp2
  go_loopw [5] (fun i wr => ∃ k : Nat, k ≤ n ∧ i = .int .i64 k ∧ Below w.heap.size w wr) (fun i _ => n - (intOf i).toNat)
  case atStart => exact ⟨0, Nat.zero_le _, rfl, Below.refl _ _⟩
  case round =>
    obtain ⟨k, hk, rfl, hB⟩ := hrel
    by_cases hlt : k < n
    · obtain ⟨b, off, rfl, hb, hcell⟩ := hp.later hB k (by omega)
      obtain ⟨b', off', rfl, hb', hcell'⟩ := hq.later hB k (by omega)
      obtain ⟨z, hz⟩ : ∃ z, zs[k]?.getD 0 = z := ⟨_, rfl⟩
      rw [hz] at hcell hcell'
      clear hz hp hq
      go_wp2
      go_quiet (fail)
      go_wp2
      go_roundw
      case rel => exact ⟨k + 1, by omega, by go_num, hB.trans ((below_drewN _ _).mono hB.size)⟩
      case measure => simp [intOf]; omega
    · clear hp hq
      go_wp2
      go_ret
      exact ⟨rfl, hB⟩
end Go.Proofs.YtajiichehffaaaaDoor
