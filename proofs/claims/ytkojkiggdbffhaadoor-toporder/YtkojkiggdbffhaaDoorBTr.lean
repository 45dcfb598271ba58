/- Traces in memory; whether an event heard of one (package trace, heard), and what is wrong with a trace (package trace, Check), at whatever numbers; what lay in memory lies as it lay. What is wrong with a trace (package trace, Check), at whatever numbers; what lay in memory lies as it lay. What happened before each event of a trace (package trace, Before), at whatever numbers; what lay in memory lies as it lay. Two lists of numbers that are the same are told to be so (package whensteadsame, Ints); what lay in memory lies as it lay. -/
import Derived.Test.YtkojkiggdbffhaaDoorBMa
import Derived.Test.YtkojkiggdbffhaaDoorBits
import Derived.Test.YtkojkiggdbffhaaDoorKit
import Derived.LoopTactic
import Derived.Below
import Derived.BigQuiet
import Derived.Deep.QuietTactic
import Derived.Deep.RegionHeld3
import Derived.Test.YtkojkiggdbffhaaDoorBMb
namespace Go.Proofs.YtkojkiggdbffhaaDoor
open Go.RowKit

/-- The slice's address p leads to the events T. -/
def HasE (T : List (Int × Int)) (p : Option Addr) (w : World) : Prop := ∀ j, j < T.length → ∃ b off, p = some ⟨b, off, none⟩ ∧ b < w.heap.size ∧ w.cell? ⟨b, off + j * 2, none⟩ = some (.int .i64 (M.pr T j)) ∧ w.cell? ⟨b, off + j * 2 + 1, none⟩ = some (.int .i64 (M.fm T j))
theorem HasE.later {T : List (Int × Int)} {p : Option Addr} {w w' : World} (h : HasE T p w) (hb : Below w.heap.size w w') : HasE T p w' := fun j hj => by
  obtain ⟨b, off, h1, h2, h3, h4⟩ := h j hj
  exact ⟨b, off, h1, by have := hb.size; omega, (hb.cell (p := ⟨b, off + j * 2, none⟩) h2).trans h3, (hb.cell (p := ⟨b, off + j * 2 + 1, none⟩) h2).trans h4⟩
/-- A trace as a value. -/
abbrev trV (P : Int) (p : Option Addr) (n cap : Nat) : Value := .agg #[.int .i64 P, .slice p n cap]
/-- What is told: nothing, or an error. -/
def terr (c : Nat) : Value := if c = 0 then .nilIface else .iface 49 (.int .i64 (c : Nat))
theorem terr_zero : terr 0 = .nilIface := rfl
theorem terr_ne {c : Nat} (h : c ≠ 0) : terr c = .iface 49 (.int .i64 (c : Nat)) := if_neg h
/-- Is a number one of so many? -/
def thingZ (z n : Int) : Bool := decide (0 ≤ z ∧ z < n)
theorem thingZ_true {z n : Int} (h0 : 0 ≤ z) (h1 : z < n) : thingZ z n = true := decide_eq_true ⟨h0, h1⟩
theorem thingZ_false {z n : Int} (h : ¬ (0 ≤ z ∧ z < n)) : thingZ z n = false := decide_eq_false h
set_option maxHeartbeats 400000 in
theorem isThing_z (z n : Int) (w : World) :
    Calls Tryd.prog 24 #[.int .i64 z, .int .i64 n] w fun e w' => e = .returned (.bool (thingZ z n)) ∧ w = w' := by
  by_cases hz : z < 0
  · go_enter Tryd.func24, Tryd.ntmps24
    go_wp2
    go_ret
    exact ⟨bool_ret (thingZ_false (fun h => by omega)).symm, rfl⟩
  · have hz' : 0 ≤ z := by omega
    go_enter Tryd.func24, Tryd.ntmps24
    go_wp2
    go_ret
    exact ⟨bool_ret (by unfold thingZ; rw [Bool.eq_iff_iff]; simp [hz']), rfl⟩
set_option maxHeartbeats 400000 in
theorem heard_any (a f : Int) (w : World) :
    Calls Tryd.prog 25 #[.agg #[.int .i64 a, .int .i64 f]] w fun e w' => e = .returned (.bool (f != -1)) ∧ w.alloc (.cells #[.int .i64 a, .int .i64 f] 53) = w' := by
  go_enter Tryd.func25, Tryd.ntmps25
  go_wp2
  go_ret
  exact ⟨rfl, rfl⟩
theorem heard_no (a f : Int) (w : World) (h : (f != -1) = false) :
    Calls Tryd.prog 25 #[.agg #[.int .i64 a, .int .i64 f]] w fun e w' => e = .returned (.bool false) ∧ w.alloc (.cells #[.int .i64 a, .int .i64 f] 53) = w' := h ▸ heard_any a f w
theorem heard_yes (a f : Int) (w : World) (h : (f != -1) = true) :
    Calls Tryd.prog 25 #[.agg #[.int .i64 a, .int .i64 f]] w fun e w' => e = .returned (.bool true) ∧ w.alloc (.cells #[.int .i64 a, .int .i64 f] 53) = w' := h ▸ heard_any a f w
end Go.Proofs.YtkojkiggdbffhaaDoor
namespace Go.Proofs.YtkojkiggdbffhaaDoor
open Go.RowKit

/-- Block B holds a trace's number of processes, and its slice of events. -/
structure TBox (w : World) (B : Nat) (P : Int) (p : Option Addr) (n cap : Nat) : Prop where
  lt : B < w.heap.size
  procs : w.cell? ⟨B, 0, none⟩ = some (.int .i64 P)
  events : w.cell? ⟨B, 1, none⟩ = some (.slice p n cap)
theorem TBox.later {w w' : World} {B N : Nat} {P : Int} {p : Option Addr} {n cap : Nat} (h : TBox w B P p n cap) (hb : Below N w w') (hN : B < N) : TBox w' B P p n cap :=
  ⟨by have := hb.size; have := h.lt; omega, (hb.cell (p := ⟨B, 0, none⟩) hN).trans h.procs, (hb.cell (p := ⟨B, 1, none⟩) hN).trans h.events⟩
theorem tbox_new (w : World) (P : Int) (p : Option Addr) (n cap : Nat) : TBox (w.alloc (.cells #[.int .i64 P, .slice p n cap] 24)) w.heap.size P p n cap :=
  ⟨by simp, by simp, by simp⟩
theorem bel_al {w w' : World} (h : Below w.heap.size w w') (o : Obj) : Below w.heap.size w (w'.alloc o) := h.alloc h.size o
theorem below_drewN (w : World) (k : Nat) : Below w.heap.size w (w.drewN k) := by
  induction k with
  | zero => exact Below.refl _ _
  | succ k ih => exact ih.drew
theorem bel_drN {w w' : World} (h : Below w.heap.size w w') (k : Nat) : Below w.heap.size w (w'.drewN k) := h.trans ((below_drewN _ _).mono h.size)
theorem bel_on {w v u : World} (h : Below w.heap.size w v) (h2 : Below v.heap.size v u) : Below w.heap.size w u := h.trans (h2.mono h.size)

theorem ev_range {P : Int} {T : List (Int × Int)} {i n : Nat} {a : Int} (hz : M.evTo P T i = 0) (hi : i < n) (ha : M.pr T i = a) (h : ¬ (0 ≤ a ∧ a < P)) : M.evTo P T n = 1 := by
  have e : M.evC P T i = 1 := by unfold M.evC; rw [ha, if_neg (by omega)]
  rw [M.evTo_first hz hi (by rw [e]; omega), e]
theorem ev_range2 {P : Int} {T : List (Int × Int)} {i n : Nat} {f : Int} (hz : M.evTo P T i = 0) (hi : i < n) (hf : M.fm T i = f) (h1 : ¬ f = -1) (h : ¬ (0 ≤ f ∧ f < i)) : M.evTo P T n = 1 := by
  have e : M.evC P T i = 1 := by unfold M.evC; rw [hf, if_neg (by omega)]
  rw [M.evTo_first hz hi (by rw [e]; omega), e]
theorem ev_clash {P : Int} {T : List (Int × Int)} {i n j : Nat} {a b : Int} (hz : M.evTo P T i = 0) (hi : i < n) (ha : M.pr T i = a) (h : 0 ≤ a ∧ a < P) (hf : M.fm T i = (j : Nat)) (hj : j < i) (hb : M.pr T j = b) (e : b = a) : M.evTo P T n = 6 := by
  have e : M.evC P T i = 6 := by unfold M.evC; rw [ha, hf, if_pos (by omega), if_pos ⟨by omega, by rw [Int.toNat_natCast, hb, e]⟩]
  rw [M.evTo_first hz hi (by rw [e]; omega), e]
theorem ev_next0 {P : Int} {T : List (Int × Int)} {i : Nat} {a f : Int} (hz : M.evTo P T i = 0) (ha : M.pr T i = a) (h : 0 ≤ a ∧ a < P) (hf : M.fm T i = f) (e : f = -1) : M.evTo P T (i + 1) = 0 := by
  simp only [M.evTo]
  rw [if_pos hz]
  unfold M.evC; rw [ha, hf, if_pos (by omega), if_neg (by omega)]
theorem ev_next {P : Int} {T : List (Int × Int)} {i j : Nat} {a b : Int} (hz : M.evTo P T i = 0) (ha : M.pr T i = a) (h : 0 ≤ a ∧ a < P) (hf : M.fm T i = (j : Nat)) (hj : j < i) (hb : M.pr T j = b) (e : ¬ b = a) : M.evTo P T (i + 1) = 0 := by
  simp only [M.evTo]
  rw [if_pos hz]
  unfold M.evC; rw [ha, hf, if_pos (by omega), if_neg (fun h => e (by have := h.2; rw [Int.toNat_natCast, hb] at this; exact this))]
set_option maxRecDepth 100000 in
set_option maxHeartbeats 2000000 in
theorem check_tr (P : Int) (T : List (Int × Int)) (p : Option Addr) (n cap : Nat) (w : World) (hl : T.length = n) (hmax : n ≤ maxLen) (hc : HasE T p w) :
    Calls Tryd.prog 7 #[trV P p n cap] w fun e w' => e = .returned (terr (M.tcode P T)) ∧ Below w.heap.size w w' := by
  unfold maxLen at hmax
  have hB0 : Below w.heap.size w (w.alloc (.cells #[.int .i64 P, .slice p n cap] 24)) := (Below.refl _ _).alloc (Nat.le_refl _) _
  by_cases h1 : P < 1
  · have e : M.tcode P T = 1 := by unfold M.tcode; rw [if_neg (by omega)]
    rw [e]
    go_enter Tryd.func7, Tryd.ntmps7
    go_wp2
    go_ret
    exact ⟨rfl, hB0⟩
  by_cases h5 : 5 < P
  · have e : M.tcode P T = 1 := by unfold M.tcode; rw [if_neg (by omega)]
    rw [e]
    go_enter Tryd.func7, Tryd.ntmps7
    go_wp2
    go_ret
    exact ⟨rfl, hB0⟩
  by_cases h24 : 24 < n
  · have e : M.tcode P T = 4 := by unfold M.tcode; rw [if_pos (by omega), if_pos (by omega)]
    rw [e]
    go_enter Tryd.func7, Tryd.ntmps7
    go_wp2
    go_ret
    exact ⟨rfl, hB0⟩
  have e : M.tcode P T = M.evTo P T n := by unfold M.tcode; rw [if_pos (by omega), if_neg (by omega), hl]
  rw [e]
  clear e
  obtain ⟨wb, hwb⟩ : ∃ wb, w.alloc (.cells #[.int .i64 P, .slice p n cap] 24) = wb := ⟨_, rfl⟩
  have hbox : TBox wb w.heap.size P p n cap := hwb ▸ tbox_new w P p n cap
  rw [hwb] at hB0
  have hcb : HasE T p wb := hc.later hB0
  have hsz : Hid (w.heap.size < wb.heap.size) := hbox.lt
  have hk1 := hbox.procs
  have hk2 := hbox.events
  have hP1 : decide (P < 1) = false := decide_eq_false h1
  have hP5 : decide (5 < P) = false := decide_eq_false h5
  have hn4 : decide ((24 : Int) < (n : Int)) = false := decide_eq_false (by omega)
  clear hc
  go_enter Tryd.func7, Tryd.ntmps7
  go_wp2
  go_loopw [22] (fun v wr => ∃ i : Nat, v = .int .i64 i ∧ i ≤ n ∧ Hid (M.evTo P T i = 0) ∧ Below wb.heap.size wb wr) (fun v _ => n - (intOf v).toNat)
  case atStart => exact ⟨0, rfl, Nat.zero_le _, show M.evTo P T 0 = 0 from rfl, Below.refl _ _⟩
  case round =>
    clear hk1 hk2 hwb
    obtain ⟨i, rfl, hi, hz, hB⟩ := hrel
    have hbr := hbox.later hB hsz.out
    have hk1 := hbr.procs
    have hk2 := hbr.events
    have hbl := hbr.lt
    by_cases hlt : i < n
    · obtain ⟨b, off, rfl, hb, hc1, hc2⟩ := (hcb.later hB) i (by omega)
      obtain ⟨a, ha⟩ : ∃ a, M.pr T i = a := ⟨_, rfl⟩
      obtain ⟨f, hf⟩ : ∃ f, M.fm T i = f := ⟨_, rfl⟩
      rw [ha] at hc1
      rw [hf] at hc2
      have HA : Hid (M.pr T i = a) := ha
      have HF : Hid (M.fm T i = f) := hf
      clear ha hf
      by_cases hat : 0 ≤ a ∧ a < P
      · have e1 := thingZ_true hat.1 hat.2
        by_cases hfm : f = -1
        · have e2 : (f != -1) = false := by subst hfm; rfl
          have HN : Hid (M.evTo P T (i + 1) = 0) := ev_next0 hz.out HA.out hat HF.out hfm
          clear hfm
          go_wp2_with (first | (go_at_call 24; refine (isThing_z _ _ _).mono ?_; rintro e w' ⟨rfl, rfl⟩) | (go_at_call 25; refine (heard_any _ _ _).mono ?_; rintro e w' ⟨rfl, rfl⟩))
          refine wp_region_held_drew (S := fun w' => w'.cell? ⟨wr.heap.size, 0, none⟩ = some (.int .i64 a) ∧ w'.cell? ⟨wr.heap.size, 1, none⟩ = some (.int .i64 f)) (by kernel_rfl) ?_ (fun hHeld => ?_)
          · go_keep
          refine wpAnyH_take (i := 0) (oi := { dst := some 45, op := Op.load 53 (Operand.tmp 4), type := 53, pos := "trace.go:21", after := #[], guard := none }) (v := ?_) rfl (by kernel_rfl) (by kernel_rfl) (by kernel_rfl) (fun _ _ _ h => h) (Or.inl ⟨by rfl, ?_⟩) hHeld ?_
          rotate_left 1
          · intro w9 hSw
            try dsimp only at hSw
            go_simp
            try with_reducible rfl
          try simp only [Act.put, List.setIfInBounds_toArray, List.set_cons_zero, List.set_cons_succ]
          refine wpAnyH_ready (rs := [1]) (by kernel_rfl) (by simp) ?_
          refine AllReadyH.cons (o := { dst := some 46, op := Op.call { callee := Callee.value (Operand.func 25), args := #[Operand.tmp 45], argTypes := #[53] }, type := 4, pos := "trace.go:21", after := #[{ on := 0, ground := Ground.data }], guard := none }) rfl (fun K hK => ?_) AllReadyH.nil
          go_simp
          go_at_call 25
          refine (heard_no _ _ _ e2).mono ?_
          rintro e w' ⟨rfl, rfl⟩
          go_wp2_with fail
          refine hK.out _ _ ?_ (fun hHeld => ?_)
          · go_keep
          clear hK K
          try simp only [Act.put, List.setIfInBounds_toArray, List.set_cons_zero, List.set_cons_succ]
          refine wpAnyH_take (i := 2) (oi := { dst := some 47, op := Op.move (Operand.tmp 46), type := 4, pos := "trace.go:21", after := #[{ on := 1, ground := Ground.data }, { on := 1, ground := Ground.chain }], guard := none }) (v := ?_) rfl (by kernel_rfl) (by kernel_rfl) (by kernel_rfl) (fun _ _ _ h => h) (Or.inl ⟨by rfl, ?_⟩) hHeld ?_
          rotate_left 1
          · intro w9 hSw
            try dsimp only at hSw
            go_simp
            try with_reducible rfl
          try simp only [Act.put, List.setIfInBounds_toArray, List.set_cons_zero, List.set_cons_succ]
          refine wpAnyH_take (i := 3) (oi := { dst := some 48, op := Op.fieldAddr 24 (Operand.tmp 1) 1, type := 0, pos := "trace.go:21", after := #[{ on := 2, ground := Ground.guard }], guard := some (2, true) }) (v := undef) rfl (by kernel_rfl) (by kernel_rfl) (by kernel_rfl) (fun _ _ _ h => h) (Or.inr ⟨by rfl, rfl⟩) hHeld ?_
          try simp only [Act.put, List.setIfInBounds_toArray, List.set_cons_zero, List.set_cons_succ]
          refine wpAnyH_take (i := 4) (oi := { dst := some 49, op := Op.load 22 (Operand.tmp 48), type := 22, pos := "trace.go:21", after := #[{ on := 3, ground := Ground.data }, { on := 2, ground := Ground.guard }], guard := some (2, true) }) (v := undef) rfl (by kernel_rfl) (by kernel_rfl) (by kernel_rfl) (fun _ _ _ h => h) (Or.inr ⟨by rfl, rfl⟩) hHeld ?_
          try simp only [Act.put, List.setIfInBounds_toArray, List.set_cons_zero, List.set_cons_succ]
          refine wpAnyH_take (i := 5) (oi := { dst := some 50, op := Op.fieldAddr 53 (Operand.tmp 4) 1, type := 0, pos := "trace.go:21", after := #[{ on := 2, ground := Ground.guard }], guard := some (2, true) }) (v := undef) rfl (by kernel_rfl) (by kernel_rfl) (by kernel_rfl) (fun _ _ _ h => h) (Or.inr ⟨by rfl, rfl⟩) hHeld ?_
          try simp only [Act.put, List.setIfInBounds_toArray, List.set_cons_zero, List.set_cons_succ]
          refine wpAnyH_take (i := 6) (oi := { dst := some 51, op := Op.load 3 (Operand.tmp 50), type := 3, pos := "trace.go:21", after := #[{ on := 5, ground := Ground.data }, { on := 2, ground := Ground.guard }], guard := some (2, true) }) (v := undef) rfl (by kernel_rfl) (by kernel_rfl) (by kernel_rfl) (fun _ _ _ h => h) (Or.inr ⟨by rfl, rfl⟩) hHeld ?_
          try simp only [Act.put, List.setIfInBounds_toArray, List.set_cons_zero, List.set_cons_succ]
          refine wpAnyH_take (i := 7) (oi := { dst := some 52, op := Op.indexAddr 22 (Operand.tmp 49) (Operand.tmp 51), type := 0, pos := "trace.go:21", after := #[{ on := 4, ground := Ground.data }, { on := 6, ground := Ground.data }, { on := 2, ground := Ground.guard }], guard := some (2, true) }) (v := undef) rfl (by kernel_rfl) (by kernel_rfl) (by kernel_rfl) (fun _ _ _ h => h) (Or.inr ⟨by rfl, rfl⟩) hHeld ?_
          try simp only [Act.put, List.setIfInBounds_toArray, List.set_cons_zero, List.set_cons_succ]
          refine wpAnyH_take (i := 8) (oi := { dst := some 53, op := Op.fieldAddr 53 (Operand.tmp 52) 0, type := 0, pos := "trace.go:21", after := #[{ on := 7, ground := Ground.data }, { on := 2, ground := Ground.guard }], guard := some (2, true) }) (v := undef) rfl (by kernel_rfl) (by kernel_rfl) (by kernel_rfl) (fun _ _ _ h => h) (Or.inr ⟨by rfl, rfl⟩) hHeld ?_
          try simp only [Act.put, List.setIfInBounds_toArray, List.set_cons_zero, List.set_cons_succ]
          refine wpAnyH_take (i := 9) (oi := { dst := some 54, op := Op.load 3 (Operand.tmp 53), type := 3, pos := "trace.go:21", after := #[{ on := 8, ground := Ground.data }, { on := 2, ground := Ground.guard }], guard := some (2, true) }) (v := undef) rfl (by kernel_rfl) (by kernel_rfl) (by kernel_rfl) (fun _ _ _ h => h) (Or.inr ⟨by rfl, rfl⟩) hHeld ?_
          try simp only [Act.put, List.setIfInBounds_toArray, List.set_cons_zero, List.set_cons_succ]
          refine wpAnyH_take (i := 10) (oi := { dst := some 55, op := Op.fieldAddr 53 (Operand.tmp 4) 0, type := 0, pos := "trace.go:21", after := #[{ on := 2, ground := Ground.guard }], guard := some (2, true) }) (v := undef) rfl (by kernel_rfl) (by kernel_rfl) (by kernel_rfl) (fun _ _ _ h => h) (Or.inr ⟨by rfl, rfl⟩) hHeld ?_
          try simp only [Act.put, List.setIfInBounds_toArray, List.set_cons_zero, List.set_cons_succ]
          refine wpAnyH_take (i := 11) (oi := { dst := some 56, op := Op.load 3 (Operand.tmp 55), type := 3, pos := "trace.go:21", after := #[{ on := 10, ground := Ground.data }, { on := 2, ground := Ground.guard }], guard := some (2, true) }) (v := undef) rfl (by kernel_rfl) (by kernel_rfl) (by kernel_rfl) (fun _ _ _ h => h) (Or.inr ⟨by rfl, rfl⟩) hHeld ?_
          try simp only [Act.put, List.setIfInBounds_toArray, List.set_cons_zero, List.set_cons_succ]
          refine wpAnyH_take (i := 12) (oi := { dst := some 57, op := Op.binOp BinOp.eql 3 (Operand.tmp 54) (Operand.tmp 56) 3, type := 4, pos := "trace.go:21", after := #[{ on := 9, ground := Ground.data }, { on := 11, ground := Ground.data }, { on := 2, ground := Ground.guard }], guard := some (2, true) }) (v := undef) rfl (by kernel_rfl) (by kernel_rfl) (by kernel_rfl) (fun _ _ _ h => h) (Or.inr ⟨by rfl, rfl⟩) hHeld ?_
          try simp only [Act.put, List.setIfInBounds_toArray, List.set_cons_zero, List.set_cons_succ]
          refine wpAnyH_take (i := 13) (oi := { dst := some 58, op := Op.pick (Operand.tmp 47) (Operand.tmp 57) (Operand.const (Value.bool false)), type := 4, pos := "trace.go:21", after := #[{ on := 2, ground := Ground.data }, { on := 12, ground := Ground.data }], guard := none }) (v := ?_) rfl (by kernel_rfl) (by kernel_rfl) (by kernel_rfl) (fun _ _ _ h => h) (Or.inl ⟨by rfl, ?_⟩) hHeld ?_
          rotate_left 1
          · intro w9 hSw
            try dsimp only at hSw
            go_simp
            try with_reducible rfl
          try simp only [Act.put, List.setIfInBounds_toArray, List.set_cons_zero, List.set_cons_succ]
          refine wpAnyH_done (by kernel_rfl) ?_ _
          go_wp2
          go_roundw
          case rel => exact ⟨i + 1, by go_num, by omega, HN, (by repeat first | exact hB | apply bel_al | apply Below.drew)⟩
          case measure => simp [intOf]; omega
        · have e2 : (f != -1) = true := by simpa using hfm
          by_cases hfi : 0 ≤ f ∧ f < i
          · have e3 := thingZ_true hfi.1 hfi.2
            obtain ⟨j, rfl⟩ : ∃ j : Nat, f = j := ⟨f.toNat, by omega⟩
            obtain ⟨_, _, e0, hb', hc3, -⟩ := (hcb.later hB) j (by omega)
            cases e0
            obtain ⟨a2, ha2⟩ : ∃ a, M.pr T j = a := ⟨_, rfl⟩
            rw [ha2] at hc3
            have HA2 : Hid (M.pr T j = a2) := ha2
            clear ha2 hfm
            have hjn : (j : Int) < (n : Int) := by omega
            have hK1 : ∀ W' : World, Below wr.heap.size wr W' → W'.cell? ⟨w.heap.size, 1, none⟩ = some (.slice (some ⟨b, off, none⟩) n cap) := fun W' hb9 => (hb9.cell (p := ⟨w.heap.size, 1, none⟩) hbl).trans hk2
            have hK2 : ∀ W' : World, Below wr.heap.size wr W' → W'.cell? ⟨b, off + j * 2, none⟩ = some (.int .i64 a2) := fun W' hb9 => (hb9.cell (p := ⟨b, off + j * 2, none⟩) hb').trans hc3
            have hjn' : j < n := by omega
            go_wp2_with (first | (go_at_call 24; refine (isThing_z _ _ _).mono ?_; rintro e w' ⟨rfl, rfl⟩) | (go_at_call 25; refine (heard_yes _ _ _ e2).mono ?_; rintro e w' ⟨rfl, rfl⟩))
            go_region_held3 (fun w' => w'.cell? ⟨wr.heap.size, 0, none⟩ = some (.int .i64 a) ∧ w'.cell? ⟨wr.heap.size, 1, none⟩ = some (.int .i64 j) ∧ w'.cell? ⟨w.heap.size, 1, none⟩ = some (.slice (some ⟨b, off, none⟩) n cap) ∧ w'.cell? ⟨b, off + j * 2, none⟩ = some (.int .i64 a2)) (exact ⟨by go_keep, by go_keep, hK1 _ (by repeat first | exact Below.refl _ _ | apply bel_al | apply Below.drew), hK2 _ (by repeat first | exact Below.refl _ _ | apply bel_al | apply Below.drew)⟩) (first | (go_at_call 25; refine (heard_yes _ _ _ e2).mono ?_; rintro e w' ⟨rfl, rfl⟩))
            by_cases hcl : a2 = a
            · have HC : Hid (M.evTo P T n = 6) := ev_clash hz.out hlt HA.out hat HF.out (by omega) HA2.out hcl
              have hd : (a2 == a) = true := by rw [hcl]; exact beq_self_eq_true a
              clear hcl
              go_wp2
              go_ret
              exact ⟨by rw [HC.out]; rfl, bel_on hB0 (by repeat first | exact hB | apply bel_al | apply Below.drew)⟩
            · have HC : Hid (M.evTo P T (i + 1) = 0) := ev_next hz.out HA.out hat HF.out (by omega) HA2.out hcl
              have hd : (a2 == a) = false := by simpa using hcl
              clear hcl
              go_wp2
              go_roundw
              case rel => exact ⟨i + 1, by go_num, by omega, HC, (by repeat first | exact hB | apply bel_al | apply Below.drew)⟩
              case measure => simp [intOf]; omega
          · have e3 := thingZ_false hfi
            have HC : Hid (M.evTo P T n = 1) := ev_range2 hz.out hlt HF.out hfm hfi
            clear hfm
            go_wp2_with (first | (go_at_call 24; refine (isThing_z _ _ _).mono ?_; rintro e w' ⟨rfl, rfl⟩) | (go_at_call 25; refine (heard_yes _ _ _ e2).mono ?_; rintro e w' ⟨rfl, rfl⟩))
            go_ret
            exact ⟨by rw [HC.out]; rfl, bel_on hB0 (by repeat first | exact hB | apply bel_al | apply Below.drew)⟩
      · have e1 := thingZ_false hat
        have HC : Hid (M.evTo P T n = 1) := ev_range hz.out hlt HA.out hat
        go_wp2_with (first | (go_at_call 24; refine (isThing_z _ _ _).mono ?_; rintro e w' ⟨rfl, rfl⟩) | (go_at_call 25; refine (heard_any _ _ _).mono ?_; rintro e w' ⟨rfl, rfl⟩))
        go_ret
        exact ⟨by rw [HC.out]; rfl, bel_on hB0 (by repeat first | exact hB | apply bel_al | apply Below.drew)⟩
    · obtain rfl : i = n := by omega
      go_wp2
      go_ret
      exact ⟨by rw [hz.out]; rfl, bel_on hB0 hB⟩
end Go.Proofs.YtkojkiggdbffhaaDoor
namespace Go.Proofs.YtkojkiggdbffhaaDoor
open Go.RowKit

theorem infoInt : (Tryd.prog.info? 3).map (fun i => (i.zero, i.size, i.bytes)) = some (some (.int .i64 0), 1, 8) := by kernel_rfl
theorem made_noughts (n : Nat) : madeCells #[.int .i64 0] n = arr (List.replicate n 0) := by
  apply Array.ext_getElem?
  intro k
  by_cases h : k < n
  · rw [arr_get _ _ (by simp [h])]
    simp [madeCells, h, M.row, Nat.mod_one]
  · rw [Array.getElem?_eq_none (by simp [madeCells]; omega), Array.getElem?_eq_none (by rw [arr_size]; simp; omega)]
theorem heard_bel (a f : Int) (t : Bool) (w : World) (h : (f != -1) = t) :
    Calls Tryd.prog 25 #[.agg #[.int .i64 a, .int .i64 f]] w fun e w' => e = .returned (.bool t) ∧ Below w.heap.size w w' := by
  refine (heard_any a f w).mono ?_
  rintro e w' ⟨rfl, rfl⟩
  exact ⟨bool_ret h, (Below.refl _ _).alloc (Nat.le_refl _) _⟩
theorem ev_cell0 {w : World} {N : Nat} (h : w.heap.size = N) (a f : Int) : (w.alloc (.cells #[.int .i64 a, .int .i64 f] 53)).cell? ⟨N, 0, none⟩ = some (.int .i64 a) := by subst h; simp
theorem ev_cell1 {w : World} {N : Nat} (h : w.heap.size = N) (a f : Int) : (w.alloc (.cells #[.int .i64 a, .int .i64 f] 53)).cell? ⟨N, 1, none⟩ = some (.int .i64 f) := by subst h; simp
theorem row_set_same {m : List Nat} {i v : Nat} (h : i < m.length) : M.row (m.set i v) i = v := by rw [M.row_set, if_pos ⟨rfl, h⟩]
theorem row_set_other {m : List Nat} {i j v : Nat} (h : i ≠ j) : M.row (m.set i v) j = M.row m j := by rw [M.row_set, if_neg (fun e => h e.1)]
set_option maxHeartbeats 400000 in
theorem before_err (P : Int) (T : List (Int × Int)) (p : Option Addr) (n cap c : Nat) (w : World) (hl : T.length = n) (hmax : n ≤ maxLen) (hc : HasE T p w) (h0 : M.tcode P T = c) (hne : c ≠ 0) :
    Calls Tryd.prog 22 #[trV P p n cap] w fun e w' => e = .returned (.tuple #[.slice none 0 0, .iface 49 (.int .i64 (c : Nat))]) ∧ Below w.heap.size w w' := by
  have hB0 : Below w.heap.size w (w.alloc (.cells #[.int .i64 P, .slice p n cap] 24)) := (Below.refl _ _).alloc (Nat.le_refl _) _
  have hcb := hc.later hB0
  go_enter Tryd.func22, Tryd.ntmps22
  go_wp2_with fail
  refine (check_tr P T p n cap _ hl hmax hcb).mono ?_
  rw [h0, terr_ne hne]
  rintro e w1 ⟨rfl, hB1⟩
  go_wp2_with fail
  go_ret2
  exact ⟨rfl, bel_on hB0 hB1⟩
set_option maxRecDepth 100000 in
set_option maxHeartbeats 4000000 in
theorem before_ok (P : Int) (T : List (Int × Int)) (p : Option Addr) (n cap : Nat) (w : World) (hl : T.length = n) (hmax : n ≤ maxLen) (hc : HasE T p w) (h0 : M.tcode P T = 0) :
    Calls Tryd.prog 22 #[trV P p n cap] w fun e w' => ∃ A, e = .returned (.tuple #[.slice (some ⟨A, 0, none⟩) n n, .nilIface]) ∧ RowAt 3 w' A (M.before T) ∧ w.heap.size ≤ A ∧ Below w.heap.size w w' := by
  have hok := M.tcode_zero.1 h0
  have hn : n ≤ 24 := hl ▸ hok.len
  have hB0 : Below w.heap.size w (w.alloc (.cells #[.int .i64 P, .slice p n cap] 24)) := (Below.refl _ _).alloc (Nat.le_refl _) _
  have hcb := hc.later hB0
  have hmk0 := run_make_row' (P := Tryd.prog) 25 3 (.int .i64 0) 8 Tryd.underlying25 infoInt rfl .i64 .i64 n (by omega) (by omega)
  go_enter Tryd.func22, Tryd.ntmps22
  go_wp2_with fail
  refine (check_tr P T p n cap _ hl hmax hcb).mono ?_
  rw [h0, terr_zero]
  rintro e w1 ⟨rfl, hB1⟩
  have hbox : TBox w1 w.heap.size P p n cap := (tbox_new w P p n cap).later hB1 (by simp)
  have hC1 := bel_on hB0 hB1
  have hc1 := hc.later hC1
  have hk1 := hbox.procs
  have hk2 := hbox.events
  have hbl := hbox.lt
  clear hB0 hB1 hcb hc
  have hrA : RowAt 3 (w1.alloc (.cells (madeCells #[.int .i64 0] n) 3)) w1.heap.size (M.bfl T n 0) := by
    unfold RowAt
    rw [World.alloc_heap_new, made_noughts]
    rfl
  have hrK : RowAt 58 ((w1.alloc (.cells (madeCells #[.int .i64 0] n) 3)).alloc (.cells #[.int .i64 0, .int .i64 0, .int .i64 0, .int .i64 0, .int .i64 0] 58)) (w1.heap.size + 1) (M.knl T 0) := by
    unfold RowAt
    have e : (w1.alloc (.cells (madeCells #[.int .i64 0] n) 3)).heap.size = w1.heap.size + 1 := by simp
    rw [← e, World.alloc_heap_new]
    rfl
  have hrA2 := hrA.alloc (.cells #[.int .i64 0, .int .i64 0, .int .i64 0, .int .i64 0, .int .i64 0] 58)
  have hB2 : Below w1.heap.size w1 ((w1.alloc (.cells (madeCells #[.int .i64 0] n) 3)).alloc (.cells #[.int .i64 0, .int .i64 0, .int .i64 0, .int .i64 0, .int .i64 0] 58)) := bel_al (bel_al (Below.refl _ _) _) _
  clear hrA
  go_wp2_with fail
  go_loopw [21] (fun v wr => ∃ i : Nat, v = .int .i64 i ∧ i ≤ n ∧ RowAt 3 wr w1.heap.size (M.bfl T n i) ∧ RowAt 58 wr (w1.heap.size + 1) (M.knl T i) ∧ Below w1.heap.size w1 wr) (fun v _ => n - (intOf v).toNat)
  case atStart => exact ⟨0, rfl, Nat.zero_le _, hrA2, hrK, hB2⟩
  case round =>
    clear hk1 hk2 hrA2 hrK hB2 hmk0
    obtain ⟨i, rfl, hi, hA, hK, hB⟩ := hrel
    have hbr := hbox.later hB hbl
    have hAl := hA.lt
    have hKl := hK.lt
    by_cases hlt : i < n
    · obtain ⟨b, off, rfl, hb, hp1, hp2⟩ := (hc1.later hB) i (by omega)
      have hT : i < T.length := by omega
      have ha0 := hok.pr0 i hT
      have haP := hok.prP i hT
      have hf0 := hok.fm0 i hT
      have hfI := hok.fmI i hT
      have hP5 := hok.p5
      obtain ⟨a, ha⟩ : ∃ a : Nat, M.pr T i = a := ⟨(M.pr T i).toNat, by omega⟩
      have ha5 : a < 5 := by omega
      rw [ha] at hp1
      have HA : Hid (M.pr T i = (a : Nat)) := ha
      have hcK := hK.cell (k := a) ha5
      rw [M.knl_row T i ha5] at hcK
      obtain ⟨q, hq⟩ : ∃ q, M.kn T (a : Int) i = q := ⟨_, rfl⟩
      have hqb : q < 16777216 := by have h1 := M.kn_lt T (a : Int) i; have h2 := pow_24 i (by omega); omega
      rw [hq] at hcK
      have HQ : Hid (M.kn T (a : Int) i = q) := hq
      have hfA := hA.frozen i
      have hai : (a : Int) < 5 := by omega
      have hk2 := hbr.events
      clear ha hq ha0 haP
      have hAc : wr.cell? ⟨w1.heap.size, i, none⟩ = some (.int .i64 (M.row (M.bfl T n i) i : Nat)) := hA.cell (k := i) (by rw [M.bfl_length T hi]; exact hlt)
      obtain ⟨z0, hz0⟩ : ∃ z, M.row (M.bfl T n i) i = z := ⟨_, rfl⟩
      rw [hz0] at hAc
      clear hz0
      have hAlt : Hid (w1.heap.size < wr.heap.size) := hAl
      by_cases hfm : M.fm T i = -1
      · rw [hfm] at hp2
        have HB : Hid (M.bs T i = q) := by show _ = _; rw [M.bs_none (by omega), HA.out]; exact HQ.out
        clear hfm
        have hB2 : Below w1.heap.size w1 ((wr.setCell ⟨w1.heap.size, i, none⟩ (.int .i64 (q : Nat))).alloc (.cells #[.int .i64 (a : Nat), .int .i64 (-1)] 53)) := bel_al (hB.setCell (p := ⟨w1.heap.size, i, none⟩) (Nat.le_refl _) _) _
        have hA2 := (hA.set i q).alloc (.cells #[.int .i64 (a : Nat), .int .i64 (-1)] 53)
        have hK2 := (hK.other (a := ⟨w1.heap.size, i, none⟩) (show w1.heap.size + 1 ≠ w1.heap.size by omega) (.int .i64 (q : Nat))).alloc (.cells #[.int .i64 (a : Nat), .int .i64 (-1)] 53)
        have hsz : (wr.setCell ⟨w1.heap.size, i, none⟩ (.int .i64 (q : Nat))).heap.size = wr.heap.size := by simp
        have hE0 : ((wr.setCell ⟨w1.heap.size, i, none⟩ (.int .i64 (q : Nat))).alloc (.cells #[.int .i64 (a : Nat), .int .i64 (-1)] 53)).cell? ⟨wr.heap.size, 0, none⟩ = some (.int .i64 (a : Nat)) := ev_cell0 hsz _ _
        have hE1 : ((wr.setCell ⟨w1.heap.size, i, none⟩ (.int .i64 (q : Nat))).alloc (.cells #[.int .i64 (a : Nat), .int .i64 (-1)] 53)).cell? ⟨wr.heap.size, 1, none⟩ = some (.int .i64 (-1)) := ev_cell1 hsz _ _
        have hEl : wr.heap.size < ((wr.setCell ⟨w1.heap.size, i, none⟩ (.int .i64 (q : Nat))).alloc (.cells #[.int .i64 (a : Nat), .int .i64 (-1)] 53)).heap.size := by simp
        obtain ⟨w2, hw2⟩ : ∃ w2, (wr.setCell ⟨w1.heap.size, i, none⟩ (.int .i64 (q : Nat))).alloc (.cells #[.int .i64 (a : Nat), .int .i64 (-1)] 53) = w2 := ⟨_, rfl⟩
        rw [hw2] at hB2 hA2 hK2 hE0 hE1 hEl
        go_wp2_with fail
        refine (heard_bel _ _ false _ rfl).mono ?_
        rintro e w3 ⟨rfl, hB3⟩
        have hC3 : Below w1.heap.size w1 w3 := hB2.trans (hB3.mono hB2.size)
        have hA3 : RowAt 3 w3 w1.heap.size _ := hA2.below hB3 hA2.lt
        have hK3 : RowAt 58 w3 (w1.heap.size + 1) _ := hK2.below hB3 hK2.lt
        have hF0 := (hB3.cell (p := ⟨wr.heap.size, 0, none⟩) hEl).trans hE0
        have hF1 := (hB3.cell (p := ⟨wr.heap.size, 1, none⟩) hEl).trans hE1
        have hEl3 : wr.heap.size < w3.heap.size := Nat.lt_of_lt_of_le hEl hB3.size
        clear hw2 hB2 hA2 hK2 hsz hE0 hE1 hEl hB3 hA hK hcK hfA hAc hp1 hp2 hk2 hAl hKl
        have hsh : IntKind.i64.wrap (2 ^ i) = ((1 <<< i : Nat) : Int) := i64_shl_big i (by omega)
        have hjp : 1 <<< i < 1073741824 := by have := shl_24 i (by omega); omega
        obtain ⟨s, hs⟩ : ∃ s : Nat, 1 <<< i = s := ⟨_, rfl⟩
        have HS : Hid (1 <<< i = s) := hs
        rw [hs] at hsh hjp
        clear hs
        have hcA := hA3.cell (k := i) (by rw [List.length_set, M.bfl_length T hi]; exact hlt)
        rw [row_set_same (by rw [M.bfl_length T hi]; exact hlt)] at hcA
        have hfK := hK3.frozen a
        have hor := i64_or_big q s (by omega) hjp
        obtain ⟨v, hv⟩ : ∃ v : Nat, q ||| s = v := ⟨_, rfl⟩
        have HV : Hid (q ||| s = v) := hv
        rw [hv] at hor
        clear hv
        have hcK3 := hK3.cell (k := a) ha5
        obtain ⟨z1, hz1⟩ : ∃ z, M.row (M.knl T i) a = z := ⟨_, rfl⟩
        rw [hz1] at hcK3
        clear hz1
        have HR1 : RowAt 3 (w3.setCell ⟨w1.heap.size + 1, a, none⟩ (.int .i64 (v : Nat))).drew w1.heap.size (M.bfl T n (i + 1)) := by
          have := (hA3.other (a := ⟨w1.heap.size + 1, a, none⟩) (show w1.heap.size ≠ w1.heap.size + 1 by omega) (.int .i64 (v : Nat))).drew
          rw [M.bfl_set hlt HB.out.symm] at this
          exact this
        have HR2 : RowAt 58 (w3.setCell ⟨w1.heap.size + 1, a, none⟩ (.int .i64 (v : Nat))).drew (w1.heap.size + 1) (M.knl T (i + 1)) := by
          have := (hK3.set a v).drew
          rw [M.knl_set T i ha5 HA.out (by rw [HB.out, HS.out, HV.out])] at this
          exact this
        have HR3 : Below w1.heap.size w1 (w3.setCell ⟨w1.heap.size + 1, a, none⟩ (.int .i64 (v : Nat))).drew := (hC3.setCell (p := ⟨w1.heap.size + 1, a, none⟩) (Nat.le_succ _) _).drew
        have HH1 : Hid _ := HR1
        have HH2 : Hid _ := HR2
        clear HR1 HR2
        go_wp2_with fail
        go_still_tail 9, (by kernel_rfl)
        go_wp2_with fail
        go_roundw
        case rel => exact ⟨i + 1, by go_num, by omega, HH1.out, HH2.out, HR3⟩
        case measure => simp [intOf]; omega
      · obtain ⟨j, hj⟩ : ∃ j : Nat, M.fm T i = j := ⟨(M.fm T i).toNat, by omega⟩
        rw [hj] at hp2
        have hji : j < i := by omega
        have HB : Hid (M.bs T i = q ||| (M.bs T j ||| 1 <<< j)) := by show _ = _; rw [M.bs_heard hji hj, HA.out, HQ.out]
        have e2 : (((j : Nat) : Int) != -1) = true := by simp
        clear hfm hj
        have hB2 : Below w1.heap.size w1 ((wr.setCell ⟨w1.heap.size, i, none⟩ (.int .i64 (q : Nat))).alloc (.cells #[.int .i64 (a : Nat), .int .i64 (j : Nat)] 53)) := bel_al (hB.setCell (p := ⟨w1.heap.size, i, none⟩) (Nat.le_refl _) _) _
        have hA2 := (hA.set i q).alloc (.cells #[.int .i64 (a : Nat), .int .i64 (j : Nat)] 53)
        have hK2 := (hK.other (a := ⟨w1.heap.size, i, none⟩) (show w1.heap.size + 1 ≠ w1.heap.size by omega) (.int .i64 (q : Nat))).alloc (.cells #[.int .i64 (a : Nat), .int .i64 (j : Nat)] 53)
        have hsz : (wr.setCell ⟨w1.heap.size, i, none⟩ (.int .i64 (q : Nat))).heap.size = wr.heap.size := by simp
        have hE0 : ((wr.setCell ⟨w1.heap.size, i, none⟩ (.int .i64 (q : Nat))).alloc (.cells #[.int .i64 (a : Nat), .int .i64 (j : Nat)] 53)).cell? ⟨wr.heap.size, 0, none⟩ = some (.int .i64 (a : Nat)) := ev_cell0 hsz _ _
        have hE1 : ((wr.setCell ⟨w1.heap.size, i, none⟩ (.int .i64 (q : Nat))).alloc (.cells #[.int .i64 (a : Nat), .int .i64 (j : Nat)] 53)).cell? ⟨wr.heap.size, 1, none⟩ = some (.int .i64 (j : Nat)) := ev_cell1 hsz _ _
        have hEl : wr.heap.size < ((wr.setCell ⟨w1.heap.size, i, none⟩ (.int .i64 (q : Nat))).alloc (.cells #[.int .i64 (a : Nat), .int .i64 (j : Nat)] 53)).heap.size := by simp
        obtain ⟨w2, hw2⟩ : ∃ w2, (wr.setCell ⟨w1.heap.size, i, none⟩ (.int .i64 (q : Nat))).alloc (.cells #[.int .i64 (a : Nat), .int .i64 (j : Nat)] 53) = w2 := ⟨_, rfl⟩
        rw [hw2] at hB2 hA2 hK2 hE0 hE1 hEl
        go_wp2_with fail
        refine (heard_bel _ _ true _ e2).mono ?_
        rintro e w3 ⟨rfl, hB3⟩
        have hC3 : Below w1.heap.size w1 w3 := hB2.trans (hB3.mono hB2.size)
        have hA3 : RowAt 3 w3 w1.heap.size _ := hA2.below hB3 hA2.lt
        have hK3 : RowAt 58 w3 (w1.heap.size + 1) _ := hK2.below hB3 hK2.lt
        have hF0 := (hB3.cell (p := ⟨wr.heap.size, 0, none⟩) hEl).trans hE0
        have hF1 := (hB3.cell (p := ⟨wr.heap.size, 1, none⟩) hEl).trans hE1
        have hEl3 : wr.heap.size < w3.heap.size := Nat.lt_of_lt_of_le hEl hB3.size
        clear hw2 hB2 hA2 hK2 hsz hE0 hE1 hEl hB3 hA hK hcK hfA hAc hp1 hp2 hk2 hAl hKl
        have hcA := hA3.cell (k := i) (by rw [List.length_set, M.bfl_length T hi]; exact hlt)
        rw [row_set_same (by rw [M.bfl_length T hi]; exact hlt)] at hcA
        have hcJ := hA3.cell (k := j) (by rw [List.length_set, M.bfl_length T hi]; omega)
        rw [row_set_other (by omega), M.bfl_row hji] at hcJ
        have hfA3 := hA3.frozen i
        have hbj : M.bs T j < 16777216 := by have h1 := M.bs_lt T j; have h2 := pow_24 j (by omega); omega
        have hshj : IntKind.i64.wrap (2 ^ j) = ((1 <<< j : Nat) : Int) := i64_shl_big j (by omega)
        have hjj : 1 <<< j ≤ 16777216 := shl_24 j (by omega)
        obtain ⟨bj, hbje⟩ : ∃ x, M.bs T j = x := ⟨_, rfl⟩
        obtain ⟨sj, hsj⟩ : ∃ x, 1 <<< j = x := ⟨_, rfl⟩
        rw [hbje] at hcJ hbj HB
        rw [hsj] at hshj hjj HB
        clear hbje hsj
        have hor1 := i64_or_big bj sj (by omega) (by omega)
        have hx1 : bj ||| sj < 2 ^ 25 := Nat.or_lt_two_pow (by omega) (by omega)
        obtain ⟨x1, hx1e⟩ : ∃ x, bj ||| sj = x := ⟨_, rfl⟩
        rw [hx1e] at hor1 hx1 HB
        clear hx1e
        have hor2 := i64_or_big q x1 (by omega) (by omega)
        have hx2 : q ||| x1 < 2 ^ 25 := Nat.or_lt_two_pow (by omega) (by omega)
        obtain ⟨r, hre⟩ : ∃ x, q ||| x1 = x := ⟨_, rfl⟩
        rw [hre] at hor2 hx2 HB
        clear hre
        have hjn : (j : Int) < (n : Int) := by omega
        have hjn' : j < n := by omega
        have hA4 := (hA3.set i r).drew
        have hK4 := (hK3.other (a := ⟨w1.heap.size, i, none⟩) (show w1.heap.size + 1 ≠ w1.heap.size by omega) (.int .i64 (r : Nat))).drew
        have hC4 : Below w1.heap.size w1 (w3.setCell ⟨w1.heap.size, i, none⟩ (.int .i64 (r : Nat))).drew := (hC3.setCell (p := ⟨w1.heap.size, i, none⟩) (Nat.le_refl _) _).drew
        have hG0 : (w3.setCell ⟨w1.heap.size, i, none⟩ (.int .i64 (r : Nat))).drew.cell? ⟨wr.heap.size, 0, none⟩ = some (.int .i64 (a : Nat)) := (World.cell?_setCell_far w3 ⟨w1.heap.size, i, none⟩ ⟨wr.heap.size, 0, none⟩ _ (show w1.heap.size ≠ wr.heap.size by have := hAlt.out; omega)).trans hF0
        have hEl4 : wr.heap.size < (w3.setCell ⟨w1.heap.size, i, none⟩ (.int .i64 (r : Nat))).drew.heap.size := by simpa using hEl3
        rw [List.set_set] at hA4
        obtain ⟨w4, hw4⟩ : ∃ w4, (w3.setCell ⟨w1.heap.size, i, none⟩ (.int .i64 (r : Nat))).drew = w4 := ⟨_, rfl⟩
        rw [hw4] at hA4 hK4 hC4 hG0 hEl4
        have HHa : Hid (RowAt 3 w4 w1.heap.size ((M.bfl T n i).set i r)) := hA4
        have HHk : Hid (RowAt 58 w4 (w1.heap.size + 1) (M.knl T i)) := hK4
        clear hA4 hK4
        go_wp2_with fail
        go_still_tail 14, (by kernel_rfl)
        go_wp2_with fail
        clear hw4 hcA hcJ hfA3 hF0 hF1 hEl3 hC3 hA3 hK3 hor1 hor2 hshj
        have hA3 := HHa.out
        have hK3 := HHk.out
        have hC3 := hC4
        have hsh : IntKind.i64.wrap (2 ^ i) = ((1 <<< i : Nat) : Int) := i64_shl_big i (by omega)
        have hjp : 1 <<< i < 1073741824 := by have := shl_24 i (by omega); omega
        obtain ⟨s, hs⟩ : ∃ s : Nat, 1 <<< i = s := ⟨_, rfl⟩
        have HS : Hid (1 <<< i = s) := hs
        rw [hs] at hsh hjp
        clear hs
        have hcA := hA3.cell (k := i) (by rw [List.length_set, M.bfl_length T hi]; exact hlt)
        rw [row_set_same (by rw [M.bfl_length T hi]; exact hlt)] at hcA
        have hfK := hK3.frozen a
        have hor := i64_or_big r s (by omega) hjp
        obtain ⟨v, hv⟩ : ∃ v : Nat, r ||| s = v := ⟨_, rfl⟩
        have HV : Hid (r ||| s = v) := hv
        rw [hv] at hor
        clear hv
        have hcK3 := hK3.cell (k := a) ha5
        obtain ⟨z1, hz1⟩ : ∃ z, M.row (M.knl T i) a = z := ⟨_, rfl⟩
        rw [hz1] at hcK3
        clear hz1
        have HR1 : RowAt 3 (w4.setCell ⟨w1.heap.size + 1, a, none⟩ (.int .i64 (v : Nat))).drew w1.heap.size (M.bfl T n (i + 1)) := by
          have := (hA3.other (a := ⟨w1.heap.size + 1, a, none⟩) (show w1.heap.size ≠ w1.heap.size + 1 by omega) (.int .i64 (v : Nat))).drew
          rw [M.bfl_set hlt HB.out.symm] at this
          exact this
        have HR2 : RowAt 58 (w4.setCell ⟨w1.heap.size + 1, a, none⟩ (.int .i64 (v : Nat))).drew (w1.heap.size + 1) (M.knl T (i + 1)) := by
          have := (hK3.set a v).drew
          rw [M.knl_set T i ha5 HA.out (by rw [HB.out, HS.out, HV.out])] at this
          exact this
        have HR3 : Below w1.heap.size w1 (w4.setCell ⟨w1.heap.size + 1, a, none⟩ (.int .i64 (v : Nat))).drew := (hC3.setCell (p := ⟨w1.heap.size + 1, a, none⟩) (Nat.le_succ _) _).drew
        have HH1 : Hid _ := HR1
        have HH2 : Hid _ := HR2
        clear HR1 HR2
        clear hA3 hK3 HHa HHk
        go_still_tail 9, (by kernel_rfl)
        go_wp2_with fail
        go_roundw
        case rel => exact ⟨i + 1, by go_num, by omega, HH1.out, HH2.out, HR3⟩
        case measure => simp [intOf]; omega
    · obtain rfl : i = n := by omega
      go_wp2_with fail
      go_ret2
      exact ⟨w1.heap.size, rfl, by rw [M.bfl_end, ← hl] at hA; exact hA, hC1.size, bel_on hC1 hB⟩
end Go.Proofs.YtkojkiggdbffhaaDoor
namespace Go.Proofs.YtkojkiggdbffhaaDoor
open Go.RowKit

/-- The slice's address p leads to the numbers zs. -/
def HasI (zs : List Int) (p : Option Addr) (w : World) : Prop := ∀ j, j < zs.length → ∃ b off, p = some ⟨b, off, none⟩ ∧ b < w.heap.size ∧ w.cell? ⟨b, off + j, none⟩ = some (.int .i64 (zs[j]?.getD 0))
theorem HasI.later {zs : List Int} {p : Option Addr} {w w' : World} (h : HasI zs p w) (hb : Below w.heap.size w w') : HasI zs p w' := fun j hj => by
  obtain ⟨b, off, h1, h2, h3⟩ := h j hj
  exact ⟨b, off, h1, by have := hb.size; omega, (hb.cell (p := ⟨b, off + j, none⟩) h2).trans h3⟩
theorem RowAt.hasI {w : World} {A : Nat} {m : List Nat} {t : TypeId} (h : RowAt t w A m) : HasI (ints m) (some ⟨A, 0, none⟩) w := fun j hj => by
  rw [ints_length] at hj
  exact ⟨A, 0, rfl, h.lt, by rw [ints_get, Nat.zero_add]; exact h.cell hj⟩
set_option maxHeartbeats 1000000 in
theorem same_intsI (zs : List Int) (p q : Option Addr) (n cap cap' : Nat) (w : World) (hl : zs.length = n) (hmax : n ≤ maxLen) (hp : HasI zs p w) (hq : HasI zs q w) :
    Calls Tryd.prog 5 #[.slice p n cap, .slice q n cap'] w fun e w' => e = .returned (.bool true) ∧ Below w.heap.size w w' := by
  unfold maxLen at hmax
  go_enter Tryd.func5, Tryd.ntmps5
  go_wp2
  go_loopw [5] (fun i wr => ∃ k : Nat, k ≤ n ∧ i = .int .i64 k ∧ Below w.heap.size w wr) (fun i _ => n - (intOf i).toNat)
  case atStart => exact ⟨0, Nat.zero_le _, rfl, Below.refl _ _⟩
  case round =>
    obtain ⟨k, hk, rfl, hB⟩ := hrel
    by_cases hlt : k < n
    · obtain ⟨b, off, rfl, hb, hcell⟩ := hp.later hB k (by omega)
      obtain ⟨b', off', rfl, hb', hcell'⟩ := hq.later hB k (by omega)
      obtain ⟨z, hz⟩ : ∃ z, zs[k]?.getD 0 = z := ⟨_, rfl⟩
      rw [hz] at hcell hcell'
      clear hz hp hq
      go_wp2
      go_quiet (fail)
      go_wp2
      go_roundw
      case rel => exact ⟨k + 1, by omega, by go_num, hB.trans ((below_drewN _ _).mono hB.size)⟩
      case measure => simp [intOf]; omega
    · clear hp hq
      go_wp2
      go_ret
      exact ⟨rfl, hB⟩
end Go.Proofs.YtkojkiggdbffhaaDoor
