/- From where no row goes on, in a map of maps, by arrays (map[hist.ops]map[hist.values]struct{}). No walk. -/
import Derived.Test.YtdbejgidgajhlaaHi0
import Derived.Test.YtdbejgidgajhlaaFrm
import Derived.Maps.OwnSet
import Derived.DeepKeys4
namespace Go.Proofs.Ytdbejgidgajhlaa
open Go.RowKit Go.Maps

theorem laidOutH : laidOutB Try.prog = true := by kernel_rfl
theorem op_under : Try.prog.underlying 49 = some (.array 10 4) := by kernel_rfl
theorem op_cells : Try.prog.cellsOf 49 = 10 := by kernel_rfl
theorem op_wide : (match Try.prog.underlying 49 with | some (.array _ _) | some (.struct _) => true | _ => false) = true := by rw [op_under]
set_option maxRecDepth 100000 in
theorem op_law : Keyed Try.prog 49 := Keyed.of_law (deep_law_laid laidOutH (m := 10) (by omega) (of_decide_eq_true (by kernel_rfl)) (by kernel_rfl) op_wide)
theorem op_keyT : Try.prog.keyType 49 = true := by kernel_rfl
theorem va_under : Try.prog.underlying 51 = some (.array 3 3) := by kernel_rfl
theorem va_cells : Try.prog.cellsOf 51 = 3 := by kernel_rfl
theorem va_wide : (match Try.prog.underlying 51 with | some (.array _ _) | some (.struct _) => true | _ => false) = true := by rw [va_under]
set_option maxRecDepth 100000 in
theorem va_law : Keyed Try.prog 51 := Keyed.of_law (deep_law_laid laidOutH (m := 3) (by omega) (of_decide_eq_true (by kernel_rfl)) (by kernel_rfl) va_wide)
theorem va_keyT : Try.prog.keyType 51 = true := by kernel_rfl
/-- Does an op stand? -/
def tb (d i : Nat) : Bool := d.testBit i
/-- Which ops stand already, as cells, and as a value. -/
abbrev opsC (d : Nat) : Array Value := #[.bool (tb d 0), .bool (tb d 1), .bool (tb d 2), .bool (tb d 3), .bool (tb d 4), .bool (tb d 5), .bool (tb d 6), .bool (tb d 7), .bool (tb d 8), .bool (tb d 9)]
abbrev opsV (d : Nat) : Value := .agg (opsC d)
abbrev vaV (a b c : Nat) : Value := .agg #[.int .i64 ((a : Nat) : Int), .int .i64 ((b : Nat) : Int), .int .i64 ((c : Nat) : Int)]
theorem natw {x : Nat} (h : x < 4611686018427387904) : (Lit.int .i64 ((x : Nat) : Int)).wf = true := WalkArith.wf_i64 (by omega)
theorem va_key {a b c : Nat} (ha : a < 4611686018427387904) (hb : b < 4611686018427387904) (hc : c < 4611686018427387904) : ∃ kl, keyOf Try.prog 51 (vaV a b c) = some kl := by
  unfold keyOf
  rw [va_under, va_keyT, show (vaV a b c).formed Try.prog 51 = true by simp [Value.formed, va_cells]]
  simp only [Bool.and_self, if_true]
  have e0 : Try.prog.types.size + 1 = 77 + 1 := by kernel_rfl
  rw [e0]
  have h1 : ∀ z : Nat, z < 4611686018427387904 → Try.prog.keyLits 77 3 [.int .i64 ((z : Nat) : Int)] = some [.int .i64 ((z : Nat) : Int)] := fun z hz => by
    simp only [Program.keyLits, Try.underlying3]
    rw [if_pos ⟨trivial, natw hz⟩]
  have c1 : Try.prog.cellsOf 3 = 1 := by kernel_rfl
  rw [show (vaV a b c).cells.toList = [Value.int .i64 ((a : Nat) : Int), Value.int .i64 ((b : Nat) : Int), Value.int .i64 ((c : Nat) : Int)] from rfl]
  unfold Program.keyLits
  rw [va_under]
  simp only [va_cells, c1]
  rw [if_pos (show [Value.int .i64 ((a : Nat) : Int), Value.int .i64 ((b : Nat) : Int), Value.int .i64 ((c : Nat) : Int)].length = 3 from rfl)]
  simp [List.range_succ, h1 a ha, h1 b hb, h1 c hc]
theorem op_key (d : Nat) : ∃ kl, keyOf Try.prog 49 (opsV d) = some kl := by
  unfold keyOf
  rw [op_under, op_keyT, show (opsV d).formed Try.prog 49 = true by simp [Value.formed, op_cells]]
  simp only [Bool.and_self, if_true]
  have e0 : Try.prog.types.size + 1 = 77 + 1 := by kernel_rfl
  rw [e0]
  have h1 : ∀ z : Bool, Try.prog.keyLits 77 4 [.bool z] = some [.bool z] := fun z => by
    simp only [Program.keyLits, Try.underlying4]
  have c1 : Try.prog.cellsOf 4 = 1 := by kernel_rfl
  rw [show (opsV d).cells.toList = [.bool (tb d 0), .bool (tb d 1), .bool (tb d 2), .bool (tb d 3), .bool (tb d 4), .bool (tb d 5), .bool (tb d 6), .bool (tb d 7), .bool (tb d 8), .bool (tb d 9)] from rfl]
  unfold Program.keyLits
  rw [op_under]
  simp only [op_cells, c1]
  rw [if_pos (by rfl)]
  simp [List.range_succ, h1]
theorem ops_inj {d e : Nat} (hd : d < 1024) (he : e < 1024) (h : opsV d = opsV e) : d = e := by
  apply Nat.eq_of_testBit_eq
  intro i
  simp only [opsV, opsC, Value.agg.injEq, Array.mk.injEq, List.cons.injEq, Value.bool.injEq, and_true] at h
  obtain ⟨h0, h1, h2, h3, h4, h5, h6, h7, h8, h9⟩ := h
  by_cases hi : i < 10
  · match i, hi with
    | 0, _ => exact h0
    | 1, _ => exact h1
    | 2, _ => exact h2
    | 3, _ => exact h3
    | 4, _ => exact h4
    | 5, _ => exact h5
    | 6, _ => exact h6
    | 7, _ => exact h7
    | 8, _ => exact h8
    | 9, _ => exact h9
  · have f : ∀ x : Nat, x < 1024 → x.testBit i = false := fun x hx => Nat.testBit_lt_two_pow (Nat.lt_of_lt_of_le hx (Nat.pow_le_pow_right (n := 2) (by omega) (show 10 ≤ i by omega)))
    rw [f d hd, f e he]
/-! ### a set of values -/
theorem vset_under : Try.prog.underlying 56 = some (.map 51 54) := by kernel_rfl
theorem omap_under : Try.prog.underlying 44 = some (.map 49 56) := by kernel_rfl
theorem unitz (w : World) : (zeroValue 54).run Try.prog w = .ok (.agg #[]) w := by kernel_rfl
theorem vsetz (w : World) : (zeroValue 56).run Try.prog w = .ok (.map none) w := by kernel_rfl
theorem run_make_vset (w : World) : (Instr.makeMap 56 none).run Try.prog w = .ok (.map (some w.heap.size)) (w.alloc (.map #[] 0)) := by
  simp [Instr.makeMap, Result.andThen, newObj]
  rfl
theorem run_make_omap (w : World) : (Instr.makeMap 44 none).run Try.prog w = .ok (.map (some w.heap.size)) (w.alloc (.map #[] 0)) := by
  simp [Instr.makeMap, Result.andThen, newObj]
  rfl
theorem run_eql_nomap (w : World) : (binOp .eql 56 (.map none) (.map none)).run Try.prog w = .ok (.bool true) w := by kernel_rfl
theorem run_eql_map (B : Nat) (w : World) : (binOp .eql 56 (.map (some B)) (.map none)).run Try.prog w = .ok (.bool false) w := by kernel_rfl
/-- Block B is a set of just the values L, of at most c. -/
def Kv (L : List (List Nat)) (c B : Nat) (w : World) : Prop := ∃ D : DataW Unit, w.ownsMap Try.prog 51 unitElem B c D ∧
  ∀ x y z kl, keyOf Try.prog 51 (vaV x y z) = some kl → (Maps.has D kl = true ↔ [x, y, z] ∈ L)
theorem Kv.lt {L : List (List Nat)} {c B : Nat} {w : World} (h : Kv L c B w) : B < w.heap.size := by
  obtain ⟨D, ho, _⟩ := h
  exact ho.lt
theorem Kv.at_ {L : List (List Nat)} {c B : Nat} {w w' : World} (h : Kv L c B w) (hb : w'.heap[B]? = w.heap[B]?) : Kv L c B w' := by
  obtain ⟨D, ⟨es, clock, h1, h2⟩, r⟩ := h
  exact ⟨D, ⟨es, clock, hb.trans h1, h2⟩, r⟩
theorem Kv.mono {L : List (List Nat)} {c c' B : Nat} {w : World} (h : Kv L c B w) (hc : c ≤ c') : Kv L c' B w := by
  obtain ⟨D, ho, r⟩ := h
  exact ⟨D, ho.mono hc, r⟩
theorem Kv.map {L : List (List Nat)} {c B : Nat} {w : World} (h : Kv L c B w) : ∃ es clock, w.heap[B]? = some (.map es clock) := by
  obtain ⟨D, ⟨es, clock, h1, h2⟩, r⟩ := h
  exact ⟨es, clock, h1⟩
theorem kv_made (w : World) (c : Nat) : Kv [] c w.heap.size (w.alloc (.map #[] 0)) :=
  ⟨.map [], (World.ownsMap_made w _ _ _).mono (Nat.zero_le _), fun x y z kl _ => by simp [Maps.has]⟩
theorem kv_store {L : List (List Nat)} {c B : Nat} {w : World} (h : Kv L c B w) (hn : c < maxLen) {x y z : Nat} (hx : x < 4611686018427387904) (hy : y < 4611686018427387904) (hz : z < 4611686018427387904) :
    ∃ w', (Instr.mapUpdate 56 (.map (some B)) (vaV x y z) (.agg #[])).run Try.prog w = .ok () w' ∧ Kv (L ++ [[x, y, z]]) (c + 1) B w' ∧ w.grownBy w' (some B) := by
  obtain ⟨D, ho, h1⟩ := h
  obtain ⟨kl, hkl⟩ := va_key hx hy hz
  obtain ⟨w', hrun, ho', ht⟩ := ho.store va_law vset_under hn hkl (unitElem_mk (H := Unit))
  have hkey := va_law.key hkl
  refine ⟨w', hrun, ⟨_, ho', ?_⟩, ht.grown⟩
  intro x' y' z' kl' hkl'
  by_cases e0 : kl' = kl
  · subst e0
    have e2 := va_law.inj hkl' hkl
    have e3 : x' = x ∧ y' = y ∧ z' = z := by
      simp at e2
      omega
    obtain ⟨rfl, rfl, rfl⟩ := e3
    rw [has_put_same ho.isMap hkey _]
    simp
  · rw [has_put_other e0, h1 x' y' z' kl' hkl', List.mem_append, List.mem_singleton]
    constructor
    · exact .inl
    · rintro (h | h)
      · exact h
      · simp only [List.cons.injEq, and_true] at h
        obtain ⟨rfl, rfl, rfl⟩ := h
        rw [hkl] at hkl'
        exact absurd (Option.some.inj hkl').symm e0
theorem kv_look {L : List (List Nat)} {c B : Nat} {w : World} (h : Kv L c B w) {x y z : Nat} (hx : x < 4611686018427387904) (hy : y < 4611686018427387904) (hz : z < 4611686018427387904) :
    (Instr.lookup 56 (.map (some B)) (vaV x y z) true).run Try.prog w = .ok (.tuple #[.agg #[], .bool (decide ([x, y, z] ∈ L))]) w := by
  obtain ⟨D, ho, h1⟩ := h
  obtain ⟨kl, hkl⟩ := va_key hx hy hz
  obtain ⟨v, ps, hrun, hv⟩ := ho.look_ok va_law vset_under (unitz w) (unitElem_mk (H := Unit)) hkl
  obtain ⟨rfl, _⟩ := unitElem_inv hv
  have e0 : Maps.has D kl = decide ([x, y, z] ∈ L) := by
    rw [Bool.eq_iff_iff, decide_eq_true_eq]
    exact h1 x y z kl hkl
  rw [hrun, e0]
theorem kv_nil (w : World) {x y z : Nat} (hx : x < 4611686018427387904) (hy : y < 4611686018427387904) (hz : z < 4611686018427387904) :
    (Instr.lookup 56 (.map none) (vaV x y z) true).run Try.prog w = .ok (.tuple #[.agg #[], .bool false]) w := by
  obtain ⟨kl, hkl⟩ := va_key hx hy hz
  rw [Maps.look_nil true va_law vset_under (unitz w) hkl]
  simp
/-! ### a map of such sets -/
def mapElem : Value → Option (DataW Unit × List MemPlace)
  | .map (some b) => some (.lit (.int .i64 ((b : Nat) : Int)), [])
  | .map none => some (.lit (.int .i64 (-1)), [])
  | _ => none
def ibD : Option Nat → DataW Unit
  | some b => .lit (.int .i64 ((b : Nat) : Int))
  | none => .lit (.int .i64 (-1))
theorem mapElem_mk (q : Option Nat) : mapElem (.map q) = some (ibD q, []) := by cases q <;> rfl
theorem ibD_inj {q r : Option Nat} (h : ibD q = ibD r) : q = r := by
  cases q <;> cases r <;> simp [ibD] at h ⊢
  all_goals omega
theorem mapElem_inv {v : Value} {q : Option Nat} {ps : List MemPlace} (h : mapElem v = some (ibD q, ps)) : v = .map q := by
  unfold mapElem at h
  split at h
  · rename_i b
    simp only [Option.some.injEq, Prod.mk.injEq] at h
    rw [ibD_inj (q := some b) (r := q) h.1]
  · simp only [Option.some.injEq, Prod.mk.injEq] at h
    rw [ibD_inj (q := none) (r := q) h.1]
  · cases h
/-- Block B is a map of sets: which sets it has for which ops is told by ib. -/
def Om (ib : Nat → Option Nat) (c B : Nat) (w : World) : Prop := ∃ D : DataW Unit, w.ownsMap Try.prog 49 mapElem B c D ∧
    ∀ d, d < 1024 → ∀ kl, keyOf Try.prog 49 (opsV d) = some kl → D.atKey kl (.lit (.int .i64 (-1))) = ibD (ib d)
theorem Om.lt {ib : Nat → Option Nat} {c B : Nat} {w : World} (h : Om ib c B w) : B < w.heap.size := by
  obtain ⟨D, ho, _⟩ := h
  exact ho.lt
theorem Om.at_ {ib : Nat → Option Nat} {c B : Nat} {w w' : World} (h : Om ib c B w) (hb : w'.heap[B]? = w.heap[B]?) : Om ib c B w' := by
  obtain ⟨D, ⟨es, clock, h1, h2⟩, r⟩ := h
  exact ⟨D, ⟨es, clock, hb.trans h1, h2⟩, r⟩
theorem Om.mono {ib : Nat → Option Nat} {c c' B : Nat} {w : World} (h : Om ib c B w) (hc : c ≤ c') : Om ib c' B w := by
  obtain ⟨D, ho, r⟩ := h
  exact ⟨D, ho.mono hc, r⟩
theorem Om.map {ib : Nat → Option Nat} {c B : Nat} {w : World} (h : Om ib c B w) : ∃ es clock, w.heap[B]? = some (.map es clock) := by
  obtain ⟨D, ⟨es, clock, h1, h2⟩, r⟩ := h
  exact ⟨es, clock, h1⟩
theorem om_made (w : World) (c : Nat) : Om (fun _ => none) c w.heap.size (w.alloc (.map #[] 0)) :=
  ⟨.map [], (World.ownsMap_made w _ _ _).mono (Nat.zero_le _), fun _ _ _ _ => rfl⟩
theorem om_look {ib : Nat → Option Nat} {c B : Nat} {w : World} (h : Om ib c B w) {d : Nat} (hd : d < 1024) :
    (Instr.lookup 44 (.map (some B)) (opsV d) false).run Try.prog w = .ok (.map (ib d)) w := by
  obtain ⟨D, ho, h1⟩ := h
  obtain ⟨kl, hkl⟩ := op_key d
  obtain ⟨v, ps, hrun, hv⟩ := ho.lookup op_law omap_under (vsetz w) (mapElem_mk none) hkl
  rw [show ibD none = .lit (.int .i64 (-1)) from rfl, h1 d hd kl hkl] at hv
  rw [hrun, mapElem_inv hv]
theorem om_store {ib : Nat → Option Nat} {c B : Nat} {w : World} (h : Om ib c B w) (hn : c < maxLen) {d : Nat} (hd : d < 1024) (N : Nat) :
    ∃ w', (Instr.mapUpdate 44 (.map (some B)) (opsV d) (.map (some N))).run Try.prog w = .ok () w' ∧ Om (fun e => if e = d then some N else ib e) (c + 1) B w' ∧ w.grownBy w' (some B) := by
  obtain ⟨D, ho, h1⟩ := h
  obtain ⟨kl, hkl⟩ := op_key d
  obtain ⟨w', hrun, ho', ht⟩ := ho.store op_law omap_under hn hkl (mapElem_mk (some N))
  have hkey := op_law.key hkl
  refine ⟨w', hrun, ⟨_, ho', ?_⟩, ht.grown⟩
  intro e he kl' hkl'
  by_cases e0 : kl' = kl
  · subst e0
    obtain rfl := ops_inj he hd (op_law.inj hkl' hkl)
    show _ = ibD (if e = e then some N else ib e)
    rw [if_pos rfl]
    exact atKey_put_same ho.isMap hkey _ _
  · have hne : e ≠ d := fun x => by subst x; rw [hkl] at hkl'; exact e0 (Option.some.inj hkl').symm
    show _ = ibD (if e = d then some N else ib e)
    rw [if_neg hne, atKey_put_other e0]
    exact h1 e he kl' hkl'
end Go.Proofs.Ytdbejgidgajhlaa
