/- Locks in memory (package lock, Table): its one block, and that of what was done; what a deed changes in it. No walk. -/
import Derived.Test.YtlkdclifcmohlaaDoorBWl
import Derived.Test.YtlkdclifcmohlaaDoorSca
import Derived.Test.YtlkdclifcmohlaaDoorFrm
namespace Go.Proofs.YtlkdclifcmohlaaDoor
open Go.RowKit
namespace M
/-- who holds a lock of an item to read, to write; who freed something; who stands against a lock: as sets -/
def shS (s : Lk) (o : Nat) : Nat := cnt01 5 fun t => s.hd t o % 2 == 1
def owS (s : Lk) (o : Nat) : Nat := cnt01 5 fun t => decide (2 ≤ s.hd t o)
def frS (s : Lk) : Nat := cnt01 5 fun t => decide (t ∈ s.fo)
def agS (s : Lk) (x o k : Nat) : Nat := cnt01 5 (agB s x o k)
theorem c5_lt (f : Nat → Bool) : cnt01 5 f < 32 := Nat.lt_pow_two_of_testBit (n := 5) _ (fun i hi => by rw [cnt01_bit, decide_eq_false (by omega)]; rfl)
theorem shS_lt (s : Lk) (o : Nat) : shS s o < 32 := c5_lt _
theorem owS_lt (s : Lk) (o : Nat) : owS s o < 32 := c5_lt _
theorem frS_lt (s : Lk) : frS s < 32 := c5_lt _
theorem agS_lt (s : Lk) (x o k : Nat) : agS s x o k < 32 := c5_lt _
theorem oneB (t j : Nat) : (1 <<< t).testBit j = decide (t = j) := by rw [Nat.shiftLeft_eq, Nat.one_mul, Nat.testBit_two_pow]
theorem c5_congr {f g : Nat → Bool} (h : ∀ t, t < 5 → f t = g t) : cnt01 5 f = cnt01 5 g := Nat.eq_of_testBit_eq fun j => by
  rw [cnt01_bit, cnt01_bit]
  by_cases hj : j < 5
  · rw [h j hj]
  · rw [decide_eq_false (p := j < 5) hj]; rfl
theorem c5_or {f g : Nat → Bool} {t : Nat} (ht : t < 5) (h : ∀ j, j < 5 → g j = (f j || decide (t = j))) : cnt01 5 g = cnt01 5 f ||| 1 <<< t := Nat.eq_of_testBit_eq fun j => by
  rw [Nat.testBit_or, cnt01_bit, cnt01_bit, oneB]
  by_cases hj : j < 5
  · rw [h j hj, decide_eq_true hj]; simp
  · rw [decide_eq_false (p := j < 5) hj, decide_eq_false (p := t = j) (by omega)]; rfl
theorem c5_not {f g : Nat → Bool} {t r : Nat} (hr : ∀ j, r.testBit j = ((cnt01 5 f).testBit j && !(1 <<< t).testBit j)) (h : ∀ j, j < 5 → g j = (f j && !decide (t = j))) : r = cnt01 5 g := Nat.eq_of_testBit_eq fun j => by
  rw [hr, cnt01_bit, cnt01_bit, oneB]
  by_cases hj : j < 5
  · rw [h j hj, decide_eq_true hj]; simp
  · rw [decide_eq_false (p := j < 5) hj]; rfl
/-- who stands against a lock -/
theorem agS_of {s : Lk} {x o k b r : Nat} (hle : ∀ t, s.hd t o ≤ 3) (hb : b = if k = 1 then owS s o ||| shS s o else owS s o) (hr : ∀ j, r.testBit j = (b.testBit j && !(1 <<< x).testBit j)) : r = agS s x o k := Nat.eq_of_testBit_eq fun j => by
  rw [hr, oneB]
  unfold agS
  rw [cnt01_bit]
  have hB : b.testBit j = (decide (j < 5) && (decide (2 ≤ s.hd j o) || (k == 1 && s.hd j o == 1))) := by
    rw [hb]
    by_cases k1 : k = 1
    · rw [if_pos k1, Nat.testBit_or]
      unfold owS shS
      rw [cnt01_bit, cnt01_bit]
      have := hle j
      by_cases hj : j < 5
      · have hv : s.hd j o = 0 ∨ s.hd j o = 1 ∨ s.hd j o = 2 ∨ s.hd j o = 3 := by omega
        rw [decide_eq_true hj, k1]
        rcases hv with e | e | e | e <;> rw [e] <;> rfl
      · rw [decide_eq_false (p := j < 5) hj]; rfl
    · rw [if_neg k1]
      unfold owS
      rw [cnt01_bit, show (k == 1) = false from by simpa using k1]
      simp
  rw [hB]
  unfold agB
  by_cases hx : x = j
  · subst hx; simp
  · rw [decide_eq_false hx, decide_eq_true (show j ≠ x from fun e => hx e.symm)]
    simp
theorem ag_any {s : Lk} {x o k : Nat} : has5 (agB s x o k) = true ↔ agS s x o k ≠ 0 := by
  constructor
  · intro h e
    unfold has5 at h
    rw [List.any_eq_true] at h
    obtain ⟨y, hy, h⟩ := h
    have := cnt01_bit 5 (agB s x o k) y
    unfold agS at e
    rw [e, h, decide_eq_true (List.mem_range.1 hy)] at this
    simp at this
  · intro h
    cases c : has5 (agB s x o k) with
    | true => rfl
    | false =>
      refine absurd ?_ h
      refine Nat.eq_of_testBit_eq fun j => ?_
      unfold agS
      rw [cnt01_bit, Nat.zero_testBit]
      by_cases hj : j < 5
      · have h5 := has5_no (p := agB s x o k) (by rw [c]; decide) hj
        rw [h5]; simp
      · rw [decide_eq_false (p := j < 5) hj]; rfl
/-! ### what a deed leaves -/
def sWait (s : Lk) (t o k : Nat) : Lk := { s with wa := up1 s.wa t (o * 2 + k + 1) }
def sGot (s : Lk) (t o k : Nat) : Lk := { s with wa := up1 s.wa t 0, hd := up2 s.hd t o (wth (s.hd t o) k) }
def sIdle (s : Lk) (t : Nat) : Lk := { s with wa := up1 s.wa t 0 }
def sFree (s : Lk) (t o : Nat) : Lk := { s with hd := up2 s.hd t o 0, fo := if t ∈ s.fo then s.fo else s.fo ++ [t] }
def sAct (s : Lk) (t o wr : Nat) : Lk := { s with ac := s.ac ++ [⟨t, o, wr⟩] }
theorem lk_state {s : Lk} {t o k wr : Nat} (hk : k ≤ 1) (hf : t ∈ s.fo) : lkDo s k t o wr = (s, 7) := by unfold lkDo; rw [if_pos hk, if_pos hf]
theorem lk_wait {s : Lk} {t o k wr : Nat} (hk : k ≤ 1) (hf : t ∉ s.fo) (ha : agS s t o k ≠ 0) : lkDo s k t o wr = (sWait s t o k, 6) := by unfold lkDo; rw [if_pos hk, if_neg hf, if_pos (ag_any.2 ha)]; rfl
theorem lk_got {s : Lk} {t o k wr : Nat} (hk : k ≤ 1) (hf : t ∉ s.fo) (ha : agS s t o k = 0) : lkDo s k t o wr = (sGot s t o k, 0) := by unfold lkDo; rw [if_pos hk, if_neg hf, if_neg (fun h => ag_any.1 h ha)]; rfl
theorem lk_nofree {s : Lk} {t o wr : Nat} (h : s.hd t o = 0) : lkDo s 2 t o wr = (s, 5) := by unfold lkDo; rw [if_neg (by decide), if_pos rfl, if_pos h]
theorem lk_free {s : Lk} {t o wr : Nat} (h : s.hd t o ≠ 0) : lkDo s 2 t o wr = (sFree s t o, 0) := by unfold lkDo; rw [if_neg (by decide), if_pos rfl, if_neg h]; rfl
theorem lk_none {s : Lk} {t o wr : Nat} (h : s.hd t o = 0 ∨ (s.hd t o = 1 ∧ wr = 1)) : lkDo s 3 t o wr = (s, 5) := by unfold lkDo; rw [if_neg (by decide), if_neg (by decide), if_pos h]
theorem lk_full {s : Lk} {t o wr : Nat} (h : ¬ (s.hd t o = 0 ∨ (s.hd t o = 1 ∧ wr = 1))) (hl : 24 ≤ s.ac.length) : lkDo s 3 t o wr = (s, 4) := by unfold lkDo; rw [if_neg (by decide), if_neg (by decide), if_neg h, if_pos hl]
theorem lk_act {s : Lk} {t o wr : Nat} (h : ¬ (s.hd t o = 0 ∨ (s.hd t o = 1 ∧ wr = 1))) (hl : ¬ 24 ≤ s.ac.length) : lkDo s 3 t o wr = (sAct s t o wr, 0) := by unfold lkDo; rw [if_neg (by decide), if_neg (by decide), if_neg h, if_neg hl]; rfl
theorem fr_has (s : Lk) {t : Nat} (ht : t < 5) : (frS s).testBit t = decide (t ∈ s.fo) := by unfold frS; rw [cnt01_bit, decide_eq_true ht]; simp
theorem sh_has (s : Lk) {t : Nat} (o : Nat) (ht : t < 5) : (shS s o).testBit t = (s.hd t o % 2 == 1) := by unfold shS; rw [cnt01_bit, decide_eq_true ht]; simp
theorem ow_has (s : Lk) {t : Nat} (o : Nat) (ht : t < 5) : (owS s o).testBit t = decide (2 ≤ s.hd t o) := by unfold owS; rw [cnt01_bit, decide_eq_true ht]; simp
theorem any_has {s : Lk} {t o : Nat} (ht : t < 5) (hle : s.hd t o ≤ 3) : (shS s o ||| owS s o).testBit t = decide (s.hd t o ≠ 0) := by
  rw [Nat.testBit_or, sh_has s o ht, ow_has s o ht]
  have hv : s.hd t o = 0 ∨ s.hd t o = 1 ∨ s.hd t o = 2 ∨ s.hd t o = 3 := by omega
  rcases hv with e | e | e | e <;> rw [e] <;> rfl
theorem any_has' {s : Lk} {t o : Nat} (ht : t < 5) (hle : s.hd t o ≤ 3) : (owS s o ||| shS s o).testBit t = decide (s.hd t o ≠ 0) := by rw [Nat.or_comm]; exact any_has ht hle
theorem got_sh {s : Lk} {t o : Nat} (ht : t < 5) (hle : ∀ x y, s.hd x y ≤ 3) : shS (sGot s t o 0) o = shS s o ||| 1 <<< t := c5_or ht fun j _ => by
  show (up2 s.hd t o (wth (s.hd t o) 0) j o % 2 == 1) = _
  unfold up2
  by_cases e : j = t
  · subst e
    rw [if_pos ⟨rfl, rfl⟩, decide_eq_true rfl]
    have := hle j o
    have hv : s.hd j o = 0 ∨ s.hd j o = 1 ∨ s.hd j o = 2 ∨ s.hd j o = 3 := by omega
    rcases hv with e | e | e | e <;> rw [e] <;> rfl
  · rw [if_neg (fun h => e h.1), decide_eq_false (fun h => e h.symm), Bool.or_false]
theorem got_ow {s : Lk} {t o : Nat} (ht : t < 5) (hle : ∀ x y, s.hd x y ≤ 3) : owS (sGot s t o 1) o = owS s o ||| 1 <<< t := c5_or ht fun j _ => by
  show decide (2 ≤ up2 s.hd t o (wth (s.hd t o) 1) j o) = _
  unfold up2
  by_cases e : j = t
  · subst e
    rw [if_pos ⟨rfl, rfl⟩, decide_eq_true (p := j = j) rfl, decide_eq_true (wth_val _ (hle j o)).2.2.2.2]
    simp
  · rw [if_neg (fun h => e h.1), decide_eq_false (p := t = j) (fun h => e h.symm), Bool.or_false]
theorem got_sh1 {s : Lk} {t o y : Nat} (hle : ∀ x y, s.hd x y ≤ 3) : shS (sGot s t o 1) y = shS s y := c5_congr fun j _ => by
  show (up2 s.hd t o (wth (s.hd t o) 1) j y % 2 == 1) = _
  unfold up2
  by_cases e : j = t ∧ y = o
  · obtain ⟨rfl, rfl⟩ := e
    rw [if_pos ⟨rfl, rfl⟩]
    have := hle j y
    have hv : s.hd j y = 0 ∨ s.hd j y = 1 ∨ s.hd j y = 2 ∨ s.hd j y = 3 := by omega
    rcases hv with e | e | e | e <;> rw [e] <;> rfl
  · rw [if_neg e]
theorem got_ow0 {s : Lk} {t o y : Nat} (hle : ∀ x y, s.hd x y ≤ 3) : owS (sGot s t o 0) y = owS s y := c5_congr fun j _ => by
  show decide (2 ≤ up2 s.hd t o (wth (s.hd t o) 0) j y) = _
  unfold up2
  by_cases e : j = t ∧ y = o
  · obtain ⟨rfl, rfl⟩ := e
    rw [if_pos ⟨rfl, rfl⟩]
    have := hle j y
    have hv : s.hd j y = 0 ∨ s.hd j y = 1 ∨ s.hd j y = 2 ∨ s.hd j y = 3 := by omega
    rcases hv with e | e | e | e <;> rw [e] <;> rfl
  · rw [if_neg e]
theorem got_other {s : Lk} {t o k y : Nat} (h : y ≠ o) : shS (sGot s t o k) y = shS s y ∧ owS (sGot s t o k) y = owS s y := by
  constructor
  · refine c5_congr fun j _ => ?_
    show (up2 s.hd t o _ j y % 2 == 1) = _
    unfold up2
    rw [if_neg (fun e => h e.2)]
  · refine c5_congr fun j _ => ?_
    show decide (2 ≤ up2 s.hd t o _ j y) = _
    unfold up2
    rw [if_neg (fun e => h e.2)]
theorem free_other {s : Lk} {t o y : Nat} (h : y ≠ o) : shS (sFree s t o) y = shS s y ∧ owS (sFree s t o) y = owS s y := by
  constructor
  · refine c5_congr fun j _ => ?_
    show (up2 s.hd t o _ j y % 2 == 1) = _
    unfold up2
    rw [if_neg (fun e => h e.2)]
  · refine c5_congr fun j _ => ?_
    show decide (2 ≤ up2 s.hd t o _ j y) = _
    unfold up2
    rw [if_neg (fun e => h e.2)]
theorem free_sh {s : Lk} {t o r : Nat} (hr : ∀ j, r.testBit j = ((shS s o).testBit j && !(1 <<< t).testBit j)) : r = shS (sFree s t o) o := c5_not hr fun j _ => by
  show (up2 s.hd t o 0 j o % 2 == 1) = _
  unfold up2
  by_cases e : j = t
  · subst e; rw [if_pos ⟨rfl, rfl⟩, decide_eq_true (p := j = j) rfl]; simp
  · rw [if_neg (fun h => e h.1), decide_eq_false (p := t = j) (fun h => e h.symm)]; simp
theorem free_ow {s : Lk} {t o r : Nat} (hr : ∀ j, r.testBit j = ((owS s o).testBit j && !(1 <<< t).testBit j)) : r = owS (sFree s t o) o := c5_not hr fun j _ => by
  show decide (2 ≤ up2 s.hd t o 0 j o) = _
  unfold up2
  by_cases e : j = t
  · subst e; rw [if_pos ⟨rfl, rfl⟩, decide_eq_true (p := j = j) rfl]; simp
  · rw [if_neg (fun h => e h.1), decide_eq_false (p := t = j) (fun h => e h.symm)]; simp
theorem free_fr {s : Lk} {t o : Nat} (ht : t < 5) : frS (sFree s t o) = frS s ||| 1 <<< t := c5_or ht fun j _ => by
  show decide (j ∈ if t ∈ s.fo then s.fo else s.fo ++ [t]) = _
  by_cases f : t ∈ s.fo
  · rw [if_pos f]
    by_cases e : t = j
    · subst e; rw [decide_eq_true f]; rfl
    · rw [decide_eq_false e, Bool.or_false]
  · rw [if_neg f]
    by_cases e : t = j
    · subst e; simp
    · rw [decide_eq_false e, Bool.or_false, Bool.eq_iff_iff]
      simp
      exact fun h => absurd h.symm e
end M
/-- Cell k of a table of locks: of each item who holds it to read, to write; of each transaction whether it waits, for which lock, of which item; who freed something; what was done. -/
def tbF (s : M.Lk) (v : Value) (k : Nat) : Value :=
  if k < 8 then (if k % 2 = 0 then .int .i64 (M.shS s (k / 2) : Nat) else .int .i64 (M.owS s (k / 2) : Nat))
  else if k < 23 then (if (k - 8) % 3 = 0 then .bool (s.wa ((k - 8) / 3) != 0) else if (k - 8) % 3 = 1 then .int .i64 ((s.wa ((k - 8) / 3) - 1) % 2 : Nat) else .int .i64 ((s.wa ((k - 8) / 3) - 1) / 2 : Nat))
  else if k = 23 then .int .i64 (M.frS s : Nat) else v
structure TVr (w : World) (S : Nat) (s : M.Lk) (v : Value) : Prop where
  blk : w.rowIs S 76 25 (tbF s v)
  act : w.ownsRow 0 31 3 v s.ac.length (acells s.ac)
/-- A table of locks, both of whose blocks are in O. -/
def TV (O : Nat → Prop) (S : Nat) (s : M.Lk) (w : World) : Prop := ∃ v, TVr w S s v ∧ O S ∧ ∀ g, v.ownBlock = some g → O g
section
variable {w w' : World} {S : Nat} {s : M.Lk} {v : Value}
theorem tbF_sh (s : M.Lk) (v : Value) {o : Nat} (ho : o < 4) : tbF s v (o * 2) = .int .i64 (M.shS s o : Nat) := by
  unfold tbF; rw [if_pos (by omega), if_pos (by omega), show o * 2 / 2 = o by omega]
theorem tbF_ow (s : M.Lk) (v : Value) {o : Nat} (ho : o < 4) : tbF s v (o * 2 + 1) = .int .i64 (M.owS s o : Nat) := by
  unfold tbF; rw [if_pos (by omega), if_neg (by omega), show (o * 2 + 1) / 2 = o by omega]
theorem tbF_is (s : M.Lk) (v : Value) {t : Nat} (ht : t < 5) : tbF s v (8 + t * 3) = .bool (s.wa t != 0) := by
  unfold tbF; rw [if_neg (by omega), if_pos (by omega), if_pos (by omega), show (8 + t * 3 - 8) / 3 = t by omega]
theorem tbF_kind (s : M.Lk) (v : Value) {t : Nat} (ht : t < 5) : tbF s v (8 + t * 3 + 1) = .int .i64 ((s.wa t - 1) % 2 : Nat) := by
  unfold tbF; rw [if_neg (by omega), if_pos (by omega), if_neg (by omega), if_pos (by omega), show (8 + t * 3 + 1 - 8) / 3 = t by omega]
theorem tbF_item (s : M.Lk) (v : Value) {t : Nat} (ht : t < 5) : tbF s v (8 + t * 3 + 2) = .int .i64 ((s.wa t - 1) / 2 : Nat) := by
  unfold tbF; rw [if_neg (by omega), if_pos (by omega), if_neg (by omega), if_neg (by omega), show (8 + t * 3 + 2 - 8) / 3 = t by omega]
theorem TVr.lt (h : TVr w S s v) : S < w.heap.size := h.blk.lt
theorem TVr.sh (h : TVr w S s v) {o : Nat} (ho : o < 4) : w.cell? ⟨S, o * 2, none⟩ = some (.int .i64 (M.shS s o : Nat)) := by rw [h.blk.cell (i := o * 2) (by omega), tbF_sh _ _ ho]
theorem TVr.ow (h : TVr w S s v) {o : Nat} (ho : o < 4) : w.cell? ⟨S, o * 2 + 1, none⟩ = some (.int .i64 (M.owS s o : Nat)) := by rw [h.blk.cell (i := o * 2 + 1) (by omega), tbF_ow _ _ ho]
theorem TVr.is_ (h : TVr w S s v) {t : Nat} (ht : t < 5) : w.cell? ⟨S, 8 + t * 3, none⟩ = some (.bool (s.wa t != 0)) := by rw [h.blk.cell (i := 8 + t * 3) (by omega), tbF_is _ _ ht]
theorem TVr.kind (h : TVr w S s v) {t : Nat} (ht : t < 5) : w.cell? ⟨S, 8 + t * 3 + 1, none⟩ = some (.int .i64 ((s.wa t - 1) % 2 : Nat)) := by rw [h.blk.cell (i := 8 + t * 3 + 1) (by omega), tbF_kind _ _ ht]
theorem TVr.item (h : TVr w S s v) {t : Nat} (ht : t < 5) : w.cell? ⟨S, 8 + t * 3 + 2, none⟩ = some (.int .i64 ((s.wa t - 1) / 2 : Nat)) := by rw [h.blk.cell (i := 8 + t * 3 + 2) (by omega), tbF_item _ _ ht]
theorem TVr.freed (h : TVr w S s v) : w.cell? ⟨S, 23, none⟩ = some (.int .i64 (M.frS s : Nat)) := h.blk.cell (i := 23) (by omega)
theorem TVr.acts (h : TVr w S s v) : w.cell? ⟨S, 24, none⟩ = some v := h.blk.cell (i := 24) (by omega)
theorem TVr.neS (h : TVr w S s v) : v.ownBlock ≠ some S := rowIs_owns h.blk h.act (by decide)
/-- both blocks lie as they lay -/
theorem TVr.at_ (h : TVr w S s v) (hb : ∀ k, k < w.heap.size → (k = S ∨ v.ownBlock = some k) → w'.heap[k]? = w.heap[k]?) : TVr w' S s v :=
  ⟨h.blk.of_block (hb S h.lt (.inl rfl)), owns_blk h.act (fun g hg => hb g (h.act.lt g hg).2 (.inr hg))⟩
theorem TVr.below (h : TVr w S s v) (hb : Below w.heap.size w w') : TVr w' S s v := h.at_ (fun k hk _ => hb.block k hk)
/-- a store into the table's block, not of what was done -/
theorem TVr.set (h : TVr w S s v) {i : Nat} {u : Value} {s' : M.Lk} (ha : s'.ac = s.ac) (e : ∀ k, k < 25 → (if k = i then u else tbF s v k) = tbF s' v k) : TVr (w.setCell ⟨S, i, none⟩ u) S s' v := by
  refine ⟨(h.blk.set i u).congr e, ?_⟩
  rw [ha]
  exact owns_blk h.act (fun g hg => Below.heap_setCell _ _ _ _ (fun x => h.neS (hg.trans (congrArg some x))))
/-- a wait is stored -/
theorem TVr.wait (h : TVr w S s v) {t n k o : Nat} {b : Bool} (ht : t < 5) (hb : b = (n != 0)) (hk : k = (n - 1) % 2) (ho : o = (n - 1) / 2) :
    TVr (((w.setCell ⟨S, 8 + t * 3, none⟩ (.bool b)).setCell ⟨S, 8 + t * 3 + 1, none⟩ (.int .i64 (k : Nat))).setCell ⟨S, 8 + t * 3 + 2, none⟩ (.int .i64 (o : Nat))) S { s with wa := M.up1 s.wa t n } v := by
  have hu : M.up1 s.wa t n t = n := if_pos rfl
  refine ⟨(World.rowIs.set (World.rowIs.set (World.rowIs.set h.blk _ _) _ _) _ _).congr fun i hi => ?_, ?_⟩
  · by_cases e2 : i = 8 + t * 3 + 2
    · subst e2
      rw [if_pos rfl, tbF_item _ _ ht]
      show _ = Value.int .i64 ((M.up1 s.wa t n t - 1) / 2 : Nat)
      rw [hu, ho]
    · rw [if_neg e2]
      by_cases e1 : i = 8 + t * 3 + 1
      · subst e1
        rw [if_pos rfl, tbF_kind _ _ ht]
        show _ = Value.int .i64 ((M.up1 s.wa t n t - 1) % 2 : Nat)
        rw [hu, hk]
      · rw [if_neg e1]
        by_cases e0 : i = 8 + t * 3
        · subst e0
          rw [if_pos rfl, tbF_is _ _ ht]
          show _ = Value.bool (M.up1 s.wa t n t != 0)
          rw [hu, hb]
        · rw [if_neg e0]
          unfold tbF
          by_cases h8 : i < 8
          · rw [if_pos h8, if_pos h8]; rfl
          · rw [if_neg h8, if_neg h8]
            by_cases h23 : i < 23
            · rw [if_pos h23, if_pos h23]
              have e : M.up1 s.wa t n ((i - 8) / 3) = s.wa ((i - 8) / 3) := if_neg (by omega)
              show _ = (if (i - 8) % 3 = 0 then Value.bool (M.up1 s.wa t n ((i - 8) / 3) != 0) else if (i - 8) % 3 = 1 then .int .i64 ((M.up1 s.wa t n ((i - 8) / 3) - 1) % 2 : Nat) else .int .i64 ((M.up1 s.wa t n ((i - 8) / 3) - 1) / 2 : Nat))
              rw [e]
            · rw [if_neg h23, if_neg h23]; rfl
  · refine owns_blk h.act (fun g hg => ?_)
    have hn : g ≠ S := fun x => h.neS (hg.trans (congrArg some x))
    rw [Below.heap_setCell _ _ _ _ hn, Below.heap_setCell _ _ _ _ hn, Below.heap_setCell _ _ _ _ hn]
theorem TVr.got0 {t o : Nat} (h : TVr w S (M.sIdle s t) v) (ht : t < 5) (ho : o < 4) (hle : ∀ x y, s.hd x y ≤ 3) : TVr (w.setCell ⟨S, o * 2, none⟩ (.int .i64 (M.shS s o ||| 1 <<< t : Nat))) S (M.sGot s t o 0) v := by
  refine h.set rfl fun i hi => ?_
  by_cases e : i = o * 2
  · subst e
    rw [if_pos rfl, tbF_sh _ _ ho, M.got_sh ht hle]
  · rw [if_neg e]
    unfold tbF
    by_cases h8 : i < 8
    · rw [if_pos h8, if_pos h8]
      by_cases hm : i % 2 = 0
      · rw [if_pos hm, if_pos hm, (M.got_other (show i / 2 ≠ o by omega)).1]; rfl
      · rw [if_neg hm, if_neg hm, M.got_ow0 hle]; rfl
    · rw [if_neg h8, if_neg h8]; rfl
theorem TVr.got1 {t o : Nat} (h : TVr w S (M.sIdle s t) v) (ht : t < 5) (ho : o < 4) (hle : ∀ x y, s.hd x y ≤ 3) : TVr (w.setCell ⟨S, o * 2 + 1, none⟩ (.int .i64 (M.owS s o ||| 1 <<< t : Nat))) S (M.sGot s t o 1) v := by
  refine h.set rfl fun i hi => ?_
  by_cases e : i = o * 2 + 1
  · subst e
    rw [if_pos rfl, tbF_ow _ _ ho, M.got_ow ht hle]
  · rw [if_neg e]
    unfold tbF
    by_cases h8 : i < 8
    · rw [if_pos h8, if_pos h8]
      by_cases hm : i % 2 = 0
      · rw [if_pos hm, if_pos hm, M.got_sh1 hle]; rfl
      · rw [if_neg hm, if_neg hm, (M.got_other (show i / 2 ≠ o by omega)).2]; rfl
    · rw [if_neg h8, if_neg h8]; rfl
theorem TVr.free {t o r1 r2 : Nat} (h : TVr w S s v) (ht : t < 5) (ho : o < 4) (h1 : ∀ j, r1.testBit j = ((M.shS s o).testBit j && !(1 <<< t).testBit j)) (h2 : ∀ j, r2.testBit j = ((M.owS s o).testBit j && !(1 <<< t).testBit j)) :
    TVr (((w.setCell ⟨S, o * 2, none⟩ (.int .i64 (r1 : Nat))).setCell ⟨S, o * 2 + 1, none⟩ (.int .i64 (r2 : Nat))).setCell ⟨S, 23, none⟩ (.int .i64 (M.frS s ||| 1 <<< t : Nat))) S (M.sFree s t o) v := by
  refine ⟨(World.rowIs.set (World.rowIs.set (World.rowIs.set h.blk _ _) _ _) _ _).congr fun i hi => ?_, ?_⟩
  · by_cases e2 : i = 23
    · subst e2
      rw [if_pos rfl, ← M.free_fr (o := o) ht]; rfl
    · rw [if_neg e2]
      by_cases e1 : i = o * 2 + 1
      · subst e1
        rw [if_pos rfl, tbF_ow _ _ ho, M.free_ow h2]
      · rw [if_neg e1]
        by_cases e0 : i = o * 2
        · subst e0
          rw [if_pos rfl, tbF_sh _ _ ho, M.free_sh h1]
        · rw [if_neg e0]
          unfold tbF
          by_cases h8 : i < 8
          · rw [if_pos h8, if_pos h8, (M.free_other (show i / 2 ≠ o by omega)).1, (M.free_other (show i / 2 ≠ o by omega)).2]
          · rw [if_neg h8, if_neg h8]
            by_cases h23 : i < 23
            · rw [if_pos h23, if_pos h23]; rfl
            · rw [if_neg h23, if_neg h23, if_neg e2, if_neg e2]
  · refine owns_blk h.act (fun g hg => ?_)
    have hn : g ≠ S := fun x => h.neS (hg.trans (congrArg some x))
    rw [Below.heap_setCell _ _ _ _ hn, Below.heap_setCell _ _ _ _ hn, Below.heap_setCell _ _ _ _ hn]
/-- what was done is stored anew: it lies in its own block, or in a new one -/
theorem TVr.did {w1 : World} {s' : M.Lk} {u : Value} (h : TVr w S s v) (hw : s'.wa = s.wa) (hd : s'.hd = s.hd) (hf : s'.fo = s.fo) (hgr : ∀ k, k < w.heap.size → v.ownBlock ≠ some k → w1.heap[k]? = w.heap[k]?) (hown : w1.ownsRow 0 31 3 u s'.ac.length (acells s'.ac)) : TVr (w1.setCell ⟨S, 24, none⟩ u) S s' u := by
  have hb1 := h.blk.of_block (w' := w1) (hgr S h.lt h.neS)
  have hu : u.ownBlock ≠ some S := rowIs_owns hb1 hown (by decide)
  refine ⟨(World.rowIs.set hb1 _ _).congr fun i hi => ?_, owns_blk hown (fun g hg => Below.heap_setCell _ _ _ _ (fun x => hu (hg.trans (congrArg some x))))⟩
  by_cases e : i = 24
  · subst e; rw [if_pos rfl]; rfl
  · rw [if_neg e]
    unfold tbF M.shS M.owS M.frS
    rw [hw, hd, hf]
    by_cases h8 : i < 8
    · rw [if_pos h8, if_pos h8]
    · rw [if_neg h8, if_neg h8]
      by_cases h23 : i < 23
      · rw [if_pos h23, if_pos h23]
      · rw [if_neg h23, if_neg h23, if_pos (show i = 23 by omega), if_pos (show i = 23 by omega)]
variable {O : Nat → Prop}
theorem TV.below (h : TV O S s w) (hb : Below w.heap.size w w') : TV O S s w' := by
  obtain ⟨v, h1, h2⟩ := h
  exact ⟨v, h1.below hb, h2⟩
theorem TV.mono {O' : Nat → Prop} (h : TV O S s w) (e : ∀ k, k < w.heap.size → O k → O' k) : TV O' S s w := by
  obtain ⟨v, h1, h2, h3⟩ := h
  exact ⟨v, h1, e S h1.lt h2, fun g hg => e g (h1.act.lt g hg).2 (h3 g hg)⟩
theorem TV.frm {O' : Nat → Prop} (h : TV O S s w) (hf : Frm O' w w') (e : ∀ k, O k → ¬ O' k) : TV O S s w' := by
  obtain ⟨v, h1, h2, h3⟩ := h
  refine ⟨v, h1.at_ (fun k hk hh => hf.block k hk ?_), h2, h3⟩
  rcases hh with rfl | hh
  · exact e _ h2
  · exact e _ (h3 _ hh)
theorem TV.heap (h : TV O S s w) (e : w'.heap = w.heap) : TV O S s w' := by
  obtain ⟨v, h1, h2⟩ := h
  exact ⟨v, h1.at_ (fun k _ _ => by rw [e]), h2⟩
theorem Frm.heap {a b c : World} (h : Frm O a b) (e : c.heap = b.heap) (e1 : c.os = b.os) (e2 : c.tape = b.tape) (e3 : c.output = b.output) : Frm O a c :=
  ⟨e1.trans h.os, e2.trans h.tape, e3.trans h.output, by rw [e]; exact h.size, fun k hk hO => by rw [e]; exact h.block k hk hO⟩
theorem Frm.drN {a b : World} (h : Frm O a b) (n : Nat) : Frm O a (b.drewN n) := h.trans (Frm.of_below (bel_drN (Below.refl _ _) n))
theorem TV.lt (h : TV O S s w) : S < w.heap.size := by obtain ⟨v, h1, _⟩ := h; exact h1.lt
theorem TV.own (h : TV O S s w) : O S := by obtain ⟨v, h1, h2, _⟩ := h; exact h2
end
end Go.Proofs.YtlkdclifcmohlaaDoor
