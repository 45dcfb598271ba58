/- Schedules: acts in memory, what is wrong with them; no walk. -/
import Derived.Test.YtajiichehffaaaaDoorBWl
import Derived.Test.YtajiichehffaaaaDoorBOi
namespace Go.Proofs.YtajiichehffaaaaDoor
open Go.RowKit
structure Az where
  tx : Int
  it : Int
  wt : Int
def aAt (zs : List Az) (j : Nat) : Az := zs[j]?.getD ⟨0, 0, 0⟩
/-- An act as a value. -/
abbrev acV (o : Az) : Value := .agg #[.int .i64 o.tx, .int .i64 o.it, .int .i64 o.wt]
/-- An act lies at b, k. -/
structure AcAt (o : Az) (b k : Nat) (w : World) : Prop where
  lt : b < w.heap.size
  c0 : w.cell? ⟨b, k, none⟩ = some (.int .i64 o.tx)
  c1 : w.cell? ⟨b, k + 1, none⟩ = some (.int .i64 o.it)
  c2 : w.cell? ⟨b, k + 2, none⟩ = some (.int .i64 o.wt)
theorem AcAt.later {o : Az} {b k N : Nat} {w w' : World} (h : AcAt o b k w) (hb : Below N w w') (hN : b < N) : AcAt o b k w' :=
  ⟨by have := hb.size; have := h.lt; omega, (hb.cell (p := ⟨b, k, none⟩) hN).trans h.c0, (hb.cell (p := ⟨b, k + 1, none⟩) hN).trans h.c1, (hb.cell (p := ⟨b, k + 2, none⟩) hN).trans h.c2⟩
/-- The slice's address p leads to the acts zs. -/
def HasAc (zs : List Az) (p : Option Addr) (w : World) : Prop := ∀ j, j < zs.length → ∃ b off, p = some ⟨b, off, none⟩ ∧ AcAt (aAt zs j) b (off + j * 3) w
theorem HasAc.later {zs : List Az} {p : Option Addr} {w w' : World} (h : HasAc zs p w) (hb : Below w.heap.size w w') : HasAc zs p w' := fun j hj => by
  obtain ⟨b, off, h1, h2⟩ := h j hj
  exact ⟨b, off, h1, h2.later hb h2.lt⟩
/-! ### what is wrong -/
def aIn (o : Az) : Bool := thingZ o.tx 5 && thingZ o.it 4 && thingZ o.wt 2
def acd (zs : List Az) : Nat := if 24 < zs.length then 4 else if zs.all aIn then 0 else 1
theorem aAt_in {zs : List Az} {i : Nat} (hi : i < zs.length) : aAt zs i = zs[i] := by unfold aAt; rw [List.getElem?_eq_getElem hi]; rfl
theorem acd_full {zs : List Az} (h : 24 < zs.length) : acd zs = 4 := if_pos h
theorem acd_bad {zs : List Az} {i : Nat} (hl : ¬ 24 < zs.length) (hi : i < zs.length) (h : aIn (aAt zs i) = false) : acd zs = 1 := by
  unfold acd
  rw [if_neg hl, if_neg]
  rw [List.all_eq_true]
  intro hall
  rw [aAt_in hi, hall _ (List.getElem_mem hi)] at h
  cases h
theorem acd_good {zs : List Az} (hl : ¬ 24 < zs.length) (h : ∀ i, i < zs.length → aIn (aAt zs i) = true) : acd zs = 0 := by
  unfold acd
  rw [if_neg hl, if_pos]
  rw [List.all_eq_true]
  intro a ha
  obtain ⟨i, hi, rfl⟩ := List.getElem_of_mem ha
  have := h i hi
  rwa [aAt_in hi] at this
theorem acd_iff {zs : List Az} : acd zs = 0 ↔ zs.length ≤ 24 ∧ ∀ a, a ∈ zs → aIn a = true := by
  unfold acd
  by_cases h : 24 < zs.length
  · rw [if_pos h]
    exact ⟨fun e => (by cases e), fun e => by omega⟩
  · rw [if_neg h]
    cases c : zs.all aIn with
    | true => rw [List.all_eq_true] at c; exact ⟨fun _ => ⟨by omega, c⟩, fun _ => rfl⟩
    | false =>
      refine ⟨fun e => (by cases e), fun e => ?_⟩
      have := List.all_eq_true.2 e.2
      rw [c] at this; cases this
/-! ### a schedule in range -/
def Az.n (o : Az) : M.SAct := ⟨o.tx.toNat, o.it.toNat, o.wt.toNat⟩
def azN (a : M.SAct) : Az := ⟨a.tx, a.it, a.wr⟩
/-- acts as whole numbers -/
def az (s : List M.SAct) : List Az := s.map azN
theorem az_len (s : List M.SAct) : (az s).length = s.length := by simp [az]
theorem aAt_az (s : List M.SAct) (j : Nat) : aAt (az s) j = azN (M.sat s j) := by
  unfold aAt az M.sat
  rw [List.getElem?_map]
  cases s[j]? <;> rfl
theorem aIn_true {o : Az} (h : aIn o = true) : (0 ≤ o.tx ∧ o.tx < 5) ∧ (0 ≤ o.it ∧ o.it < 4) ∧ (0 ≤ o.wt ∧ o.wt < 2) := by
  unfold aIn thingZ at h
  simp only [Bool.and_eq_true, decide_eq_true_eq] at h
  omega
theorem azN_n {o : Az} (h : aIn o = true) : azN o.n = o := by
  have := aIn_true h
  obtain ⟨a1, a2, a3⟩ := this
  cases o with
  | mk t i v =>
    simp only [azN, Az.n] at *
    congr 1 <;> omega
theorem acd_get {zs : List Az} (h0 : acd zs = 0) : ∃ s, zs = az s ∧ M.AOk s := by
  obtain ⟨hl, hall⟩ := acd_iff.1 h0
  refine ⟨zs.map Az.n, ?_, ?_⟩
  · unfold az
    rw [List.map_map]
    symm
    exact (List.map_congr_left (fun a ha => azN_n (hall a ha))).trans (List.map_id zs)
  · have key : ∀ j, (M.sat (zs.map Az.n) j).tx < 5 ∧ (M.sat (zs.map Az.n) j).it < 4 ∧ (M.sat (zs.map Az.n) j).wr < 2 := fun j => by
      unfold M.sat
      rw [List.getElem?_map]
      by_cases hj : j < zs.length
      · rw [List.getElem?_eq_getElem hj]
        have := aIn_true (hall _ (List.getElem_mem hj))
        simp only [Option.map_some, Option.getD_some, Az.n]
        omega
      · rw [List.getElem?_eq_none (by omega)]
        simp
    exact ⟨by rw [List.length_map]; exact hl, fun j => (key j).1, fun j => (key j).2.1, fun j => (key j).2.2⟩
theorem acd_az {s : List M.SAct} (hk : M.AOk s) : acd (az s) = 0 := by
  refine acd_iff.2 ⟨by rw [az_len]; exact hk.len, fun a ha => ?_⟩
  obtain ⟨i, hi, rfl⟩ := List.getElem_of_mem ha
  have e := aAt_az s i
  rw [aAt_in hi] at e
  rw [e]
  have h1 := hk.tx i
  have h2 := hk.it i
  have h3 := hk.wr i
  unfold aIn thingZ azN
  simp only [Bool.and_eq_true, decide_eq_true_eq]
  omega
theorem aok_of {s : List M.SAct} (hl : s.length ≤ 24) (h : ∀ a, a ∈ s → a.tx < 5 ∧ a.it < 4 ∧ a.wr < 2) : M.AOk s := by
  have key : ∀ j, (M.sat s j).tx < 5 ∧ (M.sat s j).it < 4 ∧ (M.sat s j).wr < 2 := fun j => by
    unfold M.sat
    by_cases hj : j < s.length
    · rw [List.getElem?_eq_getElem hj]; exact h _ (List.getElem_mem hj)
    · rw [List.getElem?_eq_none (by omega)]; simp
  exact ⟨hl, fun j => (key j).1, fun j => (key j).2.1, fun j => (key j).2.2⟩
/-! ### of whom an act reads, as a number -/
def oI : Option Nat → Int
  | none => -1
  | some k => (k : Int)
theorem oI_none : oI none = -1 := rfl
theorem oI_some (k : Nat) : oI (some k) = (k : Int) := rfl
theorem oI_inj {a b : Option Nat} (h : oI a = oI b) : a = b := by
  cases a <;> cases b <;> simp only [oI] at h
  · rfl
  · omega
  · omega
  · congr 1; omega
def rdZ (s : List M.SAct) : List Int := (List.range s.length).map fun i => oI (M.rdO s i)
theorem rdZ_len (s : List M.SAct) : (rdZ s).length = s.length := by simp [rdZ]
theorem rdZ_get {s : List M.SAct} {i : Nat} (hi : i < s.length) : (rdZ s)[i]?.getD 0 = oI (M.rdO s i) := by simp [rdZ, hi]
theorem gst_le {p : Nat → Bool} {n k : Nat} (h : M.gst p n = some k) : k < n := (M.gst_some.1 h).1
theorem rdO_lt {s : List M.SAct} {i k : Nat} (h : M.rdO s i = some k) : k < i := by
  unfold M.rdO at h
  by_cases c : (M.sat s i).wr = 1
  · rw [if_pos c] at h; cases h
  · rw [if_neg c] at h; exact gst_le h
/-! ### what is wrong with a row of all transactions -/
def kC (zs : List Int) (i : Nat) : Nat := if thingZ (zs[i]?.getD 0) 5 = false then 1 else if (List.range i).any (fun j => zs[j]?.getD 0 == zs[i]?.getD 0) then 6 else 0
def kTo (zs : List Int) : Nat → Nat
  | 0 => 0
  | n + 1 => if kTo zs n = 0 then kC zs n else kTo zs n
def kcd (zs : List Int) : Nat := if zs.length = 5 then kTo zs 5 else 3
theorem kTo_keep {zs : List Int} {i n : Nat} (h : kTo zs i ≠ 0) (hi : i ≤ n) : kTo zs n = kTo zs i := by
  induction n with
  | zero => obtain rfl : i = 0 := by omega
            rfl
  | succ n ih =>
    by_cases e : i = n + 1
    · subst e; rfl
    · simp only [kTo]
      rw [ih (by omega), if_neg h]
theorem kTo_first {zs : List Int} {i n : Nat} (h0 : kTo zs i = 0) (hi : i < n) (h : kC zs i ≠ 0) : kTo zs n = kC zs i := by
  have e : kTo zs (i + 1) = kC zs i := by simp only [kTo]; rw [if_pos h0]
  rw [kTo_keep (i := i + 1) (by rw [e]; exact h) (by omega), e]
theorem kTo_next {zs : List Int} {i : Nat} (h0 : kTo zs i = 0) (h : kC zs i = 0) : kTo zs (i + 1) = 0 := by simp only [kTo]; rw [if_pos h0, h]
theorem kTo_zero {zs : List Int} {i n : Nat} (h0 : kTo zs n = 0) (hi : i ≤ n) : kTo zs i = 0 := by
  apply Classical.byContradiction
  intro h
  rw [kTo_keep h hi] at h0
  exact h h0
theorem kTo_each {zs : List Int} {i n : Nat} (h0 : kTo zs n = 0) (hi : i < n) : kC zs i = 0 := by
  have h1 := kTo_zero h0 (show i + 1 ≤ n by omega)
  have h2 := kTo_zero h0 (show i ≤ n by omega)
  simp only [kTo] at h1
  rwa [if_pos h2] at h1
theorem kC_range {zs : List Int} {i : Nat} (h : thingZ (zs[i]?.getD 0) 5 = false) : kC zs i = 1 := if_pos h
theorem kC_clash {zs : List Int} {i j : Nat} (h : thingZ (zs[i]?.getD 0) 5 = true) (hj : j < i) (h2 : zs[j]?.getD 0 = zs[i]?.getD 0) : kC zs i = 6 := by
  unfold kC
  rw [if_neg (by rw [h]; simp), if_pos (List.any_eq_true.2 ⟨j, List.mem_range.2 hj, by rw [h2]; exact beq_self_eq_true _⟩)]
theorem kC_fine {zs : List Int} {i : Nat} (h : thingZ (zs[i]?.getD 0) 5 = true) (h2 : ∀ j, j < i → zs[j]?.getD 0 ≠ zs[i]?.getD 0) : kC zs i = 0 := by
  unfold kC
  rw [if_neg (by rw [h]; simp), if_neg]
  rw [List.any_eq_true]
  rintro ⟨j, hj, e⟩
  exact h2 j (List.mem_range.1 hj) (by simpa using e)
theorem kC_zero {zs : List Int} {i : Nat} (h : kC zs i = 0) : thingZ (zs[i]?.getD 0) 5 = true ∧ ∀ j, j < i → zs[j]?.getD 0 ≠ zs[i]?.getD 0 := by
  cases c : thingZ (zs[i]?.getD 0) 5 with
  | false => rw [kC_range c] at h; cases h
  | true => exact ⟨rfl, fun j hj e => by rw [kC_clash c hj e] at h; cases h⟩
theorem kcd_get {zs : List Int} (h0 : kcd zs = 0) : ∃ r, zs = ints r ∧ r.length = 5 ∧ r.Nodup ∧ ∀ x, x ∈ r → x < 5 := by
  have hl : zs.length = 5 := by
    unfold kcd at h0
    by_cases c : zs.length = 5
    · exact c
    · rw [if_neg c] at h0; cases h0
  have hT : kTo zs 5 = 0 := by unfold kcd at h0; rwa [if_pos hl] at h0
  have each := fun i (hi : i < 5) => kC_zero (kTo_each hT hi)
  have eo : ∀ i (hi : i < zs.length), zs[i]?.getD 0 = zs[i] := fun i hi => by rw [List.getElem?_eq_getElem hi]; rfl
  have bd : ∀ i (hi : i < zs.length), 0 ≤ zs[i] ∧ zs[i] < 5 := fun i hi => by
    have := (each i (by omega)).1
    rw [eo i hi] at this
    unfold thingZ at this
    simpa using this
  refine ⟨zs.map Int.toNat, ?_, by rw [List.length_map, hl], ?_, ?_⟩
  · apply List.ext_getElem
    · simp [ints]
    · intro i h1 h2
      have := bd i h1
      simp only [ints, List.getElem_map]
      omega
  · rw [List.nodup_iff_pairwise_ne, List.pairwise_iff_getElem]
    intro i j hi hj hij
    rw [List.length_map] at hi hj
    have h1 := (each j (by omega)).2 i hij
    rw [eo i hi, eo j hj] at h1
    have := bd i hi
    have := bd j hj
    simp only [List.getElem_map]
    omega
  · intro x hx
    rw [List.mem_map] at hx
    obtain ⟨z, hz, rfl⟩ := hx
    obtain ⟨i, hi, rfl⟩ := List.getElem_of_mem hz
    have := bd i hi
    omega
theorem kcd_of {r : List Nat} (hl : r.length = 5) (hn : r.Nodup) (hr : ∀ x, x ∈ r → x < 5) : kcd (ints r) = 0 := by
  have eo : ∀ i (hi : i < r.length), (ints r)[i]?.getD 0 = ((r[i] : Nat) : Int) := fun i hi => by simp [ints, hi]
  have : ∀ n, n ≤ 5 → kTo (ints r) n = 0 := fun n => by
    induction n with
    | zero => intro _; rfl
    | succ n ih =>
      intro hn5
      refine kTo_next (ih (by omega)) (kC_fine ?_ (fun j hj => ?_))
      · rw [eo n (by omega)]
        have := hr _ (List.getElem_mem (show n < r.length by omega))
        exact thingZ_true (by omega) (by omega)
      · rw [eo n (by omega), eo j (by omega)]
        rw [List.nodup_iff_pairwise_ne, List.pairwise_iff_getElem] at hn
        have := hn j n (by omega) (by omega) hj
        omega
  unfold kcd
  rw [if_pos (by rw [ints_length, hl])]
  exact this 5 (Nat.le_refl _)
/-- the five things are in it -/
theorem row_all5 {r : List Nat} (hl : r.length = 5) (hn : r.Nodup) (hr : ∀ x, x ∈ r → x < 5) {x : Nat} (hx : x < 5) : x ∈ r := (M.nd_perm hn hr hl x).2 hx
end Go.Proofs.YtajiichehffaaaaDoor
