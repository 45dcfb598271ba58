/- Histories: ops in memory, what is wrong with them; no walk. -/
import Derived.Test.YtdbejgidgajhlaaWhm
import Derived.Test.YtdbejgidgajhlaaOwnI
namespace Go.Proofs.Ytdbejgidgajhlaa
open Go.RowKit
structure Oz where
  pr : Int
  ob : Int
  wr : Int
  va : Int
  fr : Int
  to : Int
def oAt (zs : List Oz) (j : Nat) : Oz := zs[j]?.getD ⟨0, 0, 0, 0, 0, 0⟩
/-- An op as a value. -/
abbrev opV (o : Oz) : Value := .agg #[.int .i64 o.pr, .int .i64 o.ob, .int .i64 o.wr, .int .i64 o.va, .int .i64 o.fr, .int .i64 o.to]
/-- An op lies at b, k. -/
structure OpAt (o : Oz) (b k : Nat) (w : World) : Prop where
  lt : b < w.heap.size
  c0 : w.cell? ⟨b, k, none⟩ = some (.int .i64 o.pr)
  c1 : w.cell? ⟨b, k + 1, none⟩ = some (.int .i64 o.ob)
  c2 : w.cell? ⟨b, k + 2, none⟩ = some (.int .i64 o.wr)
  c3 : w.cell? ⟨b, k + 3, none⟩ = some (.int .i64 o.va)
  c4 : w.cell? ⟨b, k + 4, none⟩ = some (.int .i64 o.fr)
  c5 : w.cell? ⟨b, k + 5, none⟩ = some (.int .i64 o.to)
theorem OpAt.later {o : Oz} {b k N : Nat} {w w' : World} (h : OpAt o b k w) (hb : Below N w w') (hN : b < N) : OpAt o b k w' :=
  ⟨by have := hb.size; have := h.lt; omega, (hb.cell (p := ⟨b, k, none⟩) hN).trans h.c0, (hb.cell (p := ⟨b, k + 1, none⟩) hN).trans h.c1, (hb.cell (p := ⟨b, k + 2, none⟩) hN).trans h.c2, (hb.cell (p := ⟨b, k + 3, none⟩) hN).trans h.c3, (hb.cell (p := ⟨b, k + 4, none⟩) hN).trans h.c4, (hb.cell (p := ⟨b, k + 5, none⟩) hN).trans h.c5⟩
/-- The slice's address p leads to the ops zs. -/
def HasO (zs : List Oz) (p : Option Addr) (w : World) : Prop := ∀ j, j < zs.length → ∃ b off, p = some ⟨b, off, none⟩ ∧ OpAt (oAt zs j) b (off + j * 6) w
theorem HasO.later {zs : List Oz} {p : Option Addr} {w w' : World} (h : HasO zs p w) (hb : Below w.heap.size w w') : HasO zs p w' := fun j hj => by
  obtain ⟨b, off, h1, h2⟩ := h j hj
  exact ⟨b, off, h1, h2.later hb h2.lt⟩
/-- what a slice of ops leads to lies below N -/
def HasOb (N : Nat) (zs : List Oz) (p : Option Addr) (w : World) : Prop := ∀ j, j < zs.length → ∃ b off, p = some ⟨b, off, none⟩ ∧ b < N ∧ OpAt (oAt zs j) b (off + j * 6) w
theorem HasO.b {zs : List Oz} {p : Option Addr} {w : World} (h : HasO zs p w) : HasOb w.heap.size zs p w := fun j hj => by
  obtain ⟨b, off, h1, h2⟩ := h j hj
  exact ⟨b, off, h1, h2.lt, h2⟩
theorem HasOb.later {N M : Nat} {zs : List Oz} {p : Option Addr} {w w' : World} (h : HasOb N zs p w) (hb : Below M w w') (hM : N ≤ M) : HasOb N zs p w' := fun j hj => by
  obtain ⟨b, off, h1, h2, h3⟩ := h j hj
  exact ⟨b, off, h1, h2, h3.later hb (by omega)⟩
theorem HasOb.a {N : Nat} {zs : List Oz} {p : Option Addr} {w : World} (h : HasOb N zs p w) : HasO zs p w := fun j hj => by
  obtain ⟨b, off, h1, h2, h3⟩ := h j hj
  exact ⟨b, off, h1, h3⟩
/-! ### what is wrong -/
def oIn (o : Oz) : Bool := thingZ o.pr 5 && thingZ o.ob 3 && thingZ o.wr 2 && thingZ o.va 1000001 && thingZ o.fr 1000001 && thingZ o.to 1000001
def shB (a b : Oz) : Bool := decide (a.fr < b.to) && decide (b.fr < a.to)
def clB (a b : Oz) : Bool := a.pr == b.pr && shB a b
def oC (zs : List Oz) (i : Nat) : Nat := if oIn (oAt zs i) = false then 1 else if (oAt zs i).to ≤ (oAt zs i).fr then 3 else if (List.range i).any (fun j => clB (oAt zs j) (oAt zs i)) then 6 else 0
def hTo (zs : List Oz) : Nat → Nat
  | 0 => 0
  | n + 1 => if hTo zs n = 0 then oC zs n else hTo zs n
def hcd (zs : List Oz) : Nat := if 10 < zs.length then 4 else hTo zs zs.length
theorem hTo_keep {zs : List Oz} {i n : Nat} (h : hTo zs i ≠ 0) (hi : i ≤ n) : hTo zs n = hTo zs i := by
  induction n with
  | zero => obtain rfl : i = 0 := by omega
            rfl
  | succ n ih =>
    by_cases e : i = n + 1
    · subst e; rfl
    · simp only [hTo]
      rw [ih (by omega), if_neg h]
theorem hTo_first {zs : List Oz} {i n : Nat} (h0 : hTo zs i = 0) (hi : i < n) (h : oC zs i ≠ 0) : hTo zs n = oC zs i := by
  have e : hTo zs (i + 1) = oC zs i := by simp only [hTo]; rw [if_pos h0]
  rw [hTo_keep (i := i + 1) (by rw [e]; exact h) (by omega), e]
theorem hTo_next {zs : List Oz} {i : Nat} (h0 : hTo zs i = 0) (h : oC zs i = 0) : hTo zs (i + 1) = 0 := by simp only [hTo]; rw [if_pos h0, h]
theorem hTo_zero {zs : List Oz} {i n : Nat} (h0 : hTo zs n = 0) (hi : i ≤ n) : hTo zs i = 0 := by
  apply Classical.byContradiction
  intro h
  rw [hTo_keep h hi] at h0
  exact h h0
theorem hTo_each {zs : List Oz} {i n : Nat} (h0 : hTo zs n = 0) (hi : i < n) : oC zs i = 0 := by
  have h1 := hTo_zero h0 (show i + 1 ≤ n by omega)
  have h2 := hTo_zero h0 (show i ≤ n by omega)
  simp only [hTo] at h1
  rwa [if_pos h2] at h1
theorem oC_range {zs : List Oz} {i : Nat} (h : oIn (oAt zs i) = false) : oC zs i = 1 := by unfold oC; rw [if_pos h]
theorem oC_shape {zs : List Oz} {i : Nat} (h : oIn (oAt zs i) = true) (h2 : (oAt zs i).to ≤ (oAt zs i).fr) : oC zs i = 3 := by unfold oC; rw [if_neg (by rw [h]; simp), if_pos h2]
theorem oC_clash {zs : List Oz} {i j : Nat} (h : oIn (oAt zs i) = true) (h2 : ¬ (oAt zs i).to ≤ (oAt zs i).fr) (hj : j < i) (h3 : clB (oAt zs j) (oAt zs i) = true) : oC zs i = 6 := by
  unfold oC; rw [if_neg (by rw [h]; simp), if_neg h2, if_pos (List.any_eq_true.2 ⟨j, List.mem_range.2 hj, h3⟩)]
theorem oC_fine {zs : List Oz} {i : Nat} (h : oIn (oAt zs i) = true) (h2 : ¬ (oAt zs i).to ≤ (oAt zs i).fr) (h3 : ∀ j, j < i → clB (oAt zs j) (oAt zs i) = false) : oC zs i = 0 := by
  unfold oC; rw [if_neg (by rw [h]; simp), if_neg h2, if_neg]
  rw [List.any_eq_true]
  rintro ⟨j, hj, e⟩
  rw [h3 j (List.mem_range.1 hj)] at e
  cases e
/-! ### a good history -/
def Oz.n (o : Oz) : M.HOp := ⟨o.pr.toNat, o.ob.toNat, o.wr.toNat, o.va.toNat, o.fr.toNat, o.to.toNat⟩
def hn (zs : List Oz) : List M.HOp := zs.map Oz.n
/-- ops as whole numbers -/
def hz (h : List M.HOp) : List Oz := h.map fun a => ⟨a.pr, a.ob, a.wr, a.va, a.fr, a.to⟩
theorem hz_len (h : List M.HOp) : (hz h).length = h.length := by simp [hz]
theorem oAt_hz (h : List M.HOp) (j : Nat) : oAt (hz h) j = ⟨(M.hop h j).pr, (M.hop h j).ob, (M.hop h j).wr, (M.hop h j).va, (M.hop h j).fr, (M.hop h j).to⟩ := by
  unfold oAt hz M.hop
  rw [List.getElem?_map]
  cases h[j]? <;> rfl
structure HOk (h : List M.HOp) : Prop where
  len : h.length ≤ 10
  pr : ∀ j, (M.hop h j).pr < 5
  ob : ∀ j, (M.hop h j).ob < 3
  wr : ∀ j, (M.hop h j).wr < 2
  va : ∀ j, (M.hop h j).va < 1000001
  fr : ∀ j, (M.hop h j).fr < 1000001
  to : ∀ j, (M.hop h j).to < 1000001
  ft : ∀ j, j < h.length → (M.hop h j).fr < (M.hop h j).to
theorem oIn_true {o : Oz} (h : oIn o = true) : (0 ≤ o.pr ∧ o.pr < 5) ∧ (0 ≤ o.ob ∧ o.ob < 3) ∧ (0 ≤ o.wr ∧ o.wr < 2) ∧ (0 ≤ o.va ∧ o.va < 1000001) ∧ (0 ≤ o.fr ∧ o.fr < 1000001) ∧ (0 ≤ o.to ∧ o.to < 1000001) := by
  unfold oIn thingZ at h
  simp only [Bool.and_eq_true, decide_eq_true_eq] at h
  omega
theorem hcd_get {zs : List Oz} (h0 : hcd zs = 0) : ∃ h, zs = hz h ∧ HOk h := by
  have hl : zs.length ≤ 10 := by
    unfold hcd at h0
    by_cases c : 10 < zs.length
    · rw [if_pos c] at h0; cases h0
    · omega
  have hT : hTo zs zs.length = 0 := by
    unfold hcd at h0
    rwa [if_neg (by omega)] at h0
  have each : ∀ i, i < zs.length → oIn (oAt zs i) = true ∧ (oAt zs i).fr < (oAt zs i).to := fun i hi => by
    have := hTo_each hT hi
    cases c : oIn (oAt zs i) with
    | false => rw [oC_range c] at this; cases this
    | true =>
      refine ⟨rfl, ?_⟩
      by_cases c2 : (oAt zs i).to ≤ (oAt zs i).fr
      · rw [oC_shape c c2] at this; cases this
      · omega
  have eo : ∀ i (hi : i < zs.length), oAt zs i = zs[i] := fun i hi => by unfold oAt; rw [List.getElem?_eq_getElem hi]; rfl
  refine ⟨hn zs, ?_, ?_⟩
  · apply List.ext_getElem
    · simp [hz, hn]
    · intro i h1 h2
      have := each i h1
      rw [eo i h1] at this
      have b := oIn_true this.1
      simp only [hz, hn, List.getElem_map, Oz.n]
      obtain ⟨a1, a2, a3, a4, a5, a6⟩ := b
      cases e : zs[i] with
      | mk p o w v f t =>
        rw [e] at a1 a2 a3 a4 a5 a6
        simp only at a1 a2 a3 a4 a5 a6 ⊢
        congr 1 <;> omega
  · have hop : ∀ j, j < zs.length → M.hop (hn zs) j = (oAt zs j).n := fun j hj => by
      unfold M.hop hn
      rw [List.getElem?_map, eo j hj, List.getElem?_eq_getElem hj]; rfl
    have far : ∀ j, ¬ j < zs.length → M.hop (hn zs) j = ⟨0, 0, 0, 0, 0, 0⟩ := fun j hj => by
      unfold M.hop hn
      rw [List.getElem?_map, List.getElem?_eq_none (by omega)]; rfl
    have lenE : (hn zs).length = zs.length := by simp [hn]
    refine ⟨by omega, fun j => ?_, fun j => ?_, fun j => ?_, fun j => ?_, fun j => ?_, fun j => ?_, fun j hj => ?_⟩
    · by_cases hj : j < zs.length
      · rw [hop j hj]; have := oIn_true (each j hj).1; simp only [Oz.n]; omega
      · rw [far j hj]; simp
    · by_cases hj : j < zs.length
      · rw [hop j hj]; have := oIn_true (each j hj).1; simp only [Oz.n]; omega
      · rw [far j hj]; simp
    · by_cases hj : j < zs.length
      · rw [hop j hj]; have := oIn_true (each j hj).1; simp only [Oz.n]; omega
      · rw [far j hj]; simp
    · by_cases hj : j < zs.length
      · rw [hop j hj]; have := oIn_true (each j hj).1; simp only [Oz.n]; omega
      · rw [far j hj]; simp
    · by_cases hj : j < zs.length
      · rw [hop j hj]; have := oIn_true (each j hj).1; simp only [Oz.n]; omega
      · rw [far j hj]; simp
    · by_cases hj : j < zs.length
      · rw [hop j hj]; have := oIn_true (each j hj).1; simp only [Oz.n]; omega
      · rw [far j hj]; simp
    · rw [lenE] at hj
      rw [hop j hj]
      have := oIn_true (each j hj).1
      have := (each j hj).2
      simp only [Oz.n]; omega
theorem HOk.ops {h : List M.HOp} (hk : HOk h) : ∀ a, a ∈ h → a.fr < a.to := fun a ha => by
  obtain ⟨i, hi, rfl⟩ := List.getElem_of_mem ha
  have := hk.ft i hi
  unfold M.hop at this
  rwa [List.getElem?_eq_getElem hi] at this
end Go.Proofs.Ytdbejgidgajhlaa
