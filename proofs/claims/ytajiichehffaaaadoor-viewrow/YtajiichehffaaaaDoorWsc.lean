/- Plain mathematics of schedules: acts that clash; of whom an act reads; what does not clash may change places; one behind the other it is the same. No program text is named. -/
import Derived.Test.YtajiichehffaaaaDoorMath
namespace Go.Proofs.YtajiichehffaaaaDoor.M

structure SAct where
  tx : Nat
  it : Nat
  wr : Nat
def sat (s : List SAct) (i : Nat) : SAct := s[i]?.getD ⟨0, 0, 0⟩
/-- do two clash? -/
def clash (a b : SAct) : Bool := a.it == b.it && (a.wr == 1 || b.wr == 1)
theorem clash_sym (a b : SAct) : clash a b = clash b a := by
  unfold clash
  rw [Bool.or_comm (b.wr == 1), show (a.it == b.it) = (b.it == a.it) by rw [Bool.eq_iff_iff, beq_iff_eq, beq_iff_eq]; exact ⟨Eq.symm, Eq.symm⟩]
/-- an act of u stands behind one of t and clashes with it -/
def Edge (s : List SAct) (t u : Nat) : Prop := t ≠ u ∧ ∃ i j, i < j ∧ j < s.length ∧ (sat s i).tx = t ∧ (sat s j).tx = u ∧ clash (sat s i) (sat s j) = true
/-! ### the greatest one that does -/
def gst (p : Nat → Bool) : Nat → Option Nat
  | 0 => none
  | n + 1 => if p n then some n else gst p n
theorem gst_some {p : Nat → Bool} {j : Nat} : ∀ {n : Nat}, gst p n = some j ↔ j < n ∧ p j = true ∧ ∀ x, j < x → x < n → p x = false
  | 0 => by simp [gst]
  | n + 1 => by
    simp only [gst]
    by_cases h : p n = true
    · rw [if_pos h]
      constructor
      · intro e
        obtain rfl := Option.some.inj e
        exact ⟨by omega, h, fun x h1 h2 => by omega⟩
      · rintro ⟨h1, _, h3⟩
        by_cases e : j = n
        · rw [e]
        · rw [h3 n (by omega) (by omega)] at h; cases h
    · rw [if_neg h, gst_some]
      constructor
      · rintro ⟨h1, h2, h3⟩
        refine ⟨by omega, h2, fun x a b => ?_⟩
        by_cases e : x = n
        · subst e; simpa using h
        · exact h3 x a (by omega)
      · rintro ⟨h1, h2, h3⟩
        have : j ≠ n := fun e => h (e ▸ h2)
        exact ⟨by omega, h2, fun x a b => h3 x a (by omega)⟩
theorem gst_none {p : Nat → Bool} : ∀ {n : Nat}, gst p n = none ↔ ∀ x, x < n → p x = false
  | 0 => by simp [gst]
  | n + 1 => by
    simp only [gst]
    by_cases h : p n = true
    · rw [if_pos h]
      constructor
      · intro e; cases e
      · intro k; rw [k n (by omega)] at h; cases h
    · rw [if_neg h, gst_none]
      constructor
      · intro k x hx
        by_cases e : x = n
        · subst e; simpa using h
        · exact k x (by omega)
      · intro k x hx; exact k x (by omega)
/-- does the act write the item? -/
def wrB (s : List SAct) (o i : Nat) : Bool := (sat s i).it == o && (sat s i).wr == 1
/-- of whom it reads -/
def rdO (s : List SAct) (i : Nat) : Option Nat := if (sat s i).wr = 1 then none else gst (wrB s (sat s i).it) i
/-! ### the acts in another row -/
/-- a row of all places in which those that clash stand as they stood -/
structure Keeps (s : List SAct) (l : List Nat) : Prop where
  nd : l.Nodup
  mem : ∀ x, x ∈ l ↔ x < s.length
  ord : ∀ i j, i < j → j < s.length → clash (sat s i) (sat s j) = true → l.idxOf i < l.idxOf j
theorem Keeps.len {s : List SAct} {l : List Nat} (h : Keeps s l) : l.length = s.length := by
  have : l.Perm (List.range s.length) := (List.perm_ext_iff_of_nodup h.nd List.nodup_range).2 (fun x => by rw [h.mem, List.mem_range])
  rw [this.length_eq, List.length_range]
theorem row_idx {l : List Nat} (h : l.Nodup) {k : Nat} (hk : k < l.length) : l.idxOf (row l k) = k := by
  have : row l k = l[k] := by unfold row; rw [List.getElem?_eq_getElem hk]; rfl
  rw [this]
  exact h.idxOf_getElem k hk
theorem idx_row {l : List Nat} {x : Nat} (h : x ∈ l) : row l (l.idxOf x) = x ∧ l.idxOf x < l.length := by
  have hl : l.idxOf x < l.length := List.idxOf_lt_length_of_mem h
  refine ⟨?_, hl⟩
  unfold row
  rw [List.getElem?_eq_getElem hl]
  simp
theorem row_memS {l : List Nat} {k : Nat} (hk : k < l.length) : row l k ∈ l := by
  unfold row
  rw [List.getElem?_eq_getElem hk]
  exact List.getElem_mem hk
theorem idx_app {a b : List Nat} {x : Nat} (h : x ∈ a) : (a ++ b).idxOf x = a.idxOf x := by rw [List.idxOf_append, if_pos h]
theorem idx_not {a b : List Nat} {x : Nat} (h : ¬ x ∈ a) : (a ++ b).idxOf x = b.idxOf x + a.length := by rw [List.idxOf_append, if_neg h]
theorem idx_tail {t x : Nat} {r : List Nat} (h : t ≠ x) : (t :: r).idxOf x = r.idxOf x + 1 := by
  rw [List.idxOf_cons]
  have : (t == x) = false := by simpa using h
  rw [this]; rfl
/-- the acts in that row -/
def inRow (s : List SAct) (l : List Nat) : List SAct := l.map (sat s)
theorem inRow_at (s : List SAct) {l : List Nat} {k : Nat} (hk : k < l.length) : sat (inRow s l) k = sat s (row l k) := by
  unfold inRow
  show ((l.map (sat s))[k]?).getD _ = _
  rw [List.getElem?_map]
  unfold row
  rw [List.getElem?_eq_getElem hk]
  rfl
/-- two that clash stand just as they stood -/
theorem Keeps.iff {s : List SAct} {l : List Nat} (h : Keeps s l) {i j : Nat} (hi : i < s.length) (hj : j < s.length) (hc : clash (sat s i) (sat s j) = true) (hne : i ≠ j) : l.idxOf i < l.idxOf j ↔ i < j := by
  rcases Nat.lt_or_gt_of_ne hne with k | k
  · exact ⟨fun _ => k, fun _ => h.ord i j k hj hc⟩
  · have := h.ord j i k hi (by rw [clash_sym]; exact hc)
    exact ⟨fun e => by omega, fun e => by omega⟩
theorem wrB_iff {s : List SAct} {o i : Nat} : wrB s o i = true ↔ (sat s i).it = o ∧ (sat s i).wr = 1 := by
  unfold wrB
  rw [Bool.and_eq_true, beq_iff_eq, beq_iff_eq]
theorem clash_of {a b : SAct} (h : a.it = b.it) (h2 : a.wr = 1 ∨ b.wr = 1) : clash a b = true := by
  unfold clash
  rw [Bool.and_eq_true, Bool.or_eq_true, beq_iff_eq, beq_iff_eq, beq_iff_eq]
  exact ⟨h, h2⟩
/-- of the writes of an item, what stands last ahead of place k of the row is what stood last ahead of what stands there, if that clashes with all of them -/
theorem gst_row {s : List SAct} {l : List Nat} (h : Keeps s l) {o k i : Nat} (hk : k ≤ l.length) (hi : i ≤ s.length) (hb : ∀ j, j < s.length → wrB s o j = true → (l.idxOf j < k ↔ j < i)) : (gst (wrB (inRow s l) o) k).map (row l) = gst (wrB s o) i := by
  have at_ : ∀ m, m < l.length → wrB (inRow s l) o m = wrB s o (row l m) := fun m hm => by unfold wrB; rw [inRow_at s hm]
  cases e : gst (wrB (inRow s l) o) k with
  | none =>
    rw [Option.map_none]
    symm
    rw [gst_none]
    rw [gst_none] at e
    intro j hj
    cases w : wrB s o j with
    | false => rfl
    | true =>
      have hjs : j < s.length := by omega
      obtain ⟨h1, h2⟩ := idx_row ((h.mem j).2 hjs)
      have := e _ ((hb j hjs w).2 hj)
      rw [at_ _ h2, h1, w] at this
      cases this
  | some m =>
    rw [Option.map_some]
    symm
    obtain ⟨h1, h2, h3⟩ := gst_some.1 e
    have hm : m < l.length := by omega
    rw [at_ m hm] at h2
    have hjs := (h.mem _).1 (row_memS hm)
    rw [gst_some]
    refine ⟨(hb _ hjs h2).1 (by rw [row_idx h.nd hm]; exact h1), h2, fun x hx hxi => ?_⟩
    cases w : wrB s o x with
    | false => rfl
    | true =>
      have hxs : x < s.length := by omega
      obtain ⟨g1, g2⟩ := idx_row ((h.mem x).2 hxs)
      have hc : clash (sat s (row l m)) (sat s x) = true := clash_of (by rw [(wrB_iff.1 h2).1, (wrB_iff.1 w).1]) (.inl (wrB_iff.1 h2).2)
      have := h.ord _ _ hx hxs hc
      rw [row_idx h.nd hm] at this
      have k2 := h3 _ this ((hb x hxs w).2 hxi)
      rw [at_ _ g2, g1, w] at k2
      cases k2
/-- each reads of the same one -/
theorem reads_same {s : List SAct} {l : List Nat} (h : Keeps s l) {k : Nat} (hk : k < l.length) : (rdO (inRow s l) k).map (row l) = rdO s (row l k) := by
  have hi := (h.mem _).1 (row_memS hk)
  unfold rdO
  rw [inRow_at s hk]
  by_cases c : (sat s (row l k)).wr = 1
  · rw [if_pos c, if_pos c]; rfl
  · rw [if_neg c, if_neg c]
    refine gst_row h (by omega) (by omega) (fun j hj w => ?_)
    have hne : j ≠ row l k := fun e => c (e ▸ (wrB_iff.1 w).2)
    have hc : clash (sat s j) (sat s (row l k)) = true := clash_of (wrB_iff.1 w).1 (.inl (wrB_iff.1 w).2)
    have := h.iff hj hi hc hne
    rwa [row_idx h.nd hk] at this
/-- the same ones write last -/
theorem last_same {s : List SAct} {l : List Nat} (h : Keeps s l) (o : Nat) : (gst (wrB (inRow s l) o) l.length).map (row l) = gst (wrB s o) s.length :=
  gst_row h (Nat.le_refl _) (Nat.le_refl _) (fun j hj _ => ⟨fun _ => hj, fun _ => (idx_row ((h.mem j).2 hj)).2⟩)
/-! ### one behind the other -/
/-- the places of each in turn -/
def ordd (s : List SAct) (r : List Nat) : List Nat := r.flatMap fun t => (List.range s.length).filter fun i => (sat s i).tx == t
theorem mem_ordd {s : List SAct} {r : List Nat} {x : Nat} : x ∈ ordd s r ↔ x < s.length ∧ (sat s x).tx ∈ r := by
  unfold ordd
  rw [List.mem_flatMap]
  constructor
  · rintro ⟨t, ht, hx⟩
    rw [List.mem_filter, List.mem_range, beq_iff_eq] at hx
    exact ⟨hx.1, hx.2 ▸ ht⟩
  · rintro ⟨h1, h2⟩
    exact ⟨_, h2, List.mem_filter.2 ⟨List.mem_range.2 h1, by simp⟩⟩
theorem ordd_nodup {s : List SAct} : ∀ {r : List Nat}, r.Nodup → (ordd s r).Nodup
  | [], _ => List.nodup_nil
  | t :: r, h => by
    rw [List.nodup_cons] at h
    unfold ordd
    rw [List.flatMap_cons, List.nodup_append]
    refine ⟨List.nodup_range.filter _, ordd_nodup h.2, fun a ha b hb e => ?_⟩
    subst e
    have h1 := (List.mem_filter.1 ha).2
    rw [beq_iff_eq] at h1
    exact h.1 (h1 ▸ (mem_ordd.1 hb).2)
/-- of two transactions the one ahead in the row has its places ahead; of one they stand as they stand -/
theorem ordd_idx {s : List SAct} : ∀ {r : List Nat}, r.Nodup → ∀ {i j : Nat}, i < s.length → j < s.length → (sat s i).tx ∈ r → (sat s j).tx ∈ r → r.idxOf (sat s i).tx < r.idxOf (sat s j).tx ∨ ((sat s i).tx = (sat s j).tx ∧ i < j) → (ordd s r).idxOf i < (ordd s r).idxOf j
  | [], _, _, _, _, _, h, _, _ => absurd h (List.not_mem_nil)
  | t :: r, hn, i, j, hi, hj, ri, rj, h => by
    rw [List.nodup_cons] at hn
    have e : ordd s (t :: r) = ((List.range s.length).filter fun i => (sat s i).tx == t) ++ ordd s r := by unfold ordd; rw [List.flatMap_cons]
    rw [e]
    have inA : ∀ {x : Nat}, x < s.length → ((sat s x).tx = t ↔ x ∈ (List.range s.length).filter fun i => (sat s i).tx == t) := fun {x} hx => by
      rw [List.mem_filter, List.mem_range, beq_iff_eq]
      exact ⟨fun k => ⟨hx, k⟩, fun k => k.2⟩
    by_cases ci : (sat s i).tx = t
    · have mi := (inA hi).1 ci
      rw [idx_app mi]
      by_cases cj : (sat s j).tx = t
      · have mj := (inA hj).1 cj
        rw [idx_app mj]
        have hij : i < j := by
          rcases h with h | h
          · rw [ci, cj] at h; omega
          · exact h.2
        -- the filter of a range is sorted
        have hs : ((List.range s.length).filter fun i => (sat s i).tx == t).Pairwise (· < ·) := List.pairwise_lt_range.filter _
        obtain ⟨A, hA⟩ : ∃ A, A = (List.range s.length).filter fun i => (sat s i).tx == t := ⟨_, rfl⟩
        rw [← hA] at mi mj hs ⊢
        obtain ⟨a1, a2⟩ := idx_row mi
        obtain ⟨b1, b2⟩ := idx_row mj
        rcases Nat.lt_trichotomy (A.idxOf i) (A.idxOf j) with k | k | k
        · exact k
        · rw [k, b1] at a1; omega
        · exfalso
          have := List.pairwise_iff_getElem.1 hs _ _ b2 a2 k
          have e1 : A[A.idxOf i] = i := by simp
          have e2 : A[A.idxOf j] = j := by simp
          rw [e1, e2] at this
          omega
      · have mj : j ∉ (List.range s.length).filter fun i => (sat s i).tx == t := fun k => cj ((inA hj).2 k)
        rw [idx_not mj]
        have := (idx_row mi).2
        omega
    · have mi : i ∉ (List.range s.length).filter fun i => (sat s i).tx == t := fun k => ci ((inA hi).2 k)
      have cj : (sat s j).tx ≠ t := by
        intro cj
        rcases h with h | h
        · rw [cj] at h
          simp at h
        · exact ci (h.1.trans cj)
      have mj : j ∉ (List.range s.length).filter fun i => (sat s i).tx == t := fun k => cj ((inA hj).2 k)
      rw [idx_not mi, idx_not mj]
      have ri' : (sat s i).tx ∈ r := (List.mem_cons.1 ri).resolve_left ci
      have rj' : (sat s j).tx ∈ r := (List.mem_cons.1 rj).resolve_left cj
      have ih := ordd_idx hn.2 hi hj ri' rj' (by
        rcases h with h | h
        · left
          have e1 : (t :: r).idxOf (sat s i).tx = r.idxOf (sat s i).tx + 1 := idx_tail (fun e => ci e.symm)
          have e2 : (t :: r).idxOf (sat s j).tx = r.idxOf (sat s j).tx + 1 := idx_tail (fun e => cj e.symm)
          omega
        · exact .inr h)
      omega
/-- a row in which each stands ahead of those in its set keeps all that clash -/
theorem ordd_keeps {s : List SAct} {r : List Nat} (hn : r.Nodup) (ht : ∀ i, i < s.length → (sat s i).tx ∈ r) (he : ∀ t u, Edge s t u → r.idxOf t < r.idxOf u) : Keeps s (ordd s r) :=
  ⟨ordd_nodup hn, fun x => ⟨fun h => (mem_ordd.1 h).1, fun h => mem_ordd.2 ⟨h, ht x h⟩⟩, fun i j hij hj hc => by
    refine ordd_idx hn (by omega) hj (ht i (by omega)) (ht j hj) ?_
    by_cases e : (sat s i).tx = (sat s j).tx
    · exact .inr ⟨e, hij⟩
    · exact .inl (he _ _ ⟨e, i, j, hij, hj, rfl, rfl, hc⟩)⟩
/-- done one behind the other, each edge goes on in the row -/
theorem ordd_edges {s : List SAct} {r : List Nat} (hn : r.Nodup) {t u : Nat} (h : Edge (inRow s (ordd s r)) t u) : r.idxOf t < r.idxOf u := by
  obtain ⟨hne, i, j, hij, hj, h1, h2, _⟩ := h
  have hl : (inRow s (ordd s r)).length = (ordd s r).length := by unfold inRow; rw [List.length_map]
  rw [hl] at hj
  rw [inRow_at s (by omega)] at h1
  rw [inRow_at s hj] at h2
  have m1 := mem_ordd.1 (row_memS (l := ordd s r) (k := i) (by omega))
  have m2 := mem_ordd.1 (row_memS hj)
  rw [h1] at m1
  rw [h2] at m2
  rcases Nat.lt_trichotomy (r.idxOf t) (r.idxOf u) with k | k | k
  · exact k
  · exfalso
    have e1 := (idx_row m1.2).1
    have e2 := (idx_row m2.2).1
    rw [k, e2] at e1
    exact hne e1.symm
  · exfalso
    have := ordd_idx hn m2.1 m1.1 (by rw [h2]; exact m2.2) (by rw [h1]; exact m1.2) (.inl (by rw [h1, h2]; exact k))
    rw [row_idx (ordd_nodup hn) hj, row_idx (ordd_nodup hn) (by omega)] at this
    omega
/-! ### what does not clash may change places -/
def swK (s : List SAct) (i : Nat) : List SAct := (s.set i (sat s (i - 1))).set (i - 1) (sat s i)
def swJ (i x : Nat) : Nat := if x = i then i - 1 else if x = i - 1 then i else x
theorem swK_length (s : List SAct) (i : Nat) : (swK s i).length = s.length := by simp [swK]
theorem swK_at {s : List SAct} {i : Nat} (h1 : 1 ≤ i) (h : i < s.length) (x : Nat) : sat (swK s i) x = sat s (swJ i x) := by
  unfold sat swK swJ
  by_cases c1 : x = i
  · subst c1
    rw [if_pos rfl, List.getElem?_set_ne (by omega), List.getElem?_set_self h]
    rfl
  · rw [if_neg c1]
    by_cases c2 : x = i - 1
    · subst c2
      rw [if_pos rfl, List.getElem?_set_self (by rw [List.length_set]; omega)]
      rfl
    · rw [if_neg c2, List.getElem?_set_ne (Ne.symm c2), List.getElem?_set_ne (Ne.symm c1)]
theorem swJ_twice {i : Nat} (h1 : 1 ≤ i) (x : Nat) : swJ i (swJ i x) = x := by
  unfold swJ
  by_cases c1 : x = i
  · rw [if_pos c1, if_neg (by omega), if_pos rfl]; omega
  · rw [if_neg c1]
    by_cases c2 : x = i - 1
    · rw [if_pos c2, if_pos rfl]; omega
    · rw [if_neg c2, if_neg c1, if_neg c2]
theorem swJ_lt {i n x : Nat} (h : i < n) (hx : x < n) : swJ i x < n := by
  unfold swJ
  split
  · omega
  · split <;> omega
theorem swJ_mono {i x y : Nat} (h1 : 1 ≤ i) (hxy : x < y) (hn : ¬ (x = i - 1 ∧ y = i)) : swJ i x < swJ i y := by
  unfold swJ
  by_cases a : x = i
  · rw [if_pos a, if_neg (by omega), if_neg (by omega)]; omega
  · rw [if_neg a]
    by_cases b : x = i - 1
    · rw [if_pos b]
      by_cases c : y = i
      · exact absurd ⟨b, c⟩ hn
      · rw [if_neg c, if_neg (by omega)]; omega
    · rw [if_neg b]
      by_cases c : y = i
      · rw [if_pos c]; omega
      · rw [if_neg c]
        by_cases d : y = i - 1
        · rw [if_pos d]; omega
        · rw [if_neg d]; exact hxy
theorem swap_edge1 {s : List SAct} {i : Nat} (h1 : 1 ≤ i) (h : i < s.length) (hc : clash (sat s (i - 1)) (sat s i) = false) {t u : Nat} (k : Edge s t u) : Edge (swK s i) t u := by
  obtain ⟨hne, x, y, hxy, hy, e1, e2, e3⟩ := k
  refine ⟨hne, swJ i x, swJ i y, swJ_mono h1 hxy (fun ⟨a, b⟩ => ?_), by rw [swK_length]; exact swJ_lt h hy, ?_, ?_, ?_⟩
  · rw [a, b, hc] at e3; cases e3
  · rw [swK_at h1 h, swJ_twice h1]; exact e1
  · rw [swK_at h1 h, swJ_twice h1]; exact e2
  · rw [swK_at h1 h, swK_at h1 h, swJ_twice h1, swJ_twice h1]; exact e3
theorem swK_twice {s : List SAct} {i : Nat} (h1 : 1 ≤ i) (h : i < s.length) : swK (swK s i) i = s := by
  apply List.ext_getElem?
  intro k
  have hl : (swK (swK s i) i).length = s.length := by rw [swK_length, swK_length]
  by_cases hk : k < s.length
  · have e := swK_at (s := swK s i) h1 (by rw [swK_length]; exact h) k
    rw [swK_at h1 h, swJ_twice h1] at e
    unfold sat at e
    rw [List.getElem?_eq_getElem (by omega), List.getElem?_eq_getElem hk] at e ⊢
    exact congrArg some e
  · rw [List.getElem?_eq_none (by omega), List.getElem?_eq_none (by omega)]
/-- then the edges are the same -/
theorem swap_edges {s : List SAct} {i : Nat} (h1 : 1 ≤ i) (h : i < s.length) (hc : clash (sat s (i - 1)) (sat s i) = false) (t u : Nat) : Edge (swK s i) t u ↔ Edge s t u := by
  constructor
  · intro k
    have hc2 : clash (sat (swK s i) (i - 1)) (sat (swK s i) i) = false := by
      rw [swK_at h1 h, swK_at h1 h, clash_sym]
      have a : swJ i i = i - 1 := by unfold swJ; rw [if_pos rfl]
      have b : swJ i (i - 1) = i := by unfold swJ; rw [if_neg (by omega), if_pos rfl]
      rw [a, b]; exact hc
    have := swap_edge1 h1 (by rw [swK_length]; exact h) hc2 k
    rwa [swK_twice h1 h] at this
  · exact swap_edge1 h1 h hc
end Go.Proofs.YtajiichehffaaaaDoor.M
