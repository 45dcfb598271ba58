/- Plain mathematics of schedules: acts that clash; of whom an act reads; what does not clash may change places; one behind the other it is the same. No program text is named. Plain mathematics of locks: who writes is alone; what is done goes by who freed first; who is stuck stays stuck. No program text is named. Plain mathematics: the least row by trying, in any states; rows in which each stands ahead of those in its set; there is one just if nothing stands behind itself. No program text is named. Plain mathematics of views: without danger there is no ring; in a row each reads the same. No program text is named. Plain mathematics: the edges of a schedule as rows of bits, gone over pair by pair; the first row of what stands ahead is the least row by trying. No program text is named. -/
import Derived.Test.YtajiichehffaaaaDoorBMa
namespace Go.Proofs.YtajiichehffaaaaDoor.M

structure SAct where
  tx : Nat
  it : Nat
  wr : Nat
def sat (s : List SAct) (i : Nat) : SAct := s[i]?.getD ⟨0, 0, 0⟩
/-- do two clash? -/
def clash (a b : SAct) : Bool := a.it == b.it && (a.wr == 1 || b.wr == 1)
theorem clash_sym (a b : SAct) : clash a b = clash b a := by
  unfold clash
  rw [Bool.or_comm (b.wr == 1), show (a.it == b.it) = (b.it == a.it) by rw [Bool.eq_iff_iff, beq_iff_eq, beq_iff_eq]; exact ⟨Eq.symm, Eq.symm⟩]
/-- an act of u stands behind one of t and clashes with it -/
def Edge (s : List SAct) (t u : Nat) : Prop := t ≠ u ∧ ∃ i j, i < j ∧ j < s.length ∧ (sat s i).tx = t ∧ (sat s j).tx = u ∧ clash (sat s i) (sat s j) = true
/-! ### the greatest one that does -/
def gst (p : Nat → Bool) : Nat → Option Nat
  | 0 => none
  | n + 1 => if p n then some n else gst p n
theorem gst_some {p : Nat → Bool} {j : Nat} : ∀ {n : Nat}, gst p n = some j ↔ j < n ∧ p j = true ∧ ∀ x, j < x → x < n → p x = false
  | 0 => by simp [gst]
  | n + 1 => by
    simp only [gst]
    by_cases h : p n = true
    · rw [if_pos h]
      constructor
      · intro e
        obtain rfl := Option.some.inj e
        exact ⟨by omega, h, fun x h1 h2 => by omega⟩
      · rintro ⟨h1, _, h3⟩
        by_cases e : j = n
        · rw [e]
        · rw [h3 n (by omega) (by omega)] at h; cases h
    · rw [if_neg h, gst_some]
      constructor
      · rintro ⟨h1, h2, h3⟩
        refine ⟨by omega, h2, fun x a b => ?_⟩
        by_cases e : x = n
        · subst e; simpa using h
        · exact h3 x a (by omega)
      · rintro ⟨h1, h2, h3⟩
        have : j ≠ n := fun e => h (e ▸ h2)
        exact ⟨by omega, h2, fun x a b => h3 x a (by omega)⟩
theorem gst_none {p : Nat → Bool} : ∀ {n : Nat}, gst p n = none ↔ ∀ x, x < n → p x = false
  | 0 => by simp [gst]
  | n + 1 => by
    simp only [gst]
    by_cases h : p n = true
    · rw [if_pos h]
      constructor
      · intro e; cases e
      · intro k; rw [k n (by omega)] at h; cases h
    · rw [if_neg h, gst_none]
      constructor
      · intro k x hx
        by_cases e : x = n
        · subst e; simpa using h
        · exact k x (by omega)
      · intro k x hx; exact k x (by omega)
/-- does the act write the item? -/
def wrB (s : List SAct) (o i : Nat) : Bool := (sat s i).it == o && (sat s i).wr == 1
/-- of whom it reads -/
def rdO (s : List SAct) (i : Nat) : Option Nat := if (sat s i).wr = 1 then none else gst (wrB s (sat s i).it) i
/-! ### the acts in another row -/
/-- a row of all places in which those that clash stand as they stood -/
structure Keeps (s : List SAct) (l : List Nat) : Prop where
  nd : l.Nodup
  mem : ∀ x, x ∈ l ↔ x < s.length
  ord : ∀ i j, i < j → j < s.length → clash (sat s i) (sat s j) = true → l.idxOf i < l.idxOf j
theorem Keeps.len {s : List SAct} {l : List Nat} (h : Keeps s l) : l.length = s.length := by
  have : l.Perm (List.range s.length) := (List.perm_ext_iff_of_nodup h.nd List.nodup_range).2 (fun x => by rw [h.mem, List.mem_range])
  rw [this.length_eq, List.length_range]
theorem row_idx {l : List Nat} (h : l.Nodup) {k : Nat} (hk : k < l.length) : l.idxOf (row l k) = k := by
  have : row l k = l[k] := by unfold row; rw [List.getElem?_eq_getElem hk]; rfl
  rw [this]
  exact h.idxOf_getElem k hk
theorem idx_row {l : List Nat} {x : Nat} (h : x ∈ l) : row l (l.idxOf x) = x ∧ l.idxOf x < l.length := by
  have hl : l.idxOf x < l.length := List.idxOf_lt_length_of_mem h
  refine ⟨?_, hl⟩
  unfold row
  rw [List.getElem?_eq_getElem hl]
  simp
theorem row_memS {l : List Nat} {k : Nat} (hk : k < l.length) : row l k ∈ l := by
  unfold row
  rw [List.getElem?_eq_getElem hk]
  exact List.getElem_mem hk
theorem idx_app {a b : List Nat} {x : Nat} (h : x ∈ a) : (a ++ b).idxOf x = a.idxOf x := by rw [List.idxOf_append, if_pos h]
theorem idx_not {a b : List Nat} {x : Nat} (h : ¬ x ∈ a) : (a ++ b).idxOf x = b.idxOf x + a.length := by rw [List.idxOf_append, if_neg h]
theorem idx_tail {t x : Nat} {r : List Nat} (h : t ≠ x) : (t :: r).idxOf x = r.idxOf x + 1 := by
  rw [List.idxOf_cons]
  have : (t == x) = false := by simpa using h
  rw [this]; rfl
/-- the acts in that row -/
def inRow (s : List SAct) (l : List Nat) : List SAct := l.map (sat s)
theorem inRow_at (s : List SAct) {l : List Nat} {k : Nat} (hk : k < l.length) : sat (inRow s l) k = sat s (row l k) := by
  unfold inRow
  show ((l.map (sat s))[k]?).getD _ = _
  rw [List.getElem?_map]
  unfold row
  rw [List.getElem?_eq_getElem hk]
  rfl
/-- two that clash stand just as they stood -/
theorem Keeps.iff {s : List SAct} {l : List Nat} (h : Keeps s l) {i j : Nat} (hi : i < s.length) (hj : j < s.length) (hc : clash (sat s i) (sat s j) = true) (hne : i ≠ j) : l.idxOf i < l.idxOf j ↔ i < j := by
  rcases Nat.lt_or_gt_of_ne hne with k | k
  · exact ⟨fun _ => k, fun _ => h.ord i j k hj hc⟩
  · have := h.ord j i k hi (by rw [clash_sym]; exact hc)
    exact ⟨fun e => by omega, fun e => by omega⟩
theorem wrB_iff {s : List SAct} {o i : Nat} : wrB s o i = true ↔ (sat s i).it = o ∧ (sat s i).wr = 1 := by
  unfold wrB
  rw [Bool.and_eq_true, beq_iff_eq, beq_iff_eq]
theorem clash_of {a b : SAct} (h : a.it = b.it) (h2 : a.wr = 1 ∨ b.wr = 1) : clash a b = true := by
  unfold clash
  rw [Bool.and_eq_true, Bool.or_eq_true, beq_iff_eq, beq_iff_eq, beq_iff_eq]
  exact ⟨h, h2⟩
/-- of the writes of an item, what stands last ahead of place k of the row is what stood last ahead of what stands there, if that clashes with all of them -/
theorem gst_row {s : List SAct} {l : List Nat} (h : Keeps s l) {o k i : Nat} (hk : k ≤ l.length) (hi : i ≤ s.length) (hb : ∀ j, j < s.length → wrB s o j = true → (l.idxOf j < k ↔ j < i)) : (gst (wrB (inRow s l) o) k).map (row l) = gst (wrB s o) i := by
  have at_ : ∀ m, m < l.length → wrB (inRow s l) o m = wrB s o (row l m) := fun m hm => by unfold wrB; rw [inRow_at s hm]
  cases e : gst (wrB (inRow s l) o) k with
  | none =>
    rw [Option.map_none]
    symm
    rw [gst_none]
    rw [gst_none] at e
    intro j hj
    cases w : wrB s o j with
    | false => rfl
    | true =>
      have hjs : j < s.length := by omega
      obtain ⟨h1, h2⟩ := idx_row ((h.mem j).2 hjs)
      have := e _ ((hb j hjs w).2 hj)
      rw [at_ _ h2, h1, w] at this
      cases this
  | some m =>
    rw [Option.map_some]
    symm
    obtain ⟨h1, h2, h3⟩ := gst_some.1 e
    have hm : m < l.length := by omega
    rw [at_ m hm] at h2
    have hjs := (h.mem _).1 (row_memS hm)
    rw [gst_some]
    refine ⟨(hb _ hjs h2).1 (by rw [row_idx h.nd hm]; exact h1), h2, fun x hx hxi => ?_⟩
    cases w : wrB s o x with
    | false => rfl
    | true =>
      have hxs : x < s.length := by omega
      obtain ⟨g1, g2⟩ := idx_row ((h.mem x).2 hxs)
      have hc : clash (sat s (row l m)) (sat s x) = true := clash_of (by rw [(wrB_iff.1 h2).1, (wrB_iff.1 w).1]) (.inl (wrB_iff.1 h2).2)
      have := h.ord _ _ hx hxs hc
      rw [row_idx h.nd hm] at this
      have k2 := h3 _ this ((hb x hxs w).2 hxi)
      rw [at_ _ g2, g1, w] at k2
      cases k2
/-- each reads of the same one -/
theorem reads_same {s : List SAct} {l : List Nat} (h : Keeps s l) {k : Nat} (hk : k < l.length) : (rdO (inRow s l) k).map (row l) = rdO s (row l k) := by
  have hi := (h.mem _).1 (row_memS hk)
  unfold rdO
  rw [inRow_at s hk]
  by_cases c : (sat s (row l k)).wr = 1
  · rw [if_pos c, if_pos c]; rfl
  · rw [if_neg c, if_neg c]
    refine gst_row h (by omega) (by omega) (fun j hj w => ?_)
    have hne : j ≠ row l k := fun e => c (e ▸ (wrB_iff.1 w).2)
    have hc : clash (sat s j) (sat s (row l k)) = true := clash_of (wrB_iff.1 w).1 (.inl (wrB_iff.1 w).2)
    have := h.iff hj hi hc hne
    rwa [row_idx h.nd hk] at this
/-- the same ones write last -/
theorem last_same {s : List SAct} {l : List Nat} (h : Keeps s l) (o : Nat) : (gst (wrB (inRow s l) o) l.length).map (row l) = gst (wrB s o) s.length :=
  gst_row h (Nat.le_refl _) (Nat.le_refl _) (fun j hj _ => ⟨fun _ => hj, fun _ => (idx_row ((h.mem j).2 hj)).2⟩)
/-! ### one behind the other -/
/-- the places of each in turn -/
def ordd (s : List SAct) (r : List Nat) : List Nat := r.flatMap fun t => (List.range s.length).filter fun i => (sat s i).tx == t
theorem mem_ordd {s : List SAct} {r : List Nat} {x : Nat} : x ∈ ordd s r ↔ x < s.length ∧ (sat s x).tx ∈ r := by
  unfold ordd
  rw [List.mem_flatMap]
  constructor
  · rintro ⟨t, ht, hx⟩
    rw [List.mem_filter, List.mem_range, beq_iff_eq] at hx
    exact ⟨hx.1, hx.2 ▸ ht⟩
  · rintro ⟨h1, h2⟩
    exact ⟨_, h2, List.mem_filter.2 ⟨List.mem_range.2 h1, by simp⟩⟩
theorem ordd_nodup {s : List SAct} : ∀ {r : List Nat}, r.Nodup → (ordd s r).Nodup
  | [], _ => List.nodup_nil
  | t :: r, h => by
    rw [List.nodup_cons] at h
    unfold ordd
    rw [List.flatMap_cons, List.nodup_append]
    refine ⟨List.nodup_range.filter _, ordd_nodup h.2, fun a ha b hb e => ?_⟩
    subst e
    have h1 := (List.mem_filter.1 ha).2
    rw [beq_iff_eq] at h1
    exact h.1 (h1 ▸ (mem_ordd.1 hb).2)
/-- of two transactions the one ahead in the row has its places ahead; of one they stand as they stand -/
theorem ordd_idx {s : List SAct} : ∀ {r : List Nat}, r.Nodup → ∀ {i j : Nat}, i < s.length → j < s.length → (sat s i).tx ∈ r → (sat s j).tx ∈ r → r.idxOf (sat s i).tx < r.idxOf (sat s j).tx ∨ ((sat s i).tx = (sat s j).tx ∧ i < j) → (ordd s r).idxOf i < (ordd s r).idxOf j
  | [], _, _, _, _, _, h, _, _ => absurd h (List.not_mem_nil)
  | t :: r, hn, i, j, hi, hj, ri, rj, h => by
    rw [List.nodup_cons] at hn
    have e : ordd s (t :: r) = ((List.range s.length).filter fun i => (sat s i).tx == t) ++ ordd s r := by unfold ordd; rw [List.flatMap_cons]
    rw [e]
    have inA : ∀ {x : Nat}, x < s.length → ((sat s x).tx = t ↔ x ∈ (List.range s.length).filter fun i => (sat s i).tx == t) := fun {x} hx => by
      rw [List.mem_filter, List.mem_range, beq_iff_eq]
      exact ⟨fun k => ⟨hx, k⟩, fun k => k.2⟩
    by_cases ci : (sat s i).tx = t
    · have mi := (inA hi).1 ci
      rw [idx_app mi]
      by_cases cj : (sat s j).tx = t
      · have mj := (inA hj).1 cj
        rw [idx_app mj]
        have hij : i < j := by
          rcases h with h | h
          · rw [ci, cj] at h; omega
          · exact h.2
        -- the filter of a range is sorted
        have hs : ((List.range s.length).filter fun i => (sat s i).tx == t).Pairwise (· < ·) := List.pairwise_lt_range.filter _
        obtain ⟨A, hA⟩ : ∃ A, A = (List.range s.length).filter fun i => (sat s i).tx == t := ⟨_, rfl⟩
        rw [← hA] at mi mj hs ⊢
        obtain ⟨a1, a2⟩ := idx_row mi
        obtain ⟨b1, b2⟩ := idx_row mj
        rcases Nat.lt_trichotomy (A.idxOf i) (A.idxOf j) with k | k | k
        · exact k
        · rw [k, b1] at a1; omega
        · exfalso
          have := List.pairwise_iff_getElem.1 hs _ _ b2 a2 k
          have e1 : A[A.idxOf i] = i := by simp
          have e2 : A[A.idxOf j] = j := by simp
          rw [e1, e2] at this
          omega
      · have mj : j ∉ (List.range s.length).filter fun i => (sat s i).tx == t := fun k => cj ((inA hj).2 k)
        rw [idx_not mj]
        have := (idx_row mi).2
        omega
    · have mi : i ∉ (List.range s.length).filter fun i => (sat s i).tx == t := fun k => ci ((inA hi).2 k)
      have cj : (sat s j).tx ≠ t := by
        intro cj
        rcases h with h | h
        · rw [cj] at h
          simp at h
        · exact ci (h.1.trans cj)
      have mj : j ∉ (List.range s.length).filter fun i => (sat s i).tx == t := fun k => cj ((inA hj).2 k)
      rw [idx_not mi, idx_not mj]
      have ri' : (sat s i).tx ∈ r := (List.mem_cons.1 ri).resolve_left ci
      have rj' : (sat s j).tx ∈ r := (List.mem_cons.1 rj).resolve_left cj
      have ih := ordd_idx hn.2 hi hj ri' rj' (by
        rcases h with h | h
        · left
          have e1 : (t :: r).idxOf (sat s i).tx = r.idxOf (sat s i).tx + 1 := idx_tail (fun e => ci e.symm)
          have e2 : (t :: r).idxOf (sat s j).tx = r.idxOf (sat s j).tx + 1 := idx_tail (fun e => cj e.symm)
          omega
        · exact .inr h)
      omega
/-- a row in which each stands ahead of those in its set keeps all that clash -/
theorem ordd_keeps {s : List SAct} {r : List Nat} (hn : r.Nodup) (ht : ∀ i, i < s.length → (sat s i).tx ∈ r) (he : ∀ t u, Edge s t u → r.idxOf t < r.idxOf u) : Keeps s (ordd s r) :=
  ⟨ordd_nodup hn, fun x => ⟨fun h => (mem_ordd.1 h).1, fun h => mem_ordd.2 ⟨h, ht x h⟩⟩, fun i j hij hj hc => by
    refine ordd_idx hn (by omega) hj (ht i (by omega)) (ht j hj) ?_
    by_cases e : (sat s i).tx = (sat s j).tx
    · exact .inr ⟨e, hij⟩
    · exact .inl (he _ _ ⟨e, i, j, hij, hj, rfl, rfl, hc⟩)⟩
/-- done one behind the other, each edge goes on in the row -/
theorem ordd_edges {s : List SAct} {r : List Nat} (hn : r.Nodup) {t u : Nat} (h : Edge (inRow s (ordd s r)) t u) : r.idxOf t < r.idxOf u := by
  obtain ⟨hne, i, j, hij, hj, h1, h2, _⟩ := h
  have hl : (inRow s (ordd s r)).length = (ordd s r).length := by unfold inRow; rw [List.length_map]
  rw [hl] at hj
  rw [inRow_at s (by omega)] at h1
  rw [inRow_at s hj] at h2
  have m1 := mem_ordd.1 (row_memS (l := ordd s r) (k := i) (by omega))
  have m2 := mem_ordd.1 (row_memS hj)
  rw [h1] at m1
  rw [h2] at m2
  rcases Nat.lt_trichotomy (r.idxOf t) (r.idxOf u) with k | k | k
  · exact k
  · exfalso
    have e1 := (idx_row m1.2).1
    have e2 := (idx_row m2.2).1
    rw [k, e2] at e1
    exact hne e1.symm
  · exfalso
    have := ordd_idx hn m2.1 m1.1 (by rw [h2]; exact m2.2) (by rw [h1]; exact m1.2) (.inl (by rw [h1, h2]; exact k))
    rw [row_idx (ordd_nodup hn) hj, row_idx (ordd_nodup hn) (by omega)] at this
    omega
/-! ### what does not clash may change places -/
def swK (s : List SAct) (i : Nat) : List SAct := (s.set i (sat s (i - 1))).set (i - 1) (sat s i)
def swJ (i x : Nat) : Nat := if x = i then i - 1 else if x = i - 1 then i else x
theorem swK_length (s : List SAct) (i : Nat) : (swK s i).length = s.length := by simp [swK]
theorem swK_at {s : List SAct} {i : Nat} (h1 : 1 ≤ i) (h : i < s.length) (x : Nat) : sat (swK s i) x = sat s (swJ i x) := by
  unfold sat swK swJ
  by_cases c1 : x = i
  · subst c1
    rw [if_pos rfl, List.getElem?_set_ne (by omega), List.getElem?_set_self h]
    rfl
  · rw [if_neg c1]
    by_cases c2 : x = i - 1
    · subst c2
      rw [if_pos rfl, List.getElem?_set_self (by rw [List.length_set]; omega)]
      rfl
    · rw [if_neg c2, List.getElem?_set_ne (Ne.symm c2), List.getElem?_set_ne (Ne.symm c1)]
theorem swJ_twice {i : Nat} (h1 : 1 ≤ i) (x : Nat) : swJ i (swJ i x) = x := by
  unfold swJ
  by_cases c1 : x = i
  · rw [if_pos c1, if_neg (by omega), if_pos rfl]; omega
  · rw [if_neg c1]
    by_cases c2 : x = i - 1
    · rw [if_pos c2, if_pos rfl]; omega
    · rw [if_neg c2, if_neg c1, if_neg c2]
theorem swJ_lt {i n x : Nat} (h : i < n) (hx : x < n) : swJ i x < n := by
  unfold swJ
  split
  · omega
  · split <;> omega
theorem swJ_mono {i x y : Nat} (h1 : 1 ≤ i) (hxy : x < y) (hn : ¬ (x = i - 1 ∧ y = i)) : swJ i x < swJ i y := by
  unfold swJ
  by_cases a : x = i
  · rw [if_pos a, if_neg (by omega), if_neg (by omega)]; omega
  · rw [if_neg a]
    by_cases b : x = i - 1
    · rw [if_pos b]
      by_cases c : y = i
      · exact absurd ⟨b, c⟩ hn
      · rw [if_neg c, if_neg (by omega)]; omega
    · rw [if_neg b]
      by_cases c : y = i
      · rw [if_pos c]; omega
      · rw [if_neg c]
        by_cases d : y = i - 1
        · rw [if_pos d]; omega
        · rw [if_neg d]; exact hxy
theorem swap_edge1 {s : List SAct} {i : Nat} (h1 : 1 ≤ i) (h : i < s.length) (hc : clash (sat s (i - 1)) (sat s i) = false) {t u : Nat} (k : Edge s t u) : Edge (swK s i) t u := by
  obtain ⟨hne, x, y, hxy, hy, e1, e2, e3⟩ := k
  refine ⟨hne, swJ i x, swJ i y, swJ_mono h1 hxy (fun ⟨a, b⟩ => ?_), by rw [swK_length]; exact swJ_lt h hy, ?_, ?_, ?_⟩
  · rw [a, b, hc] at e3; cases e3
  · rw [swK_at h1 h, swJ_twice h1]; exact e1
  · rw [swK_at h1 h, swJ_twice h1]; exact e2
  · rw [swK_at h1 h, swK_at h1 h, swJ_twice h1, swJ_twice h1]; exact e3
theorem swK_twice {s : List SAct} {i : Nat} (h1 : 1 ≤ i) (h : i < s.length) : swK (swK s i) i = s := by
  apply List.ext_getElem?
  intro k
  have hl : (swK (swK s i) i).length = s.length := by rw [swK_length, swK_length]
  by_cases hk : k < s.length
  · have e := swK_at (s := swK s i) h1 (by rw [swK_length]; exact h) k
    rw [swK_at h1 h, swJ_twice h1] at e
    unfold sat at e
    rw [List.getElem?_eq_getElem (by omega), List.getElem?_eq_getElem hk] at e ⊢
    exact congrArg some e
  · rw [List.getElem?_eq_none (by omega), List.getElem?_eq_none (by omega)]
/-- then the edges are the same -/
theorem swap_edges {s : List SAct} {i : Nat} (h1 : 1 ≤ i) (h : i < s.length) (hc : clash (sat s (i - 1)) (sat s i) = false) (t u : Nat) : Edge (swK s i) t u ↔ Edge s t u := by
  constructor
  · intro k
    have hc2 : clash (sat (swK s i) (i - 1)) (sat (swK s i) i) = false := by
      rw [swK_at h1 h, swK_at h1 h, clash_sym]
      have a : swJ i i = i - 1 := by unfold swJ; rw [if_pos rfl]
      have b : swJ i (i - 1) = i := by unfold swJ; rw [if_neg (by omega), if_pos rfl]
      rw [a, b]; exact hc
    have := swap_edge1 h1 (by rw [swK_length]; exact h) hc2 k
    rwa [swK_twice h1 h] at this
  · exact swap_edge1 h1 h hc
end Go.Proofs.YtajiichehffaaaaDoor.M
namespace Go.Proofs.YtajiichehffaaaaDoor.M

/-- locks: by a transaction and an item what it holds (1 to read, 2 to write, 3 both); for what each waits: 0 nothing, else one more than twice the item, and one more to write; who freed something, the first ones first; what was done -/
structure Lk where
  hd : Nat → Nat → Nat
  wa : Nat → Nat
  fo : List Nat
  ac : List SAct
def lk0 : Lk := ⟨fun _ _ => 0, fun _ => 0, [], []⟩
/-- does y hold what stands against the lock? -/
def agB (s : Lk) (x o own y : Nat) : Bool := decide (y ≠ x) && (decide (2 ≤ s.hd y o) || (own == 1 && s.hd y o == 1))
def up2 (f : Nat → Nat → Nat) (t o v : Nat) : Nat → Nat → Nat := fun x y => if x = t ∧ y = o then v else f x y
def up1 (f : Nat → Nat) (t v : Nat) : Nat → Nat := fun x => if x = t then v else f x
def wth (h k : Nat) : Nat := h ||| 2 ^ k
def has5 (p : Nat → Bool) : Bool := (List.range 5).any p
/-- a deed: the locks behind it, and what is wrong -/
def lkDo (s : Lk) (kind t o wr : Nat) : Lk × Nat :=
  if kind ≤ 1 then
    if t ∈ s.fo then (s, 7)
    else if has5 (agB s t o kind) = true then ({ s with wa := up1 s.wa t (o * 2 + kind + 1) }, 6)
    else ({ s with wa := up1 s.wa t 0, hd := up2 s.hd t o (wth (s.hd t o) kind) }, 0)
  else if kind = 2 then
    if s.hd t o = 0 then (s, 5) else ({ s with hd := up2 s.hd t o 0, fo := if t ∈ s.fo then s.fo else s.fo ++ [t] }, 0)
  else if s.hd t o = 0 ∨ (s.hd t o = 1 ∧ wr = 1) then (s, 5)
  else if 24 ≤ s.ac.length then (s, 4)
  else ({ s with ac := s.ac ++ [⟨t, o, wr⟩] }, 0)
theorem has5_no {p : Nat → Bool} (h : ¬ has5 p = true) {y : Nat} (hy : y < 5) : p y = false := by
  cases e : p y with
  | false => rfl
  | true => exact absurd (by unfold has5; rw [List.any_eq_true]; exact ⟨y, List.mem_range.2 hy, e⟩) h
/-- is what is held enough for an act? -/
def enough (h wr : Nat) : Prop := h ≠ 0 ∧ (wr = 1 → 2 ≤ h)
/-- What always holds of locks. -/
structure LI (s : Lk) : Prop where
  le : ∀ t o, s.hd t o ≤ 3
  apart : ∀ t u o, t < 5 → u < 5 → t ≠ u → 2 ≤ s.hd t o → s.hd u o = 0
  own : ∀ a, a ∈ s.ac → a.tx < 5 ∧ (enough (s.hd a.tx a.it) a.wr ∨ a.tx ∈ s.fo)
  ahead : ∀ a u, a ∈ s.ac → u < 5 → u ≠ a.tx → s.hd u a.it ≠ 0 → (a.wr = 1 ∨ 2 ≤ s.hd u a.it) → a.tx ∈ s.fo ∧ s.fo.idxOf a.tx < s.fo.idxOf u
  edge : ∀ t u, Edge s.ac t u → t ∈ s.fo ∧ s.fo.idxOf t < s.fo.idxOf u
theorem wth_val (h : Nat) (hh : h ≤ 3) : wth h 0 ≠ 0 ∧ wth h 0 ≤ 3 ∧ (2 ≤ wth h 0 ↔ 2 ≤ h) ∧ wth h 1 ≤ 3 ∧ 2 ≤ wth h 1 := by
  have : h = 0 ∨ h = 1 ∨ h = 2 ∨ h = 3 := by omega
  unfold wth
  rcases this with rfl | rfl | rfl | rfl <;> decide
theorem LI.zero : LI lk0 := ⟨fun _ _ => Nat.zero_le _, fun _ _ _ _ _ _ h => absurd h (by show ¬ 2 ≤ 0; omega), fun _ h => absurd h (List.not_mem_nil), fun _ _ h => absurd h (List.not_mem_nil), fun t u ⟨_, i, j, hij, hj, _⟩ => absurd hj (Nat.not_lt_zero _)⟩
theorem edge_snoc {s : List SAct} {a : SAct} {t u : Nat} (h : Edge (s ++ [a]) t u) : Edge s t u ∨ (u = a.tx ∧ ∃ b, b ∈ s ∧ b.tx = t ∧ t ≠ a.tx ∧ clash b a = true) := by
  obtain ⟨hne, i, j, hij, hj, h1, h2, h3⟩ := h
  rw [List.length_append] at hj
  have hj' : j < s.length + 1 := hj
  have old : ∀ {k : Nat}, k < s.length → sat (s ++ [a]) k = sat s k := fun {k} hk => by unfold sat; rw [List.getElem?_append_left hk]
  have new : sat (s ++ [a]) s.length = a := by unfold sat; rw [List.getElem?_append_right (Nat.le_refl _), Nat.sub_self]; rfl
  by_cases c : j = s.length
  · subst c
    right
    rw [new] at h2 h3
    rw [old hij] at h1 h3
    refine ⟨h2.symm, sat s i, ?_, h1, by rw [h2]; exact hne, h3⟩
    unfold sat
    rw [List.getElem?_eq_getElem hij]
    exact List.getElem_mem hij
  · left
    have hj2 : j < s.length := by omega
    rw [old (by omega)] at h1 h3
    rw [old hj2] at h2 h3
    exact ⟨hne, i, j, hij, hj2, h1, h2, h3⟩
theorem idx_snoc {l : List Nat} {x t u : Nat} (ht : t ∈ l) (h : l.idxOf t < l.idxOf u) : (l ++ [x]).idxOf t < (l ++ [x]).idxOf u := by
  rw [idx_app ht]
  by_cases c : u ∈ l
  · rw [idx_app c]; exact h
  · rw [idx_not c]
    have := (idx_row ht).2
    omega
theorem clash_parts {a b : SAct} (h : clash a b = true) : a.it = b.it ∧ (a.wr = 1 ∨ b.wr = 1) := by
  unfold clash at h
  rw [Bool.and_eq_true, Bool.or_eq_true, beq_iff_eq, beq_iff_eq, beq_iff_eq] at h
  exact h
/-- a deed keeps it -/
theorem LI.step {s : Lk} (h : LI s) (kind : Nat) {t : Nat} (o wr : Nat) (ht : t < 5) : LI (lkDo s kind t o wr).1 := by
  unfold lkDo
  by_cases k1 : kind ≤ 1
  · rw [if_pos k1]
    by_cases f : t ∈ s.fo
    · rw [if_pos f]; exact h
    · rw [if_neg f]
      by_cases g : has5 (agB s t o kind) = true
      · rw [if_pos g]; exact ⟨h.le, h.apart, h.own, h.ahead, h.edge⟩
      · rw [if_neg g]
        have hv := wth_val (s.hd t o) (h.le t o)
        have no : ∀ y, y < 5 → y ≠ t → s.hd y o < 2 ∧ (kind = 1 → s.hd y o = 0) := fun y hy hne => by
          have := has5_no g hy
          unfold agB at this
          rw [show decide (y ≠ t) = true from decide_eq_true hne, Bool.true_and, Bool.or_eq_false_iff] at this
          have h1 := of_decide_eq_false this.1
          refine ⟨by omega, fun e => ?_⟩
          have h2 := this.2
          rw [e] at h2
          simp at h2
          omega
        have hk : kind = 0 ∨ kind = 1 := by omega
        have v : ∀ x y, up2 s.hd t o (wth (s.hd t o) kind) x y = if x = t ∧ y = o then wth (s.hd t o) kind else s.hd x y := fun x y => rfl
        have grow : ∀ x y wr, enough (s.hd x y) wr → enough (up2 s.hd t o (wth (s.hd t o) kind) x y) wr := fun x y wr e => by
          rw [v]
          by_cases c : x = t ∧ y = o
          · rw [if_pos c]
            obtain ⟨rfl, rfl⟩ := c
            rcases hk with rfl | rfl
            · exact ⟨hv.1, fun w => (hv.2.2.1).2 (e.2 w)⟩
            · exact ⟨by have := hv.2.2.2.2; omega, fun _ => hv.2.2.2.2⟩
          · rw [if_neg c]; exact e
        refine ⟨fun x y => ?_, fun x u y hx hu hne h2 => ?_, fun a ha => ⟨(h.own a ha).1, (h.own a ha).2.imp (grow _ _ _) id⟩, fun a u ha hu hne h0 hc => ?_, h.edge⟩
        · show up2 _ _ _ _ x y ≤ 3
          rw [v]
          split
          · rcases hk with rfl | rfl
            · exact hv.2.1
            · exact hv.2.2.2.1
          · exact h.le x y
        · change 2 ≤ up2 _ _ _ _ x y at h2
          show up2 _ _ _ _ u y = 0
          rw [v] at h2 ⊢
          by_cases c : x = t ∧ y = o
          · obtain ⟨rfl, rfl⟩ := c
            rw [if_neg (fun e => hne e.1.symm)]
            rw [if_pos ⟨rfl, rfl⟩] at h2
            rcases hk with rfl | rfl
            · exact h.apart x u y hx hu hne ((hv.2.2.1).1 h2)
            · exact (no u hu (Ne.symm hne)).2 rfl
          · rw [if_neg c] at h2
            by_cases c2 : u = t ∧ y = o
            · obtain ⟨rfl, rfl⟩ := c2
              have := (no x hx hne).1
              omega
            · rw [if_neg c2]; exact h.apart x u y hx hu hne h2
        · change up2 _ _ _ _ u a.it ≠ 0 at h0
          change a.wr = 1 ∨ 2 ≤ up2 _ _ _ _ u a.it at hc
          show a.tx ∈ s.fo ∧ s.fo.idxOf a.tx < s.fo.idxOf u
          rw [v] at h0 hc
          by_cases c : u = t ∧ a.it = o
          · -- it holds the lock now: who acted freed it
            rw [if_pos c] at h0 hc
            obtain ⟨rfl, e2⟩ := c
            have hin : a.tx ∈ s.fo := by
              rcases (h.own a ha).2 with e | e
              · exfalso
                have n1 := no a.tx (h.own a ha).1 (Ne.symm hne)
                rw [← e2] at n1
                rcases hk with rfl | rfl
                · rcases hc with w | w
                  · have := e.2 w; omega
                  · have w2 := (hv.2.2.1).1 w
                    have := h.apart u a.tx o hu (h.own a ha).1 hne w2
                    rw [← e2] at this
                    exact e.1 this
                · exact e.1 (n1.2 rfl)
              · exact e
            refine ⟨hin, ?_⟩
            have h1 := (idx_row hin).2
            have h2 : s.fo.idxOf u = s.fo.length := List.idxOf_eq_length f
            omega
          · rw [if_neg c] at h0 hc
            exact h.ahead a u ha hu hne h0 hc
  · rw [if_neg k1]
    by_cases k2 : kind = 2
    · rw [if_pos k2]
      by_cases g : s.hd t o = 0
      · rw [if_pos g]; exact h
      · rw [if_neg g]
        have v : ∀ x y, up2 s.hd t o 0 x y = if x = t ∧ y = o then 0 else s.hd x y := fun x y => rfl
        have keep : ∀ {x u : Nat}, x ∈ s.fo → s.fo.idxOf x < s.fo.idxOf u → x ∈ (if t ∈ s.fo then s.fo else s.fo ++ [t]) ∧ (if t ∈ s.fo then s.fo else s.fo ++ [t]).idxOf x < (if t ∈ s.fo then s.fo else s.fo ++ [t]).idxOf u := fun {x u} h1 h2 => by
          by_cases f : t ∈ s.fo
          · rw [if_pos f]; exact ⟨h1, h2⟩
          · rw [if_neg f]; exact ⟨List.mem_append_left _ h1, idx_snoc h1 h2⟩
        refine ⟨fun x y => ?_, fun x u y hx hu hne h2 => ?_, fun a ha => ⟨(h.own a ha).1, ?_⟩, fun a u ha hu hne h0 hc => ?_, fun x u e => keep (h.edge x u e).1 (h.edge x u e).2⟩
        · show up2 _ _ _ _ x y ≤ 3
          rw [v]
          split
          · omega
          · exact h.le x y
        · change 2 ≤ up2 _ _ _ _ x y at h2
          show up2 _ _ _ _ u y = 0
          rw [v] at h2 ⊢
          by_cases c : x = t ∧ y = o
          · rw [if_pos c] at h2; omega
          · rw [if_neg c] at h2
            split
            · rfl
            · exact h.apart x u y hx hu hne h2
        · show enough (up2 _ _ _ _ a.tx a.it) a.wr ∨ _
          rw [v]
          by_cases c : a.tx = t ∧ a.it = o
          · right
            show a.tx ∈ (if t ∈ s.fo then s.fo else s.fo ++ [t])
            rw [c.1]
            by_cases f : t ∈ s.fo
            · rw [if_pos f]; exact f
            · rw [if_neg f]; simp
          · rw [if_neg c]
            refine (h.own a ha).2.imp id (fun e => ?_)
            show a.tx ∈ (if t ∈ s.fo then s.fo else s.fo ++ [t])
            by_cases f : t ∈ s.fo
            · rw [if_pos f]; exact e
            · rw [if_neg f]; exact List.mem_append_left _ e
        · change up2 _ _ _ _ u a.it ≠ 0 at h0
          change a.wr = 1 ∨ 2 ≤ up2 _ _ _ _ u a.it at hc
          rw [v] at h0 hc
          by_cases c : u = t ∧ a.it = o
          · rw [if_pos c] at h0; exact absurd rfl h0
          · rw [if_neg c] at h0 hc
            have := h.ahead a u ha hu hne h0 hc
            exact keep this.1 this.2
    · rw [if_neg k2]
      by_cases g : s.hd t o = 0 ∨ (s.hd t o = 1 ∧ wr = 1)
      · rw [if_pos g]; exact h
      · rw [if_neg g]
        by_cases l : 24 ≤ s.ac.length
        · rw [if_pos l]; exact h
        · rw [if_neg l]
          have en : enough (s.hd t o) wr := ⟨fun e => g (.inl e), fun w => by
            have h1 : s.hd t o ≠ 0 := fun e => g (.inl e)
            have h2 : s.hd t o ≠ 1 := fun e => g (.inr ⟨e, w⟩)
            omega⟩
          refine ⟨h.le, h.apart, fun a ha => ?_, fun a u ha hu hne h0 hc => ?_, fun x u e => ?_⟩
          · rcases List.mem_append.1 ha with e | e
            · exact h.own a e
            · rw [List.mem_singleton] at e
              subst e
              exact ⟨ht, .inl en⟩
          · rcases List.mem_append.1 ha with e | e
            · exact h.ahead a u e hu hne h0 hc
            · exfalso
              rw [List.mem_singleton] at e
              subst e
              change u ≠ t at hne
              change s.hd u o ≠ 0 at h0
              change wr = 1 ∨ 2 ≤ s.hd u o at hc
              rcases hc with w | w
              · exact h0 (h.apart t u o ht hu (Ne.symm hne) (en.2 w))
              · exact en.1 (h.apart u t o hu ht hne w)
          · rcases edge_snoc e with e | ⟨e1, b, hb, e2, hne, hc⟩
            · exact h.edge x u e
            · obtain ⟨c1, c2⟩ := clash_parts hc
              change b.it = o at c1
              change b.wr = 1 ∨ wr = 1 at c2
              change u = t at e1
              rw [e1, ← e2]
              rw [← e2] at hne
              change b.tx ≠ t at hne
              refine h.ahead b t hb ht (fun e => hne e.symm) (by rw [c1]; exact en.1) ?_
              rw [c1]
              exact c2.imp id en.2
/-- two phases are enough: what was done has no ring -/
theorem two_phases {s : Lk} (h : LI s) {E : List Nat} (hok : Ok E) (hE : ∀ t u, (row E t).testBit u = true → Edge s.ac t u) : ¬ Ring E := fun ⟨i, k⟩ => by
  have key : ∀ j, Clo E i j → s.fo.idxOf i < s.fo.idxOf j := fun j hj =>
    clo_least (fun j => s.fo.idxOf i < s.fo.idxOf j) (fun j e => (h.edge i j (hE i j e)).2) (fun j m h1 e => Nat.lt_trans h1 (h.edge j m (hE j m e)).2) hj
  have := hok i
  exact absurd (key i k) (Nat.lt_irrefl _)
/-! ### who is stuck -/
/-- who is in a ring has one next to it that is -/
theorem ring_next {r : List Nat} (hr : Ok r) {x : Nat} (h : Clo r x x) : ∃ y, (row r x).testBit y = true ∧ Clo r y y := by
  have : ∃ y, (row r x).testBit y = true ∧ (y = x ∨ Clo r y x) :=
    clo_least (fun j => ∃ y, (row r x).testBit y = true ∧ (y = j ∨ Clo r y j)) (fun j e => ⟨j, e, .inl rfl⟩) (fun j k ⟨y, h1, h2⟩ e => by
      refine ⟨y, h1, .inr ?_⟩
      rcases h2 with rfl | h2
      · exact clo_base e
      · exact clo_step hr h2 e) h
  obtain ⟨y, h1, h2⟩ := this
  refine ⟨y, h1, ?_⟩
  rcases h2 with rfl | h2
  · exact h
  · exact clo_step hr h2 h1
/-- rings stay, where what those in rings wait for of each other does -/
theorem ring_stays {r r' : List Nat} (hr : Ok r) (hr' : Ok r') (h : ∀ x y, Clo r x x → Clo r y y → (row r x).testBit y = true → (row r' x).testBit y = true) {x : Nat} (hx : Clo r x x) : Clo r' x x := by
  have key : ∀ j, Clo r x j → Clo r x j ∧ (Clo r j x → Clo r' x j) := fun j hj =>
    clo_least (fun j => Clo r x j ∧ (Clo r j x → Clo r' x j)) (fun j e => ⟨clo_base e, fun k => clo_base (h x j hx (clo_trans hr k (clo_base e)) e)⟩) (fun j k ⟨h1, h2⟩ e => by
      refine ⟨clo_step hr h1 e, fun kx => ?_⟩
      have jx : Clo r j x := clo_trans hr (clo_base e) kx
      have hj : Clo r j j := clo_trans hr jx h1
      have hk : Clo r k k := clo_trans hr kx (clo_step hr h1 e)
      exact clo_step hr' (h2 jx) (h j k hj hk e)) hj
  exact (key x hx).2 hx
end Go.Proofs.YtajiichehffaaaaDoor.M
namespace Go.Proofs.YtajiichehffaaaaDoor.M

section
variable {σ : Type}
/-- a row that goes on from a state -/
def GoG (n : Nat) (can : σ → Nat → Bool) (nx : σ → Nat → σ) : σ → List Nat → Prop
  | _, [] => True
  | s, i :: r => i < n ∧ can s i = true ∧ GoG n can nx (nx s i) r
/-- of k more, the least row that goes on -/
def gb (n : Nat) (can : σ → Nat → Bool) (nx : σ → Nat → σ) : Nat → σ → Option (List Nat)
  | 0, _ => some []
  | k + 1, s => (List.range n).findSome? fun i => if can s i then (gb n can nx k (nx s i)).map (i :: ·) else none
/-- a comes ahead of b, or is it -/
def LxG : List Nat → List Nat → Prop
  | [], _ => True
  | x :: r, y :: s => x < y ∨ (x = y ∧ LxG r s)
  | _ :: _, [] => False
theorem lxG_anti : ∀ {a b : List Nat}, a.length = b.length → LxG a b → LxG b a → a = b
  | [], [], _, _, _ => rfl
  | [], _ :: _, h, _, _ => by cases h
  | _ :: _, [], h, _, _ => by cases h
  | x :: r, y :: s, h, h1, h2 => by
    simp only [LxG] at h1 h2
    have e : x = y := by
      rcases h1 with h1 | h1
      · rcases h2 with h2 | h2 <;> omega
      · exact h1.1
    subst e
    have e1 : LxG r s := by
      rcases h1 with h1 | h1
      · omega
      · exact h1.2
    have e2 : LxG s r := by
      rcases h2 with h2 | h2
      · omega
      · exact h2.2
    rw [lxG_anti (by simpa using h) e1 e2]
variable {n : Nat} {can : σ → Nat → Bool} {nx : σ → Nat → σ}
theorem gb_sound : ∀ {k : Nat} {s : σ} {l : List Nat}, gb n can nx k s = some l → l.length = k ∧ GoG n can nx s l
  | 0, _, l, e => by
    simp only [gb, Option.some.injEq] at e
    subst e
    exact ⟨rfl, trivial⟩
  | k + 1, s, l, e => by
    simp only [gb] at e
    obtain ⟨l1, i, l2, e1, e2, _⟩ := List.findSome?_eq_some_iff.1 e
    have hi : i < n := List.mem_range.1 (by rw [e1]; simp)
    by_cases c : can s i = true
    · rw [if_pos c] at e2
      obtain ⟨r, hr, rfl⟩ := Option.map_eq_some_iff.1 e2
      obtain ⟨a, b⟩ := gb_sound hr
      exact ⟨by rw [List.length_cons, a], hi, c, b⟩
    · rw [if_neg c] at e2; cases e2
theorem gb_all : ∀ {l : List Nat} {s : σ}, GoG n can nx s l → ∃ l', gb n can nx l.length s = some l' ∧ LxG l' l
  | [], _, _ => ⟨[], rfl, trivial⟩
  | i :: r, s, ⟨h1, h2, h3⟩ => by
    obtain ⟨r', e1, e2⟩ := gb_all h3
    have hg : (if can s i then (gb n can nx r.length (nx s i)).map (i :: ·) else none) = some (i :: r') := by
      rw [if_pos h2, e1]; rfl
    cases c : gb n can nx (i :: r).length s with
    | none =>
      exfalso
      have := List.findSome?_eq_none_iff.1 (show (List.range n).findSome? _ = none from c) i (List.mem_range.2 h1)
      rw [hg] at this; cases this
    | some l' =>
      refine ⟨l', rfl, ?_⟩
      obtain ⟨l1, j, l2, f1, f2, f3⟩ := List.findSome?_eq_some_iff.1 (show (List.range n).findSome? _ = some l' from c)
      have hj : i ∉ l1 := fun hi => by
        have := f3 i hi
        rw [hg] at this; cases this
      have hs : (l1 ++ j :: l2).Pairwise (· < ·) := by rw [← f1]; exact List.pairwise_lt_range
      have hm : i ∈ l1 ++ j :: l2 := by rw [← f1]; exact List.mem_range.2 h1
      rw [List.pairwise_append] at hs
      rcases List.mem_append.1 hm with hm | hm
      · exact absurd hm hj
      · rcases List.mem_cons.1 hm with e | e
        · subst e
          rw [hg] at f2
          obtain rfl := Option.some.inj f2
          exact .inr ⟨rfl, e2⟩
        · have hlt := (List.pairwise_cons.1 hs.2.1).1 i e
          by_cases g : can s j = true
          · rw [if_pos g] at f2
            obtain ⟨r2, _, rfl⟩ := Option.map_eq_some_iff.1 f2
            exact .inl hlt
          · rw [if_neg g] at f2; cases f2
theorem gb_none {k : Nat} {s : σ} (e : gb n can nx k s = none) (l : List Nat) (hl : l.length = k) : ¬ GoG n can nx s l := fun g => by
  obtain ⟨l', e1, _⟩ := gb_all g
  rw [hl, e] at e1; cases e1
end
/-! ### rows in which each stands ahead of those in its set -/
/-- none of those in its set is told, nor it -/
def canS (E : List Nat) (told : List Nat) (i : Nat) : Bool := told.all fun k => k != i && !(row E i).testBit k
def SerG (E : List Nat) : List Nat → List Nat → Prop := GoG E.length (canS E) fun told i => told ++ [i]
/-- a row of all -/
structure SerR (E : List Nat) (l : List Nat) : Prop where
  nd : l.Nodup
  mem : ∀ x, x ∈ l ↔ x < E.length
  ord : ∀ t u, t < E.length → u < E.length → (row E t).testBit u = true → l.idxOf t < l.idxOf u
theorem canS_iff {E told : List Nat} {i : Nat} : canS E told i = true ↔ i ∉ told ∧ ∀ k, k ∈ told → (row E i).testBit k = false := by
  unfold canS
  rw [List.all_eq_true]
  constructor
  · intro h
    refine ⟨fun hi => ?_, fun k hk => ?_⟩
    · have := h i hi; simp at this
    · have := h k hk
      rw [Bool.and_eq_true] at this
      simpa using this.2
  · rintro ⟨h1, h2⟩ k hk
    rw [Bool.and_eq_true]
    refine ⟨?_, by rw [h2 k hk]; rfl⟩
    have : k ≠ i := fun e => h1 (e ▸ hk)
    simpa using this
theorem serG_iff {E : List Nat} : ∀ {l told : List Nat}, SerG E told l ↔ (∀ i, i ∈ l → i < E.length ∧ i ∉ told) ∧ l.Nodup ∧ (∀ i, i ∈ l → ∀ k, k ∈ told → (row E i).testBit k = false) ∧ l.Pairwise fun a b => (row E b).testBit a = false
  | [], told => by
    refine ⟨fun _ => ⟨fun i hi => absurd hi (List.not_mem_nil), List.nodup_nil, fun i hi => absurd hi (List.not_mem_nil), List.Pairwise.nil⟩, fun _ => trivial⟩
  | i :: r, told => by
    show (i < E.length ∧ canS E told i = true ∧ SerG E (told ++ [i]) r) ↔ _
    rw [serG_iff (l := r), canS_iff, List.nodup_cons, List.pairwise_cons]
    constructor
    · rintro ⟨h1, ⟨h2, h3⟩, h4, h5, h6, h7⟩
      refine ⟨fun j hj => ?_, ⟨fun hi => (h4 i hi).2 (by simp), h5⟩, fun j hj k hk => ?_, fun b hb => h6 b hb i (by simp), h7⟩
      · rcases List.mem_cons.1 hj with e | e
        · subst e; exact ⟨h1, h2⟩
        · exact ⟨(h4 j e).1, fun c => (h4 j e).2 (by simp [c])⟩
      · rcases List.mem_cons.1 hj with e | e
        · subst e; exact h3 k hk
        · exact h6 j e k (by simp [hk])
    · rintro ⟨h1, ⟨h2, h3⟩, h4, h5, h6⟩
      refine ⟨(h1 i List.mem_cons_self).1, ⟨(h1 i List.mem_cons_self).2, h4 i List.mem_cons_self⟩, fun j hj => ⟨(h1 j (List.mem_cons_of_mem _ hj)).1, fun c => ?_⟩, h3, fun j hj k hk => ?_, h6⟩
      · rcases List.mem_append.1 c with c | c
        · exact (h1 j (List.mem_cons_of_mem _ hj)).2 c
        · rw [List.mem_singleton] at c; exact h2 (c ▸ hj)
      · rcases List.mem_append.1 hk with c | c
        · exact h4 j (List.mem_cons_of_mem _ hj) k c
        · rw [List.mem_singleton] at c; subst c; exact h5 j hj
theorem nd_perm {n : Nat} {l : List Nat} (hn : l.Nodup) (hi : ∀ i, i ∈ l → i < n) (hl : l.length = n) : ∀ j, j ∈ l ↔ j < n := fun j => by
  refine ⟨hi j, fun hj => ?_⟩
  apply Classical.byContradiction
  intro hx
  have h1 : (j :: l).Nodup := List.nodup_cons.2 ⟨hx, hn⟩
  have h2 := h1.length_le_of_subset (l₂ := List.range n) (fun x hx => by
    rcases List.mem_cons.1 hx with e | e
    · subst e; exact List.mem_range.2 hj
    · exact List.mem_range.2 (hi x e))
  rw [List.length_cons, List.length_range] at h2
  omega
theorem idx_lt_iff {l : List Nat} (hn : l.Nodup) {i j : Nat} (hi : i < l.length) (hj : j < l.length) : l.idxOf l[i] < l.idxOf l[j] ↔ i < j := by rw [hn.idxOf_getElem, hn.idxOf_getElem]
/-- what goes on from nothing and has all is a row of all -/
theorem serR_iff {E l : List Nat} (hE : ∀ t, (row E t).testBit t = false) : (l.length = E.length ∧ SerG E [] l) ↔ SerR E l := by
  constructor
  · rintro ⟨h1, h2⟩
    obtain ⟨a, b, _, d⟩ := serG_iff.1 h2
    have hm := nd_perm b (fun i hi => (a i hi).1) h1
    refine ⟨b, hm, fun t u ht hu e => ?_⟩
    obtain ⟨i, hi, rfl⟩ := List.getElem_of_mem ((hm t).2 ht)
    obtain ⟨j, hj, rfl⟩ := List.getElem_of_mem ((hm u).2 hu)
    rw [idx_lt_iff b hi hj]
    rcases Nat.lt_trichotomy i j with k | k | k
    · exact k
    · subst k
      rw [hE] at e; cases e
    · have := List.pairwise_iff_getElem.1 d j i hj hi k
      rw [e] at this; cases this
  · intro h
    have hl : l.length = E.length := by
      have : l.Perm (List.range E.length) := (List.perm_ext_iff_of_nodup h.nd List.nodup_range).2 (fun x => by rw [h.mem, List.mem_range])
      rw [this.length_eq, List.length_range]
    refine ⟨hl, serG_iff.2 ⟨fun i hi => ⟨(h.mem i).1 hi, List.not_mem_nil⟩, h.nd, fun _ _ k hk => absurd hk (List.not_mem_nil), ?_⟩⟩
    rw [List.pairwise_iff_getElem]
    intro i j hi hj hij
    cases e : (row E l[j]).testBit l[i] with
    | false => rfl
    | true =>
      have := h.ord _ _ ((h.mem _).1 (List.getElem_mem hj)) ((h.mem _).1 (List.getElem_mem hi)) e
      rw [idx_lt_iff h.nd hj hi] at this
      omega
/-- then nothing stands behind itself -/
theorem serR_ring {E l : List Nat} (hok : Ok E) (h : SerR E l) : ¬ Ring E := fun ⟨i, k⟩ => by
  have hi := clo_in k
  have key : ∀ j, Clo E i j → j < E.length ∧ l.idxOf i < l.idxOf j := fun j hj =>
    clo_least (fun j => j < E.length ∧ l.idxOf i < l.idxOf j) (fun j e => by
      have hj := clo_to hok (clo_base e)
      exact ⟨hj, h.ord i j hi hj e⟩) (fun j m h1 e => by
      have hm := clo_to hok (clo_base e)
      have := h.ord j m h1.1 hm e
      exact ⟨hm, by omega⟩) hj
  exact absurd (key i k).2 (Nat.lt_irrefl _)
/-- and if nothing does there is a row -/
theorem serR_ex {E : List Nat} (hok : Ok E) (hr : ¬ Ring E) : ∃ l, SerR E l := by
  have hd : Dual (clo E) (turned E) := ⟨by rw [clo_length, turned_length], fun i j => by rw [Bool.eq_iff_iff, turned_bit hok, clo_bit]⟩
  have htr : Tr (clo E) := by
    refine ⟨fun i => ?_, fun i j k h1 h2 => ?_⟩
    · cases hb : (row (clo E) i).testBit i with
      | false => rfl
      | true => exact absurd ⟨i, (clo_bit E i i).1 hb⟩ hr
    · exact (clo_bit E i k).2 (clo_trans hok ((clo_bit E i j).1 h1) ((clo_bit E j k).1 h2))
  have hlin := (goes_lin hd htr (firstL (turned E) (cb (clo E).length (left 0)) 0) 0).2 (first_goes hd htr _ 0 rfl)
  refine ⟨_, hlin.nd, fun x => ?_, fun t u ht hu e => ?_⟩
  · rw [hlin.mem, clo_length]
    exact ⟨fun k => k.1, fun k => ⟨k, by simp [left]⟩⟩
  · refine hlin.ord t u ((hlin.mem t).2 ⟨by rw [clo_length]; exact ht, by simp [left]⟩) ((hlin.mem u).2 ⟨by rw [clo_length]; exact hu, by simp [left]⟩) ?_
    exact (clo_bit E t u).2 (clo_base e)
/-- trying finds a row just if nothing stands behind itself, and none ahead of what it finds is one -/
theorem serial_iff {E : List Nat} (hok : Ok E) (hE : ∀ t, (row E t).testBit t = false) : (∃ l, gb E.length (canS E) (fun told i => told ++ [i]) E.length [] = some l) ↔ ¬ Ring E := by
  constructor
  · rintro ⟨l, e⟩
    exact serR_ring hok ((serR_iff hE).1 (gb_sound e))
  · intro h
    obtain ⟨l, hl⟩ := serR_ex hok h
    obtain ⟨h1, h2⟩ := (serR_iff hE).2 hl
    obtain ⟨l', e, _⟩ := gb_all h2
    rw [h1] at e
    exact ⟨l', e⟩
theorem serial_row {E l : List Nat} (hE : ∀ t, (row E t).testBit t = false) (e : gb E.length (canS E) (fun told i => told ++ [i]) E.length [] = some l) : SerR E l ∧ ∀ l', SerR E l' → LxG l l' := by
  refine ⟨(serR_iff hE).1 (gb_sound e), fun l' hl => ?_⟩
  obtain ⟨h1, h2⟩ := (serR_iff hE).2 hl
  obtain ⟨l2, e2, e3⟩ := gb_all h2
  rw [h1] at e2
  have : some l = some l2 := e.symm.trans e2
  rw [Option.some.inj this]
  exact e3
end Go.Proofs.YtajiichehffaaaaDoor.M
namespace Go.Proofs.YtajiichehffaaaaDoor.M

/-- who is in a ring has one ahead of it that is -/
theorem ring_prev {r : List Nat} (hr : Ok r) {x : Nat} (h : Clo r x x) : ∃ y, (row r y).testBit x = true ∧ Clo r y y := by
  have : ∃ y, (row r y).testBit x = true ∧ (y = x ∨ Clo r x y) :=
    clo_least (fun j => ∃ y, (row r y).testBit j = true ∧ (y = x ∨ Clo r x y)) (fun j e => ⟨x, e, .inl rfl⟩) (fun j k ⟨y, h1, h2⟩ e => by
      refine ⟨j, e, .inr ?_⟩
      rcases h2 with rfl | h2
      · exact clo_base h1
      · exact clo_step hr h2 h1) h
  obtain ⟨y, h1, h2⟩ := this
  refine ⟨y, h1, ?_⟩
  rcases h2 with rfl | h2
  · exact h
  · exact clo_trans hr (clo_base h1) h2
/-- of those that do there is one with the least number -/
theorem least_of {P : Nat → Prop} (C : Nat → Nat) : ∀ (k : Nat) {x : Nat}, P x → C x ≤ k → ∃ y, P y ∧ ∀ z, P z → C y ≤ C z
  | 0, x, hx, hk => ⟨x, hx, fun z _ => by omega⟩
  | k + 1, x, hx, hk => by
    by_cases h : ∃ z, P z ∧ C z ≤ k
    · obtain ⟨z, hz, hzk⟩ := h
      exact least_of C k hz hzk
    · refine ⟨x, hx, fun z hz => ?_⟩
      rcases Nat.lt_or_ge k (C z) with c | c
      · omega
      · exact absurd ⟨z, hz, c⟩ h
/-- FEKETE AND OTHERS: where each edge goes to one that began behind its end, or to one that read was written over by, and no two of the latter kind follow each other, there is no ring -/
theorem no_danger {E : List Nat} {O : Nat → Nat → Prop} {B C : Nat → Nat} (hok : Ok E) (he : ∀ a b, (row E a).testBit b = true → C a < B b ∨ (O a b ∧ B a < C b)) (hb : ∀ a b, (row E a).testBit b = true → B a < C a ∧ B b < C b) (hno : ∀ a b c, O a b → O b c → False) : ¬ Ring E := fun ⟨i, hi⟩ => by
  obtain ⟨x, hx, hmin⟩ := least_of (P := fun x => Clo E x x) C (C i) hi (Nat.le_refl _)
  obtain ⟨y, y1, y2⟩ := ring_prev hok hx
  obtain ⟨z, z1, z2⟩ := ring_prev hok y2
  have h1 := hmin y y2
  have h2 := hmin z z2
  have b1 := hb y x y1
  rcases he y x y1 with a | ⟨a, a2⟩
  · omega
  · rcases he z y z1 with c | ⟨c, _⟩
    · omega
    · exact hno z y x c a
/-- In a row of all in which each stands ahead of those in its set: of the writers of an item those that ended ahead of a reader's begin stand ahead of it, and the others behind; of two writers the one that ended first stands ahead. So the last one ahead of it is the last one that ended ahead of its begin. -/
theorem view_row {l : List Nat} {W : Nat → Prop} {t : Nat} {C : Nat → Nat} {bt : Nat} (h1 : ∀ a, W a → a ≠ t → C a < bt → l.idxOf a < l.idxOf t) (h2 : ∀ a, W a → a ≠ t → bt < C a → l.idxOf t < l.idxOf a) (h3 : ∀ a b, W a → W b → C a < C b → l.idxOf a < l.idxOf b) (hne : ∀ a, W a → C a ≠ bt) {n : Nat} (hn : W n ∧ n ≠ t ∧ C n < bt) (hl : ∀ a, W a → a ≠ t → C a < bt → C a ≤ C n) (hinj : ∀ a b, W a → W b → C a = C b → a = b) : l.idxOf n < l.idxOf t ∧ ∀ a, W a → a ≠ t → l.idxOf a < l.idxOf t → l.idxOf a ≤ l.idxOf n := by
  refine ⟨h1 n hn.1 hn.2.1 hn.2.2, fun a ha hat hlt => ?_⟩
  rcases Nat.lt_trichotomy (C a) bt with c | c | c
  · have := hl a ha hat c
    by_cases e : C a = C n
    · rw [hinj a n ha hn.1 e]; exact Nat.le_refl _
    · exact Nat.le_of_lt (h3 a n ha hn.1 (by omega))
  · exact absurd c (hne a ha)
  · have := h2 a ha hat c; omega
theorem view_none {l : List Nat} {W : Nat → Prop} {t : Nat} {C : Nat → Nat} {bt : Nat} (h2 : ∀ a, W a → a ≠ t → bt < C a → l.idxOf t < l.idxOf a) (hl : ∀ a, W a → a ≠ t → bt < C a) : ∀ a, W a → a ≠ t → ¬ l.idxOf a < l.idxOf t := fun a ha hat hlt => by
  have := h2 a ha hat (hl a ha hat)
  omega
/-- edges from each writer to the next one go over all of them -/
theorem chain_all {R : Nat → Nat → Prop} (tr : ∀ a b c, R a b → R b c → R a c) {W : Nat → Prop} {C : Nat → Nat} (hinj : ∀ a b, W a → W b → C a = C b → a = b) (next : ∀ a b, W a → W b → C a < C b → (∀ c, W c → C c < C b → C c ≤ C a) → R a b) : ∀ (k : Nat) {a b : Nat}, W a → W b → C a < C b → C b - C a ≤ k → R a b
  | 0, _, _, _, _, h, hk => by omega
  | k + 1, a, b, ha, hb, h, hk => by
    by_cases c : ∀ d, W d → C d < C b → C d ≤ C a
    · exact next a b ha hb h c
    · obtain ⟨d, hd⟩ := Classical.not_forall.1 c
      obtain ⟨wd, hd⟩ := Classical.not_imp.1 hd
      obtain ⟨db, hd⟩ := Classical.not_imp.1 hd
      have ad : C a < C d := by omega
      exact tr a d b (chain_all tr hinj next k ha wd ad (by omega)) (chain_all tr hinj next k wd hb db (by omega))
end Go.Proofs.YtajiichehffaaaaDoor.M
namespace Go.Proofs.YtajiichehffaaaaDoor.M

/-- must the transactions of two acts stand as these do? -/
def msB (a b : SAct) : Bool := a.tx != b.tx && clash a b
/-- acts in range -/
structure AOk (s : List SAct) : Prop where
  len : s.length ≤ 24
  tx : ∀ j, (sat s j).tx < 5
  it : ∀ j, (sat s j).it < 4
  wr : ∀ j, (sat s j).wr < 2
def eBit (s : List SAct) (t u : Nat) : Bool := t != u && (List.range s.length).any fun j => (List.range j).any fun i => (sat s i).tx == t && (sat s j).tx == u && clash (sat s i) (sat s j)
theorem eBit_iff {s : List SAct} {t u : Nat} : eBit s t u = true ↔ Edge s t u := by
  unfold eBit Edge
  simp only [Bool.and_eq_true, bne_iff_ne, List.any_eq_true, List.mem_range, beq_iff_eq]
  constructor
  · rintro ⟨h, j, hj, i, hi, ⟨h1, h2⟩, h3⟩
    exact ⟨h, i, j, hi, hj, h1, h2, h3⟩
  · rintro ⟨h, i, j, hi, hj, h1, h2, h3⟩
    exact ⟨h, j, hj, i, hi, ⟨h1, h2⟩, h3⟩
/-- the edges as rows of bits -/
def edR (s : List SAct) : List Nat := (List.range 5).map fun t => cnt01 5 (eBit s t)
theorem edR_len (s : List SAct) : (edR s).length = 5 := by simp [edR]
theorem edR_bit (s : List SAct) (t u : Nat) : (row (edR s) t).testBit u = true ↔ t < 5 ∧ u < 5 ∧ Edge s t u := by
  by_cases ht : t < 5
  · have e : row (edR s) t = cnt01 5 (eBit s t) := by simp [row, edR, ht]
    rw [e, cnt01_bit, Bool.and_eq_true, decide_eq_true_eq, eBit_iff]
    exact ⟨fun h => ⟨ht, h⟩, fun h => h.2⟩
  · rw [row_out _ _ (by rw [edR_len]; omega)]
    simp [ht]
theorem edR_ok (s : List SAct) : Ok (edR s) := fun t => by
  rw [edR_len]
  exact Nat.lt_pow_two_of_testBit _ (fun u hu => by
    cases h : (row (edR s) t).testBit u with
    | false => rfl
    | true => have := ((edR_bit s t u).1 h).2.1; omega)
theorem edR_self (s : List SAct) (t : Nat) : (row (edR s) t).testBit t = false := by
  cases h : (row (edR s) t).testBit t with
  | false => rfl
  | true => exact absurd rfl ((edR_bit s t t).1 h).2.2.1
theorem edge_in {s : List SAct} (hs : AOk s) {t u : Nat} (h : Edge s t u) : t < 5 ∧ u < 5 := by
  obtain ⟨_, i, j, _, _, h1, h2, _⟩ := h
  exact ⟨h1 ▸ hs.tx i, h2 ▸ hs.tx j⟩
theorem edR_congr {s t : List SAct} (h : ∀ a b, Edge s a b ↔ Edge t a b) : edR s = edR t := by
  apply ext_rows (by rw [edR_len, edR_len])
  intro i _ j
  rw [Bool.eq_iff_iff, edR_bit, edR_bit, h]
/-! ### pair by pair -/
structure ER (s : List SAct) (Q : Nat → Nat → Prop) (R : List Nat) : Prop where
  len : R.length = 5
  bit : ∀ t u, (row R t).testBit u = true ↔ t ≠ u ∧ ∃ a b, Q a b ∧ a < b ∧ b < s.length ∧ (sat s a).tx = t ∧ (sat s b).tx = u ∧ clash (sat s a) (sat s b) = true
theorem row_zeros (t : Nat) : row (List.replicate 5 0) t = 0 := by
  unfold row
  rw [List.getElem?_replicate]
  split <;> rfl
theorem ER.zero {s : List SAct} {Q : Nat → Nat → Prop} (h : ∀ a b, a < b → ¬ Q a b) : ER s Q (List.replicate 5 0) :=
  ⟨rfl, fun t u => by
    rw [row_zeros, Nat.zero_testBit]
    constructor
    · intro e; cases e
    · rintro ⟨_, a, b, q, hab, _⟩; exact absurd q (h a b hab)⟩
theorem ER.lt {s : List SAct} {Q : Nat → Nat → Prop} {R : List Nat} (h : ER s Q R) (hs : AOk s) (t : Nat) : row R t < 32 :=
  Nat.lt_pow_two_of_testBit (n := 5) _ (fun u hu => by
    cases e : (row R t).testBit u with
    | false => rfl
    | true =>
      obtain ⟨_, a, b, _, _, _, _, h2, _⟩ := (h.bit t u).1 e
      have := hs.tx b
      omega)
theorem ER.hit {s : List SAct} {Q Q' : Nat → Nat → Prop} {R : List Nat} (h : ER s Q R) (hs : AOk s) {a b : Nat} (hab : a < b) (hb : b < s.length) (hm : msB (sat s a) (sat s b) = true) (hQ : ∀ x y, x < y → (Q' x y ↔ Q x y ∨ (x = a ∧ y = b))) : ER s Q' (more R (sat s a).tx (sat s b).tx) := by
  have ha5 : (sat s a).tx < R.length := by rw [h.len]; exact hs.tx a
  unfold msB at hm
  rw [Bool.and_eq_true, bne_iff_ne] at hm
  refine ⟨by rw [more_length, h.len], fun t u => ?_⟩
  rw [more_bit ha5, h.bit]
  constructor
  · rintro (⟨h1, x, y, h2, h3, h4, h5, h6, h7⟩ | ⟨rfl, rfl⟩)
    · exact ⟨h1, x, y, (hQ x y h3).2 (.inl h2), h3, h4, h5, h6, h7⟩
    · exact ⟨hm.1, a, b, (hQ a b hab).2 (.inr ⟨rfl, rfl⟩), hab, hb, rfl, rfl, hm.2⟩
  · rintro ⟨h1, x, y, h2, h3, h4, h5, h6, h7⟩
    rcases (hQ x y h3).1 h2 with q | ⟨rfl, rfl⟩
    · exact .inl ⟨h1, x, y, q, h3, h4, h5, h6, h7⟩
    · exact .inr ⟨h5.symm, h6.symm⟩
theorem ER.miss {s : List SAct} {Q Q' : Nat → Nat → Prop} {R : List Nat} (h : ER s Q R) {a b : Nat} (hm : msB (sat s a) (sat s b) = false) (hQ : ∀ x y, x < y → (Q' x y ↔ Q x y ∨ (x = a ∧ y = b))) : ER s Q' R := by
  refine ⟨h.len, fun t u => ?_⟩
  rw [h.bit]
  constructor
  · rintro ⟨h1, x, y, h2, h3, h4, h5, h6, h7⟩
    exact ⟨h1, x, y, (hQ x y h3).2 (.inl h2), h3, h4, h5, h6, h7⟩
  · rintro ⟨h1, x, y, h2, h3, h4, h5, h6, h7⟩
    rcases (hQ x y h3).1 h2 with q | ⟨rfl, rfl⟩
    · exact ⟨h1, x, y, q, h3, h4, h5, h6, h7⟩
    · exfalso
      have : msB (sat s x) (sat s y) = true := by
        unfold msB
        rw [Bool.and_eq_true, bne_iff_ne]
        exact ⟨by rw [h5, h6]; exact h1, h7⟩
      rw [hm] at this; cases this
theorem ER.congr {s : List SAct} {Q Q' : Nat → Nat → Prop} {R : List Nat} (h : ER s Q R) (hQ : ∀ x y, x < y → y < s.length → (Q' x y ↔ Q x y)) : ER s Q' R := by
  refine ⟨h.len, fun t u => ?_⟩
  rw [h.bit]
  constructor
  · rintro ⟨h1, x, y, h2, h3, h4, h5⟩
    exact ⟨h1, x, y, (hQ x y h3 h4).2 h2, h3, h4, h5⟩
  · rintro ⟨h1, x, y, h2, h3, h4, h5⟩
    exact ⟨h1, x, y, (hQ x y h3 h4).1 h2, h3, h4, h5⟩
theorem ER.all {s : List SAct} {Q : Nat → Nat → Prop} {R : List Nat} (h : ER s Q R) (hs : AOk s) (hQ : ∀ x y, x < y → y < s.length → Q x y) : R = edR s := by
  apply ext_rows (by rw [h.len, edR_len])
  intro i _ j
  rw [Bool.eq_iff_iff, edR_bit, h.bit]
  constructor
  · rintro ⟨h1, x, y, h2, h3, h4, h5, h6, h7⟩
    exact ⟨h5 ▸ hs.tx x, h6 ▸ hs.tx y, h1, x, y, h3, h4, h5, h6, h7⟩
  · rintro ⟨_, _, h1, x, y, h3, h4, h5, h6, h7⟩
    exact ⟨h1, x, y, hQ x y h3 h4, h3, h4, h5, h6, h7⟩
/-! ### the first row is the least by trying -/
theorem lexLe_lxG : ∀ {a b : List Nat}, LexLe a b → LxG a b
  | [], [], _ => trivial
  | x :: r, y :: s, h => by
    simp only [LexLe] at h
    simp only [LxG]
    rcases h with h | h
    · exact .inl h
    · exact .inr ⟨h.1, lexLe_lxG h.2⟩
theorem first_serR {E : List Nat} (hok : Ok E) (hr : ¬ Ring E) : SerR E (firstR (turned E)) ∧ ∀ l, SerR E l → LxG (firstR (turned E)) l := by
  have hd : Dual (clo E) (turned E) := ⟨by rw [clo_length, turned_length], fun i j => by rw [Bool.eq_iff_iff, turned_bit hok, clo_bit]⟩
  have htr : Tr (clo E) := by
    refine ⟨fun i => ?_, fun i j k h1 h2 => ?_⟩
    · cases hb : (row (clo E) i).testBit i with
      | false => rfl
      | true => exact absurd ⟨i, (clo_bit E i i).1 hb⟩ hr
    · exact (clo_bit E i k).2 (clo_trans hok ((clo_bit E i j).1 h1) ((clo_bit E j k).1 h2))
  have hcb : cb (clo E).length (left 0) = (turned E).length := by
    have := stood_left hd htr 0 (Nat.zero_le _)
    have e : stoodN (turned E) 0 = 0 := rfl
    rw [e, Nat.sub_zero] at this
    rw [this, hd.1]
  have hfl : firstR (turned E) = firstL (turned E) (cb (clo E).length (left 0)) 0 := by rw [firstR_eq, hcb]
  have hlin := (goes_lin hd htr (firstL (turned E) (cb (clo E).length (left 0)) 0) 0).2 (first_goes hd htr _ 0 rfl)
  rw [← hfl] at hlin
  refine ⟨⟨hlin.nd, fun x => ?_, fun t u ht hu e => ?_⟩, fun l hl => ?_⟩
  · rw [hlin.mem, clo_length]
    exact ⟨fun k => k.1, fun k => ⟨k, by simp [left]⟩⟩
  · refine hlin.ord t u ((hlin.mem t).2 ⟨by rw [clo_length]; exact ht, by simp [left]⟩) ((hlin.mem u).2 ⟨by rw [clo_length]; exact hu, by simp [left]⟩) ?_
    exact (clo_bit E t u).2 (clo_base e)
  · have key : ∀ i j, Clo E i j → l.idxOf i < l.idxOf j := fun i j hj => by
      have hi := clo_in hj
      exact (clo_least (fun j => j < E.length ∧ l.idxOf i < l.idxOf j) (fun j e => by
        have hj := clo_to hok (clo_base e)
        exact ⟨hj, hl.ord i j hi hj e⟩) (fun j m h1 e => by
        have hm := clo_to hok (clo_base e)
        have := hl.ord j m h1.1 hm e
        exact ⟨hm, by omega⟩) hj).2
    have hL : Lin (clo E).length (lt (clo E)) (left 0) l := by
      refine ⟨hl.nd, fun x => ?_, fun t u _ _ e => ?_⟩
      · rw [hl.mem, clo_length]
        exact ⟨fun k => ⟨k, by simp [left]⟩, fun k => k.1⟩
      · exact key t u ((clo_bit E t u).1 e)
    obtain ⟨h1, h2⟩ := (goes_lin hd htr l 0).1 hL
    rw [hfl]
    exact lexLe_lxG (first_least hd htr _ 0 l rfl h1 h2)
theorem first_gb {E : List Nat} (hok : Ok E) (hE : ∀ t, (row E t).testBit t = false) (hr : ¬ Ring E) : gb E.length (canS E) (fun told i => told ++ [i]) E.length [] = some (firstR (turned E)) := by
  obtain ⟨l, e⟩ := (serial_iff hok hE).2 hr
  obtain ⟨h1, h2⟩ := serial_row hE e
  obtain ⟨h3, h4⟩ := first_serR hok hr
  rw [e]
  have hlen : l.length = (firstR (turned E)).length := by
    rw [firstR_length, turned_length]
    exact (gb_sound e).1
  rw [lxG_anti hlen (h2 _ h3) (h4 _ h1)]
theorem gb_ring {E : List Nat} (hok : Ok E) (hE : ∀ t, (row E t).testBit t = false) (hr : Ring E) : gb E.length (canS E) (fun told i => told ++ [i]) E.length [] = none := by
  cases e : gb E.length (canS E) (fun told i => told ++ [i]) E.length [] with
  | none => rfl
  | some l => exact absurd hr ((serial_iff hok hE).1 ⟨l, e⟩)
/-- the row of a serial schedule keeps all that clash -/
theorem first_keeps {s : List SAct} (hs : AOk s) (hr : ¬ Ring (edR s)) : Keeps s (ordd s (firstR (turned (edR s)))) := by
  obtain ⟨h1, _⟩ := first_serR (edR_ok s) hr
  refine ordd_keeps h1.nd (fun i _ => (h1.mem _).2 (by rw [edR_len]; exact hs.tx i)) (fun t u h => ?_)
  obtain ⟨a, b⟩ := edge_in hs h
  exact h1.ord t u (by rw [edR_len]; exact a) (by rw [edR_len]; exact b) ((edR_bit s t u).2 ⟨a, b, h⟩)
/-- done one behind the other it is serial -/
theorem ordd_serial {s : List SAct} {r : List Nat} (hn : r.Nodup) : ¬ Ring (edR (inRow s (ordd s r))) := fun ⟨i, k⟩ => by
  have key := clo_least (fun j => r.idxOf i < r.idxOf j) (fun j e => ordd_edges hn ((edR_bit _ _ _).1 e).2.2) (fun j m h1 e => by
    have := ordd_edges hn ((edR_bit _ _ _).1 e).2.2
    omega) k
  omega
end Go.Proofs.YtajiichehffaaaaDoor.M
