/- Plain mathematics: a word is an order of its places: any row of them spells the same word; each letter's step is its place's rank. No program text is named. -/
import Derived.Test.YtejnjokjkinpkaaDoorWst
import Derived.Test.YtejnjokjkinpkaaDoorExt
namespace Go.Proofs.YtejnjokjkinpkaaDoor.M

theorem sorted_ext : ∀ {l1 l2 : List Nat}, l1.Pairwise (· < ·) → l2.Pairwise (· < ·) → (∀ x, x ∈ l1 ↔ x ∈ l2) → l1 = l2
  | [], [], _, _, _ => rfl
  | [], b :: _, _, _, h => absurd ((h b).2 List.mem_cons_self) (List.not_mem_nil)
  | a :: _, [], _, _, h => absurd ((h a).1 List.mem_cons_self) (List.not_mem_nil)
  | a :: r, b :: s, h1, h2, h => by
    rw [List.pairwise_cons] at h1 h2
    have hab : a = b := by
      rcases List.mem_cons.1 ((h a).1 List.mem_cons_self) with e | e
      · exact e
      · rcases List.mem_cons.1 ((h b).2 List.mem_cons_self) with e2 | e2
        · exact e2.symm
        · have := h1.1 b e2; have := h2.1 a e; omega
    subst hab
    congr 1
    refine sorted_ext h1.2 h2.2 (fun x => ⟨fun hx => ?_, fun hx => ?_⟩)
    · rcases List.mem_cons.1 ((h x).1 (List.mem_cons_of_mem _ hx)) with e | e
      · subst e; have := h1.1 x hx; omega
      · exact e
    · rcases List.mem_cons.1 ((h x).2 (List.mem_cons_of_mem _ hx)) with e | e
      · subst e; have := h2.1 x hx; omega
      · exact e
theorem word_rows (w : List Nat) : (List.range w.length).map (row w) = w := by
  apply List.ext_getElem
  · simp
  · intro i h1 h2
    simp [row, h2]
/-- any row of the places in which what must stay behind does spells the same word -/
theorem eqv_row {f : Nat → Nat → Bool} (hf : Fr f) {w l : List Nat} (hn : l.Nodup) (hm : ∀ x, x ∈ l ↔ x < w.length) (ho : ∀ x y, x ∈ l → y ∈ l → x < y → f (row w x) (row w y) = false → l.idxOf x < l.idxOf y) : Eqv f (l.map (row w)) w := fun a b e => by
  have hp : l.Pairwise fun x y => l.idxOf x < l.idxOf y := by
    rw [List.pairwise_iff_getElem]
    intro i j hi hj hij
    rw [hn.idxOf_getElem, hn.idxOf_getElem]
    exact hij
  have e1 : ∀ m : List Nat, only a b (m.map (row w)) = (m.filter fun x => row w x == a || row w x == b).map (row w) := fun m => by
    unfold only
    rw [List.filter_map]
    rfl
  have dep : ∀ x y, (row w x == a || row w x == b) = true → (row w y == a || row w y == b) = true → f (row w x) (row w y) = false := fun x y hx hy => by
    rw [Bool.or_eq_true, beq_iff_eq, beq_iff_eq] at hx hy
    rcases hx with hx | hx
    · rcases hy with hy | hy
      · rw [hx, hy]; exact hf.self a
      · rw [hx, hy]; exact e
    · rcases hy with hy | hy
      · rw [hx, hy, hf.sym]; exact e
      · rw [hx, hy]; exact hf.self b
  have hs : (l.filter fun x => row w x == a || row w x == b).Pairwise (· < ·) := by
    refine List.Pairwise.imp_of_mem ?_ (hp.filter _)
    intro x y hx hy hxy
    obtain ⟨hx1, hx2⟩ := List.mem_filter.1 hx
    obtain ⟨hy1, hy2⟩ := List.mem_filter.1 hy
    rcases Nat.lt_trichotomy x y with h | h | h
    · exact h
    · subst h; omega
    · have := ho y x hy1 hx1 h (dep y x hy2 hx2); omega
  have e2 : (l.filter fun x => row w x == a || row w x == b) = (List.range w.length).filter fun x => row w x == a || row w x == b := by
    refine sorted_ext hs (List.pairwise_lt_range.filter _) (fun x => ?_)
    rw [List.mem_filter, List.mem_filter, hm, List.mem_range]
  rw [e1, e2, ← e1, word_rows]
/-! ### what must stay behind -/
def ahB (f : Nat → Nat → Bool) (w : List Nat) (i j : Nat) : Bool := decide (i < j) && !f (row w i) (row w j)
/-- of each place those behind it that must stay so -/
def ahR (f : Nat → Nat → Bool) (w : List Nat) : List Nat := (List.range w.length).map fun i => cnt01 w.length (ahB f w i)
theorem ahR_length (f : Nat → Nat → Bool) (w : List Nat) : (ahR f w).length = w.length := by simp [ahR]
theorem ahR_bit {f : Nat → Nat → Bool} {w : List Nat} {i j : Nat} : (row (ahR f w) i).testBit j = true ↔ i < j ∧ j < w.length ∧ f (row w i) (row w j) = false := by
  by_cases hi : i < w.length
  · have e : row (ahR f w) i = cnt01 w.length (ahB f w i) := by unfold ahR; simp [row, hi]
    rw [e, cnt01_bit]
    unfold ahB
    simp
    constructor
    · rintro ⟨a, b, c⟩; exact ⟨b, a, c⟩
    · rintro ⟨a, b, c⟩; exact ⟨b, a, c⟩
  · rw [row_out _ _ (by rw [ahR_length]; omega)]
    simp
    intro a b
    omega
theorem ahR_ok (f : Nat → Nat → Bool) (w : List Nat) : Ok (ahR f w) := fun i => by
  rw [ahR_length]
  apply Nat.lt_pow_two_of_testBit
  intro j hj
  cases h : (row (ahR f w) i).testBit j with
  | false => rfl
  | true => have := (ahR_bit.1 h).2.1; omega
theorem ahR_clo {f : Nat → Nat → Bool} {w : List Nat} {i j : Nat} (h : Clo (ahR f w) i j) : i < j ∧ j < w.length :=
  clo_least (fun j => i < j ∧ j < w.length) (fun j h => ⟨(ahR_bit.1 h).1, (ahR_bit.1 h).2.1⟩) (fun j k hj h => ⟨by have := (ahR_bit.1 h).1; omega, (ahR_bit.1 h).2.1⟩) h
theorem ahR_ring (f : Nat → Nat → Bool) (w : List Nat) : ¬ Ring (ahR f w) := fun ⟨_, h⟩ => absurd (ahR_clo h).1 (Nat.lt_irrefl _)
/-- numbers that rise, each but 0 by one over one ahead, are told by that -/
theorem rise_uniq {n : Nat} {A : Nat → Nat → Prop} {g h : Nat → Nat} (hA : ∀ i j, A i j → i < j) (g1 : ∀ i j, j < n → A i j → g i < g j) (g2 : ∀ j, j < n → g j = 0 ∨ ∃ i, A i j ∧ g i + 1 = g j) (h1 : ∀ i j, j < n → A i j → h i < h j) (h2 : ∀ j, j < n → h j = 0 ∨ ∃ i, A i j ∧ h i + 1 = h j) : ∀ j, j < n → g j = h j := by
  intro j
  induction j using Nat.strongRecOn with
  | ind j ih =>
    intro hj
    have a : g j ≤ h j := by
      rcases g2 j hj with e | ⟨i, e1, e2⟩
      · omega
      · have := ih i (hA i j e1) (by have := hA i j e1; omega)
        have := h1 i j hj e1
        omega
    have b : h j ≤ g j := by
      rcases h2 j hj with e | ⟨i, e1, e2⟩
      · omega
      · have := ih i (hA i j e1) (by have := hA i j e1; omega)
        have := g1 i j hj e1
        omega
    omega
/-- each letter's step is its place's rank -/
theorem lev_rise {f : Nat → Nat → Bool} {m : Nat} (hf : Fr f) {w : List Nat} (hm : ∀ x, x ∈ w → x < m) : (∀ i j, j < w.length → Clo (ahR f w) i j → lev f m w i < lev f m w j) ∧ ∀ j, j < w.length → lev f m w j = 0 ∨ ∃ i, Clo (ahR f w) i j ∧ lev f m w i + 1 = lev f m w j := by
  have step : ∀ i j, (row (ahR f w) i).testBit j = true → lev f m w i < lev f m w j := fun i j h => by
    obtain ⟨h1, h2, h3⟩ := ahR_bit.1 h
    rw [lev_is hf hm h2]
    exact mxr_le (g := lev f m w) h1 h3
  refine ⟨fun i _ _ h => clo_least (fun j => lev f m w i < lev f m w j) (step i) (fun j k h1 h2 => Nat.lt_trans h1 (step j k h2)) h, fun j hj => ?_⟩
  rw [lev_is hf hm hj]
  rcases mxr_at f w (lev f m w) (row w j) j with h | ⟨i, a, b, e⟩
  · exact .inl h
  · exact .inr ⟨i, clo_base (ahR_bit.2 ⟨a, hj, b⟩), e.symm⟩
theorem lev_rank {f : Nat → Nat → Bool} {m : Nat} (hf : Fr f) {w : List Nat} (hm : ∀ x, x ∈ w → x < m) (hn : w.length ≤ 12) (hr : Tr (turned (ahR f w))) {j : Nat} (hj : j < w.length) : row (ranks (turned (ahR f w))) j = lev f m w j := by
  obtain ⟨l1, l2⟩ := lev_rise (m := m) hf hm
  have hto := turned_ok (ahR f w)
  have htl : (turned (ahR f w)).length = w.length := by rw [turned_length, ahR_length]
  refine rise_uniq (n := w.length) (A := fun i j => Clo (ahR f w) i j) (fun _ _ h => (ahR_clo h).1) (fun i j _ h => ?_) (fun j hj => ?_) l1 l2 j hj
  · exact ranks_less hto (by omega) hr ((turned_bit (ahR_ok f w) j i).2 h)
  · rcases ranks_step hto (by omega) hr j (by omega) with h | ⟨i, _, a, b⟩
    · exact .inl h
    · exact .inr ⟨i, (turned_bit (ahR_ok f w) j i).1 a, b⟩
end Go.Proofs.YtejnjokjkinpkaaDoor.M
