/- Plain mathematics of views: without danger there is no ring; in a row each reads the same. No program text is named. -/
import Derived.Test.YtajiichehffaaaaDoorWlk
import Derived.Test.YtajiichehffaaaaDoorWgb
namespace Go.Proofs.YtajiichehffaaaaDoor.M

/-- who is in a ring has one ahead of it that is -/
theorem ring_prev {r : List Nat} (hr : Ok r) {x : Nat} (h : Clo r x x) : ∃ y, (row r y).testBit x = true ∧ Clo r y y := by
  have : ∃ y, (row r y).testBit x = true ∧ (y = x ∨ Clo r x y) :=
    clo_least (fun j => ∃ y, (row r y).testBit j = true ∧ (y = x ∨ Clo r x y)) (fun j e => ⟨x, e, .inl rfl⟩) (fun j k ⟨y, h1, h2⟩ e => by
      refine ⟨j, e, .inr ?_⟩
      rcases h2 with rfl | h2
      · exact clo_base h1
      · exact clo_step hr h2 h1) h
  obtain ⟨y, h1, h2⟩ := this
  refine ⟨y, h1, ?_⟩
  rcases h2 with rfl | h2
  · exact h
  · exact clo_trans hr (clo_base h1) h2
/-- of those that do there is one with the least number -/
theorem least_of {P : Nat → Prop} (C : Nat → Nat) : ∀ (k : Nat) {x : Nat}, P x → C x ≤ k → ∃ y, P y ∧ ∀ z, P z → C y ≤ C z
  | 0, x, hx, hk => ⟨x, hx, fun z _ => by omega⟩
  | k + 1, x, hx, hk => by
    by_cases h : ∃ z, P z ∧ C z ≤ k
    · obtain ⟨z, hz, hzk⟩ := h
      exact least_of C k hz hzk
    · refine ⟨x, hx, fun z hz => ?_⟩
      rcases Nat.lt_or_ge k (C z) with c | c
      · omega
      · exact absurd ⟨z, hz, c⟩ h
/-- FEKETE AND OTHERS: where each edge goes to one that began behind its end, or to one that read was written over by, and no two of the latter kind follow each other, there is no ring -/
theorem no_danger {E : List Nat} {O : Nat → Nat → Prop} {B C : Nat → Nat} (hok : Ok E) (he : ∀ a b, (row E a).testBit b = true → C a < B b ∨ (O a b ∧ B a < C b)) (hb : ∀ a b, (row E a).testBit b = true → B a < C a ∧ B b < C b) (hno : ∀ a b c, O a b → O b c → False) : ¬ Ring E := fun ⟨i, hi⟩ => by
  obtain ⟨x, hx, hmin⟩ := least_of (P := fun x => Clo E x x) C (C i) hi (Nat.le_refl _)
  obtain ⟨y, y1, y2⟩ := ring_prev hok hx
  obtain ⟨z, z1, z2⟩ := ring_prev hok y2
  have h1 := hmin y y2
  have h2 := hmin z z2
  have b1 := hb y x y1
  rcases he y x y1 with a | ⟨a, a2⟩
  · omega
  · rcases he z y z1 with c | ⟨c, _⟩
    · omega
    · exact hno z y x c a
/-- In a row of all in which each stands ahead of those in its set: of the writers of an item those that ended ahead of a reader's begin stand ahead of it, and the others behind; of two writers the one that ended first stands ahead. So the last one ahead of it is the last one that ended ahead of its begin. -/
theorem view_row {l : List Nat} {W : Nat → Prop} {t : Nat} {C : Nat → Nat} {bt : Nat} (h1 : ∀ a, W a → a ≠ t → C a < bt → l.idxOf a < l.idxOf t) (h2 : ∀ a, W a → a ≠ t → bt < C a → l.idxOf t < l.idxOf a) (h3 : ∀ a b, W a → W b → C a < C b → l.idxOf a < l.idxOf b) (hne : ∀ a, W a → C a ≠ bt) {n : Nat} (hn : W n ∧ n ≠ t ∧ C n < bt) (hl : ∀ a, W a → a ≠ t → C a < bt → C a ≤ C n) (hinj : ∀ a b, W a → W b → C a = C b → a = b) : l.idxOf n < l.idxOf t ∧ ∀ a, W a → a ≠ t → l.idxOf a < l.idxOf t → l.idxOf a ≤ l.idxOf n := by
  refine ⟨h1 n hn.1 hn.2.1 hn.2.2, fun a ha hat hlt => ?_⟩
  rcases Nat.lt_trichotomy (C a) bt with c | c | c
  · have := hl a ha hat c
    by_cases e : C a = C n
    · rw [hinj a n ha hn.1 e]; exact Nat.le_refl _
    · exact Nat.le_of_lt (h3 a n ha hn.1 (by omega))
  · exact absurd c (hne a ha)
  · have := h2 a ha hat c; omega
theorem view_none {l : List Nat} {W : Nat → Prop} {t : Nat} {C : Nat → Nat} {bt : Nat} (h2 : ∀ a, W a → a ≠ t → bt < C a → l.idxOf t < l.idxOf a) (hl : ∀ a, W a → a ≠ t → bt < C a) : ∀ a, W a → a ≠ t → ¬ l.idxOf a < l.idxOf t := fun a ha hat hlt => by
  have := h2 a ha hat (hl a ha hat)
  omega
/-- edges from each writer to the next one go over all of them -/
theorem chain_all {R : Nat → Nat → Prop} (tr : ∀ a b c, R a b → R b c → R a c) {W : Nat → Prop} {C : Nat → Nat} (hinj : ∀ a b, W a → W b → C a = C b → a = b) (next : ∀ a b, W a → W b → C a < C b → (∀ c, W c → C c < C b → C c ≤ C a) → R a b) : ∀ (k : Nat) {a b : Nat}, W a → W b → C a < C b → C b - C a ≤ k → R a b
  | 0, _, _, _, _, h, hk => by omega
  | k + 1, a, b, ha, hb, h, hk => by
    by_cases c : ∀ d, W d → C d < C b → C d ≤ C a
    · exact next a b ha hb h c
    · obtain ⟨d, hd⟩ := Classical.not_forall.1 c
      obtain ⟨wd, hd⟩ := Classical.not_imp.1 hd
      obtain ⟨db, hd⟩ := Classical.not_imp.1 hd
      have ad : C a < C d := by omega
      exact tr a d b (chain_all tr hinj next k ha wd ad (by omega)) (chain_all tr hinj next k wd hb db (by omega))
end Go.Proofs.YtajiichehffaaaaDoor.M
