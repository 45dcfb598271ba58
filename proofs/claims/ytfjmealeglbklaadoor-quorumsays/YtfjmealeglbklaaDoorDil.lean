/- Plain mathematics: Dilworth's theorem for few things told by their numbers, and how many rows a cover must have; no program text is named, no condition but that ahead is one way and goes on. -/
import Derived.Test.YtfjmealeglbklaaDoorMath
namespace Go.Proofs.YtfjmealeglbklaaDoor.M

/-- How many numbers below n a test holds for. -/
def cb : Nat → (Nat → Bool) → Nat
  | 0, _ => 0
  | n + 1, p => cb n p + (if p n then 1 else 0)
theorem cb_cnt (n s : Nat) : cnt n s = cb n s.testBit := by
  induction n with
  | zero => rfl
  | succ n ih => simp only [cnt, cb, ih]
theorem cb_mono {n : Nat} {p q : Nat → Bool} (h : ∀ j, j < n → p j = true → q j = true) : cb n p ≤ cb n q := by
  induction n with
  | zero => simp [cb]
  | succ n ih =>
    simp only [cb]
    have h1 := ih (fun j hj => h j (by omega))
    by_cases hp : p n = true
    · rw [if_pos hp, if_pos (h n (by omega) hp)]; omega
    · rw [if_neg hp]; split <;> omega
theorem cb_congr {n : Nat} {p q : Nat → Bool} (h : ∀ j, j < n → p j = q j) : cb n p = cb n q :=
  Nat.le_antisymm (cb_mono fun j hj hp => by rw [← h j hj]; exact hp) (cb_mono fun j hj hp => by rw [h j hj]; exact hp)
theorem cb_lt {n : Nat} {p q : Nat → Bool} (h : ∀ j, j < n → p j = true → q j = true) {k : Nat} (hk : k < n) (h1 : q k = true) (h2 : p k = false) : cb n p < cb n q := by
  induction n with
  | zero => omega
  | succ n ih =>
    simp only [cb]
    by_cases e : k = n
    · subst e
      rw [h1, h2]
      have := cb_mono (n := k) (p := p) (q := q) (fun j hj => h j (by omega))
      simp; omega
    · have h3 := ih (fun j hj => h j (by omega)) (by omega)
      by_cases hp : p n = true
      · rw [if_pos hp, if_pos (h n (by omega) hp)]; omega
      · rw [if_neg hp]; split <;> omega
theorem cb_all (n : Nat) : cb n (fun _ => true) = n := by
  induction n with
  | zero => rfl
  | succ n ih => simp only [cb, ih]; rfl
theorem cb_le (n : Nat) (p : Nat → Bool) : cb n p ≤ n := by
  have h := cb_mono (n := n) (p := p) (q := fun _ => true) (fun _ _ _ => rfl)
  rw [cb_all] at h; exact h
theorem cb_none {n : Nat} {p : Nat → Bool} (h : ∀ j, j < n → p j = false) : cb n p = 0 := by
  induction n with
  | zero => rfl
  | succ n ih => simp only [cb]; rw [ih (fun j hj => h j (by omega)), h n (by omega)]; rfl
theorem cb_pos {n : Nat} {p : Nat → Bool} (h : 0 < cb n p) : ∃ k, k < n ∧ p k = true := by
  by_cases h1 : ∃ k, k < n ∧ p k = true
  · exact h1
  · have := cb_none (n := n) (p := p) (fun j hj => by
      cases hp : p j with
      | false => rfl
      | true => exact absurd ⟨j, hj, hp⟩ h1)
    omega
theorem cb_erase {n : Nat} {p : Nat → Bool} {k : Nat} (hk : k < n) (hp : p k = true) : cb n (fun j => p j && j != k) + 1 = cb n p := by
  induction n with
  | zero => omega
  | succ n ih =>
    simp only [cb]
    by_cases e : k = n
    · subst e
      have : cb k (fun j => p j && j != k) = cb k p := cb_congr fun j hj => by
        have : (j != k) = true := by simp; omega
        rw [this, Bool.and_true]
      rw [this]; simp [hp]
    · have h3 := ih (by omega)
      have : (n != k) = true := by simp; omega
      simp only [this, Bool.and_true]; omega
/-- One thing more. -/
theorem cb_put {n : Nat} {p : Nat → Bool} {k : Nat} (hk : k < n) (hp : p k = false) : cb n (fun j => p j || j == k) = cb n p + 1 := by
  have h := cb_erase (n := n) (p := fun j => p j || j == k) hk (by simp)
  rw [← h]
  congr 1
  apply cb_congr
  intro j _
  show ((p j || j == k) && j != k) = p j
  by_cases e : j = k
  · subst e; rw [hp]; simp
  · have e1 : (j == k) = false := by simp [e]
    have e2 : (j != k) = true := by simp [e]
    rw [e1, e2]; simp
/-- Pigeons. -/
theorem pigeon (n : Nat) : ∀ (m : Nat) (A B : Nat → Bool) (f : Nat → Nat), (∀ i, i < n → A i = true → f i < m ∧ B (f i) = true) →
    (∀ i j, i < n → j < n → A i = true → A j = true → f i = f j → i = j) → cb n A ≤ cb m B := by
  induction n with
  | zero => intros; simp [cb]
  | succ n ih =>
    intro m A B f h inj
    simp only [cb]
    by_cases hA : A n = true
    · obtain ⟨h1, h2⟩ := h n (by omega) hA
      have h3 := cb_erase h1 h2
      have h4 := ih m A (fun j => B j && j != f n) f (fun i hi hAi => by
        obtain ⟨h5, h6⟩ := h i (by omega) hAi
        refine ⟨h5, ?_⟩
        rw [h6]
        simp only [Bool.true_and, bne_iff_ne, ne_eq]
        intro e
        have := inj i n (by omega) (by omega) hAi hA e
        omega) (fun i j hi hj => inj i j (by omega) (by omega))
      rw [if_pos hA]; omega
    · rw [if_neg hA]
      exact ih m A B f (fun i hi => h i (by omega)) (fun i j hi hj => inj i j (by omega) (by omega))
theorem pigeon_all {n w : Nat} {A : Nat → Bool} {f : Nat → Nat} (h : ∀ i, i < n → A i = true → f i < w)
    (inj : ∀ i j, i < n → j < n → A i = true → A j = true → f i = f j → i = j) : cb n A ≤ w := by
  have := pigeon n w A (fun _ => true) f (fun i hi hA => ⟨h i hi hA, rfl⟩) inj
  rw [cb_all] at this; exact this
theorem onto {n w : Nat} {A : Nat → Bool} {f : Nat → Nat} (h : ∀ i, i < n → A i = true → f i < w)
    (inj : ∀ i j, i < n → j < n → A i = true → A j = true → f i = f j → i = j) (hw : w ≤ cb n A) {k : Nat} (hk : k < w) : ∃ i, i < n ∧ A i = true ∧ f i = k := by
  by_cases hx : ∃ i, i < n ∧ A i = true ∧ f i = k
  · exact hx
  · have h1 := pigeon n w A (fun j => true && j != k) f (fun i hi hA => ⟨h i hi hA, by
      simp only [Bool.true_and, bne_iff_ne, ne_eq]
      intro e; exact hx ⟨i, hi, hA, e⟩⟩) inj
    have h2 := cb_erase (n := w) (p := fun _ => true) hk rfl
    rw [cb_all] at h2
    omega

/-- One way, and going on. -/
structure Strict (lt : Nat → Nat → Bool) : Prop where
  irr : ∀ i, lt i i = false
  tr : ∀ i j k, lt i j = true → lt j k = true → lt i k = true
theorem Strict.asym {lt : Nat → Nat → Bool} (h : Strict lt) {i j : Nat} (h1 : lt i j = true) : lt j i = false := by
  cases h2 : lt j i with
  | false => rfl
  | true => have := h.tr i j i h1 h2; rw [h.irr] at this; cases this
theorem topmost {lt : Nat → Nat → Bool} (hl : Strict lt) (n : Nat) : ∀ (m : Nat) (S : Nat → Bool), cb n S ≤ m → (∃ i, i < n ∧ S i = true) → ∃ i, i < n ∧ S i = true ∧ ∀ j, j < n → S j = true → lt i j = false := by
  intro m
  induction m with
  | zero =>
    rintro S hm ⟨i, hi, hS⟩
    have := cb_lt (n := n) (p := fun _ => false) (q := S) (fun _ _ h => by cases h) hi hS rfl
    omega
  | succ m ih =>
    rintro S hm ⟨i, hi, hS⟩
    by_cases hx : ∃ j, j < n ∧ S j = true ∧ lt i j = true
    · obtain ⟨j, hj, hSj, hij⟩ := hx
      have hlt : cb n (fun x => S x && lt i x) < cb n S := cb_lt (fun x _ h => (Bool.and_eq_true _ _ ▸ h).1) hi hS (by rw [hl.irr]; simp)
      obtain ⟨t, ht, hSt, hmax⟩ := ih (fun x => S x && lt i x) (by omega) ⟨j, hj, by rw [hSj, hij]; rfl⟩
      simp only [Bool.and_eq_true] at hSt
      refine ⟨t, ht, hSt.1, fun y hy hSy => ?_⟩
      cases hty : lt t y with
      | false => rfl
      | true =>
        have := hmax y hy (by rw [hSy, hl.tr i t y hSt.2 hty]; rfl)
        rw [hty] at this; exact this
    · refine ⟨i, hi, hS, fun j hj hSj => ?_⟩
      cases hij : lt i j with
      | false => rfl
      | true => exact absurd ⟨j, hj, hSj, hij⟩ hx

/-- None of a set is ahead of another one. -/
def Anti (n : Nat) (lt : Nat → Nat → Bool) (A : Nat → Bool) : Prop := ∀ i j, i < n → j < n → A i = true → A j = true → lt i j = false
/-- No set side by side within S has more than w. -/
def Bound (n : Nat) (lt : Nat → Nat → Bool) (S : Nat → Bool) (w : Nat) : Prop := ∀ A : Nat → Bool, (∀ i, i < n → A i = true → S i = true) → Anti n lt A → cb n A ≤ w
/-- The things of S in w rows. -/
def Cover (n : Nat) (lt : Nat → Nat → Bool) (S : Nat → Bool) (w : Nat) (f : Nat → Nat) : Prop := (∀ i, i < n → S i = true → f i < w) ∧
  ∀ i j, i < n → j < n → S i = true → S j = true → f i = f j → i = j ∨ lt i j = true ∨ lt j i = true

theorem Cover.inj {n : Nat} {lt : Nat → Nat → Bool} {S : Nat → Bool} {w : Nat} {f : Nat → Nat} (h : Cover n lt S w f) {A : Nat → Bool} (hA : ∀ i, i < n → A i = true → S i = true) (ha : Anti n lt A) :
    ∀ i j, i < n → j < n → A i = true → A j = true → f i = f j → i = j := fun i j hi hj h1 h2 e => by
  rcases h.2 i j hi hj (hA i hi h1) (hA j hj h2) e with h3 | h3 | h3
  · exact h3
  · rw [ha i j hi hj h1 h2] at h3; cases h3
  · rw [ha j i hj hi h2 h1] at h3; cases h3
theorem Cover.bound {n : Nat} {lt : Nat → Nat → Bool} {S : Nat → Bool} {w : Nat} {f : Nat → Nat} (h : Cover n lt S w f) : Bound n lt S w := fun _ hA ha =>
  pigeon_all (fun i hi h1 => h.1 i hi (hA i hi h1)) (h.inj hA ha)

open Classical in
theorem dilworth {lt : Nat → Nat → Bool} (hl : Strict lt) (n : Nat) : ∀ (m : Nat) (S : Nat → Bool), cb n S ≤ m → ∀ w, Bound n lt S w → ∃ f, Cover n lt S w f := by
  intro m
  induction m with
  | zero =>
    intro S hm w _
    have hno : ∀ i, i < n → S i = true → False := fun i hi hS => by
      have := cb_lt (n := n) (p := fun _ => false) (q := S) (fun _ _ h => by cases h) hi hS rfl
      omega
    exact ⟨fun _ => 0, fun i hi hS => (hno i hi hS).elim, fun i j hi _ hS => (hno i hi hS).elim⟩
  | succ m ih =>
    intro S hm w hb
    by_cases hne : ∃ i, i < n ∧ S i = true
    · obtain ⟨a, han, haS, hmax⟩ := topmost hl n _ S (Nat.le_refl _) hne
      have her := cb_erase (p := S) han haS
      obtain ⟨S', hS'⟩ : ∃ S' : Nat → Bool, S' = fun j => S j && j != a := ⟨_, rfl⟩
      have hsub : ∀ i, S' i = true → S i = true ∧ i ≠ a := fun i h => by
        rw [hS'] at h; simpa using h
      have hin : ∀ i, S i = true → i ≠ a → S' i = true := fun i h h2 => by
        rw [hS']; simp [h, h2]
      have hc' : cb n S' ≤ m := by rw [hS']; omega
      have hb' : Bound n lt S' w := fun A hA ha => hb A (fun i hi h => (hsub i (hA i hi h)).1) ha
      have hw1 : 1 ≤ w := by
        have := hb (fun j => j == a) (fun i _ h => by simp at h; subst h; exact haS) (fun i j _ _ h1 h2 => by simp at h1 h2; subst h1; subst h2; exact hl.irr _)
        have h2 := cb_lt (n := n) (p := fun _ => false) (q := fun j => j == a) (fun _ _ h => by cases h) han (by simp) rfl
        omega
      by_cases hsmall : Bound n lt S' (w - 1)
      · obtain ⟨f, hf1, hf2⟩ := ih S' hc' (w - 1) hsmall
        refine ⟨fun i => if i = a then w - 1 else f i, fun i hi hS => ?_, fun i j hi hj hSi hSj e => ?_⟩
        · by_cases e : i = a
          · simp only [e, if_pos]; omega
          · simp only [if_neg e]; have := hf1 i hi (hin i hS e); omega
        · by_cases e1 : i = a
          · by_cases e2 : j = a
            · left; rw [e1, e2]
            · simp only [if_pos e1, if_neg e2] at e
              have := hf1 j hj (hin j hSj e2); omega
          · by_cases e2 : j = a
            · simp only [if_neg e1, if_pos e2] at e
              have := hf1 i hi (hin i hSi e1); omega
            · simp only [if_neg e1, if_neg e2] at e
              exact hf2 i j hi hj (hin i hSi e1) (hin j hSj e2) e
      · obtain ⟨f, hf⟩ := ih S' hc' w hb'
        have hA0 : ∃ A : Nat → Bool, (∀ i, i < n → A i = true → S' i = true) ∧ Anti n lt A ∧ w ≤ cb n A := by
          apply Classical.byContradiction
          intro hcon
          apply hsmall
          intro A hA ha
          have : ¬ w ≤ cb n A := fun h => hcon ⟨A, hA, ha, h⟩
          omega
        obtain ⟨A0, hA0s, hA0a, hA0w⟩ := hA0
        -- those of row k that are in some widest set
        have hQ : ∀ k, k < w → ∃ x, x < n ∧ (S' x = true ∧ f x = k ∧ ∃ A : Nat → Bool, (∀ i, i < n → A i = true → S' i = true) ∧ Anti n lt A ∧ w ≤ cb n A ∧ A x = true) ∧
            ∀ y, y < n → (S' y = true ∧ f y = k ∧ ∃ A : Nat → Bool, (∀ i, i < n → A i = true → S' i = true) ∧ Anti n lt A ∧ w ≤ cb n A ∧ A y = true) → lt x y = false := by
          intro k hk
          obtain ⟨x, hx, hAx, hfx⟩ := onto (fun i hi h => hf.1 i hi (hA0s i hi h)) (hf.inj hA0s hA0a) hA0w hk
          obtain ⟨t, ht, hPt, hmx⟩ := topmost hl n _ (fun y => decide (S' y = true ∧ f y = k ∧ ∃ A : Nat → Bool, (∀ i, i < n → A i = true → S' i = true) ∧ Anti n lt A ∧ w ≤ cb n A ∧ A y = true)) (Nat.le_refl _)
            ⟨x, hx, decide_eq_true ⟨hA0s x hx hAx, hfx, A0, hA0s, hA0a, hA0w, hAx⟩⟩
          exact ⟨t, ht, of_decide_eq_true hPt, fun y hy hp => hmx y hy (decide_eq_true hp)⟩
        obtain ⟨g, hg⟩ : ∃ g : Nat → Nat, ∀ k, k < w → g k < n ∧ (S' (g k) = true ∧ f (g k) = k ∧ ∃ A : Nat → Bool, (∀ i, i < n → A i = true → S' i = true) ∧ Anti n lt A ∧ w ≤ cb n A ∧ A (g k) = true) ∧
            ∀ y, y < n → (S' y = true ∧ f y = k ∧ ∃ A : Nat → Bool, (∀ i, i < n → A i = true → S' i = true) ∧ Anti n lt A ∧ w ≤ cb n A ∧ A y = true) → lt (g k) y = false := by
          refine ⟨fun k => if h : k < w then Classical.choose (hQ k h) else 0, fun k hk => ?_⟩
          simp only [dif_pos hk]
          exact Classical.choose_spec (hQ k hk)
        -- any x of row k in a widest set is at most g k
        have hle : ∀ k, k < w → ∀ y, y < n → (S' y = true ∧ f y = k ∧ ∃ A : Nat → Bool, (∀ i, i < n → A i = true → S' i = true) ∧ Anti n lt A ∧ w ≤ cb n A ∧ A y = true) → y = g k ∨ lt y (g k) = true := by
          intro k hk y hy hp
          obtain ⟨hgn, ⟨hgS, hgf, _⟩, hgm⟩ := hg k hk
          rcases hf.2 y (g k) hy hgn hp.1 hgS (hp.2.1.trans hgf.symm) with h | h | h
          · exact .inl h
          · exact .inr h
          · rw [hgm y hy hp] at h; cases h
        -- the g k stand side by side
        have hganti : ∀ k l, k < w → l < w → lt (g k) (g l) = false := by
          intro k l hk hl2
          cases hlt : lt (g k) (g l) with
          | false => rfl
          | true =>
            obtain ⟨hgn, ⟨hgS, hgf, A, hAs, hAa, hAw, hAg⟩, _⟩ := hg l hl2
            obtain ⟨x, hx, hAx, hfx⟩ := onto (fun i hi h => hf.1 i hi (hAs i hi h)) (hf.inj hAs hAa) hAw hk
            have hxl : lt x (g l) = true := by
              rcases hle k hk x hx ⟨hAs x hx hAx, hfx, A, hAs, hAa, hAw, hAx⟩ with h | h
              · rw [h]; exact hlt
              · exact hl.tr _ _ _ h hlt
            rw [hAa x (g l) hx hgn hAx hAg] at hxl; cases hxl
        -- so one of them is ahead of a
        have hone : ∃ k, k < w ∧ lt (g k) a = true := by
          apply Classical.byContradiction
          intro hcon
          have hno : ∀ k, k < w → lt (g k) a = false := fun k hk => by
            cases h : lt (g k) a with
            | false => rfl
            | true => exact absurd ⟨k, hk, h⟩ hcon
          have hG : cb n (fun j => decide (∃ k, k < w ∧ g k = j)) = w := by
            apply Nat.le_antisymm
            · refine pigeon_all (f := f) (fun i hi h => ?_) (fun i j hi hj h1 h2 e => ?_)
              · obtain ⟨k, hk, rfl⟩ := of_decide_eq_true h
                rw [(hg k hk).2.1.2.1]; exact hk
              · obtain ⟨k, hk, rfl⟩ := of_decide_eq_true h1
                obtain ⟨l, hl2, rfl⟩ := of_decide_eq_true h2
                rw [(hg k hk).2.1.2.1, (hg l hl2).2.1.2.1] at e
                rw [e]
            · have := pigeon w n (fun _ => true) (fun j => decide (∃ k, k < w ∧ g k = j)) g (fun k hk _ => ⟨(hg k hk).1, decide_eq_true ⟨k, hk, rfl⟩⟩) (fun i j hi hj _ _ e => by
                have h1 := (hg i hi).2.1.2.1
                have h2 := (hg j hj).2.1.2.1
                rw [e, h2] at h1; exact h1.symm)
              rw [cb_all] at this; exact this
          have hnota : decide (∃ k, k < w ∧ g k = a) = false := by
            apply decide_eq_false
            rintro ⟨k, hk, e⟩
            exact (hsub _ (hg k hk).2.1.1).2 e
          have hput := cb_put (p := fun j => decide (∃ k, k < w ∧ g k = j)) han hnota
          have hle2 := hb (fun j => decide (∃ k, k < w ∧ g k = j) || j == a) (fun i hi h => by
              rw [Bool.or_eq_true] at h
              rcases h with h | h
              · obtain ⟨k, hk, rfl⟩ := of_decide_eq_true h
                exact (hsub _ (hg k hk).2.1.1).1
              · have : i = a := by simpa using h
                rw [this]; exact haS) (fun i j hi hj h1 h2 => by
              rw [Bool.or_eq_true] at h1 h2
              rcases h1 with h1 | h1
              · obtain ⟨k, hk, rfl⟩ := of_decide_eq_true h1
                rcases h2 with h2 | h2
                · obtain ⟨l, hl2, rfl⟩ := of_decide_eq_true h2
                  exact hganti k l hk hl2
                · have : j = a := by simpa using h2
                  rw [this]; exact hno k hk
              · have e1 : i = a := by simpa using h1
                rw [e1]
                rcases h2 with h2 | h2
                · obtain ⟨l, hl2, rfl⟩ := of_decide_eq_true h2
                  exact hmax _ hj (hsub _ (hg l hl2).2.1.1).1
                · have : j = a := by simpa using h2
                  rw [this]; exact hl.irr a)
          omega
        obtain ⟨k, hk, hka⟩ := hone
        obtain ⟨hgn, ⟨hgS, hgf, _⟩, _⟩ := hg k hk
        -- the row that is taken out
        obtain ⟨K, hK⟩ : ∃ K : Nat → Prop, K = fun x => x = a ∨ (S' x = true ∧ f x = k ∧ (x = g k ∨ lt x (g k) = true)) := ⟨_, rfl⟩
        have hKa : ∀ x, x < n → K x → x = a ∨ lt x a = true := fun x _ h => by
          rw [hK] at h
          rcases h with h | ⟨_, _, h | h⟩
          · exact .inl h
          · rw [h]; exact .inr hka
          · exact .inr (hl.tr _ _ _ h hka)
        have hKc : ∀ x y, x < n → y < n → K x → K y → x = y ∨ lt x y = true ∨ lt y x = true := fun x y hx hy h1 h2 => by
          rcases hKa x hx h1 with e1 | e1
          · rcases hKa y hy h2 with e2 | e2
            · exact .inl (e1.trans e2.symm)
            · rw [e1]; exact .inr (.inr e2)
          · rcases hKa y hy h2 with e2 | e2
            · rw [e2]; exact .inr (.inl e1)
            · have p1 : S' x = true ∧ f x = k := by
                rw [hK] at h1
                rcases h1 with h | h
                · rw [h, hl.irr] at e1; cases e1
                · exact ⟨h.1, h.2.1⟩
              have p2 : S' y = true ∧ f y = k := by
                rw [hK] at h2
                rcases h2 with h | h
                · rw [h, hl.irr] at e2; cases e2
                · exact ⟨h.1, h.2.1⟩
              exact hf.2 x y hx hy p1.1 p2.1 (p1.2.trans p2.2.symm)
        obtain ⟨S2, hS2⟩ : ∃ S2 : Nat → Bool, S2 = fun x => S x && decide (¬ K x) := ⟨_, rfl⟩
        have h2sub : ∀ i, S2 i = true → S i = true ∧ ¬ K i := fun i h => by
          rw [hS2] at h; simpa using h
        have h2in : ∀ i, S i = true → ¬ K i → S2 i = true := fun i h h2 => by
          rw [hS2]; simp [h, h2]
        have hKa' : K a := by rw [hK]; exact .inl rfl
        have hc2 : cb n S2 ≤ m := by
          have : cb n S2 < cb n S := cb_lt (fun j _ h => (h2sub j h).1) han haS (by
            cases h : S2 a with
            | false => rfl
            | true => exact absurd hKa' (h2sub a h).2)
          omega
        have hb2 : Bound n lt S2 (w - 1) := by
          intro A hA ha
          have hAS' : ∀ i, i < n → A i = true → S' i = true := fun i hi h => by
            have := h2sub i (hA i hi h)
            exact hin i this.1 (fun e => this.2 (by rw [e]; exact hKa'))
          by_cases hAw : w ≤ cb n A
          · obtain ⟨x, hx, hAx, hfx⟩ := onto (fun i hi h => hf.1 i hi (hAS' i hi h)) (hf.inj hAS' ha) hAw hk
            have hKx : K x := by
              rw [hK]
              exact .inr ⟨hAS' x hx hAx, hfx, hle k hk x hx ⟨hAS' x hx hAx, hfx, A, hAS', ha, hAw, hAx⟩⟩
            exact absurd hKx (h2sub x (hA x hx hAx)).2
          · omega
        obtain ⟨f2, hf21, hf22⟩ := ih S2 hc2 (w - 1) hb2
        refine ⟨fun i => if K i then w - 1 else f2 i, fun i hi hS => ?_, fun i j hi hj hSi hSj e => ?_⟩
        · by_cases e : K i
          · simp only [if_pos e]; omega
          · simp only [if_neg e]; have := hf21 i hi (h2in i hS e); omega
        · by_cases e1 : K i
          · by_cases e2 : K j
            · exact hKc i j hi hj e1 e2
            · simp only [if_pos e1, if_neg e2] at e
              have := hf21 j hj (h2in j hSj e2); omega
          · by_cases e2 : K j
            · simp only [if_neg e1, if_pos e2] at e
              have := hf21 i hi (h2in i hSi e1); omega
            · simp only [if_neg e1, if_neg e2] at e
              exact hf22 i j hi hj (h2in i hSi e1) (h2in j hSj e2) e
    · exact ⟨fun _ => 0, fun i hi hS => absurd ⟨i, hi, hS⟩ hne, fun i j hi _ hS => absurd ⟨i, hi, hS⟩ hne⟩
end Go.Proofs.YtfjmealeglbklaaDoor.M
