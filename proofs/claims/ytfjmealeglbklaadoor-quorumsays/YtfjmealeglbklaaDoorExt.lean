/- Plain mathematics: the rows of all things of an order (each behind all that stand ahead of it), and how many there are: counted by what may stand last and by what may stand first; with a step more; at most all, at least all of a widest set's. No program text is named. -/
import Derived.Test.YtfjmealeglbklaaDoorChn
namespace Go.Proofs.YtfjmealeglbklaaDoor.M

/-! ### lists without repetition -/
theorem nodup_len_le {α : Type} [DecidableEq α] : ∀ (l1 l2 : List α), l1.Nodup → (∀ x, x ∈ l1 → x ∈ l2) → l1.length ≤ l2.length := by
  intro l1
  induction l1 with
  | nil => intros; simp
  | cons a l ih =>
    intro l2 hn hs
    have ha := hs a (List.mem_cons_self ..)
    have hn' := List.nodup_cons.1 hn
    have h := ih (l2.erase a) hn'.2 (fun x hx => (List.mem_erase_of_ne (fun e => hn'.1 (by rw [← e]; exact hx))).2 (hs x (List.mem_cons_of_mem _ hx)))
    rw [List.length_erase_of_mem ha] at h
    have : 0 < l2.length := List.length_pos_of_mem ha
    simp only [List.length_cons]
    omega
theorem nodup_len_eq {α : Type} [DecidableEq α] {l1 l2 : List α} (h1 : l1.Nodup) (h2 : l2.Nodup) (h : ∀ x, x ∈ l1 ↔ x ∈ l2) : l1.length = l2.length :=
  Nat.le_antisymm (nodup_len_le l1 l2 h1 (fun x => (h x).1)) (nodup_len_le l2 l1 h2 (fun x => (h x).2))

theorem nodup_map {α β : Type} {f : α → β} (hf : ∀ a b, f a = f b → a = b) {l : List α} (h : l.Nodup) : (l.map f).Nodup := by
  induction l with
  | nil => simp
  | cons a l ih =>
    have h' := List.nodup_cons.1 h
    rw [List.map_cons, List.nodup_cons]
    refine ⟨fun hm => ?_, ih h'.2⟩
    obtain ⟨b, hb, e⟩ := List.mem_map.1 hm
    exact h'.1 (by rw [← hf b a e]; exact hb)
/-- A row of the things of S. -/
structure Lin (n : Nat) (lt : Nat → Nat → Bool) (S : Nat → Bool) (l : List Nat) : Prop where
  nd : l.Nodup
  mem : ∀ x, x ∈ l ↔ x < n ∧ S x = true
  ord : ∀ x y, x ∈ l → y ∈ l → lt x y = true → l.idxOf x < l.idxOf y
def Cnt (n : Nat) (lt : Nat → Nat → Bool) (S : Nat → Bool) (k : Nat) : Prop := ∃ L : List (List Nat), L.Nodup ∧ (∀ l, l ∈ L ↔ Lin n lt S l) ∧ L.length = k
theorem Cnt.one {n : Nat} {lt : Nat → Nat → Bool} {S : Nat → Bool} {k k' : Nat} (h : Cnt n lt S k) (h' : Cnt n lt S k') : k = k' := by
  obtain ⟨L, a, b, rfl⟩ := h
  obtain ⟨L', a', b', rfl⟩ := h'
  exact nodup_len_eq a a' (fun x => (b x).trans (b' x).symm)
def del (S : Nat → Bool) (i : Nat) : Nat → Bool := fun j => S j && j != i
theorem del_iff {S : Nat → Bool} {i j : Nat} : del S i j = true ↔ S j = true ∧ j ≠ i := by simp [del]
/-- i stands ahead of none of S; it stands behind none of S -/
def lastB (n : Nat) (lt : Nat → Nat → Bool) (S : Nat → Bool) (i : Nat) : Bool := S i && (List.range n).all fun j => !(S j && lt i j)
def firstB (n : Nat) (lt : Nat → Nat → Bool) (S : Nat → Bool) (i : Nat) : Bool := S i && (List.range n).all fun j => !(S j && lt j i)
theorem lastB_iff {n : Nat} {lt : Nat → Nat → Bool} {S : Nat → Bool} {i : Nat} : lastB n lt S i = true ↔ S i = true ∧ ∀ j, j < n → S j = true → lt i j = false := by
  unfold lastB
  rw [Bool.and_eq_true, List.all_eq_true]
  constructor
  · rintro ⟨h1, h2⟩
    refine ⟨h1, fun j hj hS => ?_⟩
    have := h2 j (List.mem_range.2 hj)
    simpa [hS] using this
  · rintro ⟨h1, h2⟩
    refine ⟨h1, fun j hj => ?_⟩
    cases hS : S j with
    | false => rfl
    | true => rw [h2 j (List.mem_range.1 hj) hS]; rfl
theorem firstB_iff {n : Nat} {lt : Nat → Nat → Bool} {S : Nat → Bool} {i : Nat} : firstB n lt S i = true ↔ S i = true ∧ ∀ j, j < n → S j = true → lt j i = false := by
  unfold firstB
  rw [Bool.and_eq_true, List.all_eq_true]
  constructor
  · rintro ⟨h1, h2⟩
    refine ⟨h1, fun j hj hS => ?_⟩
    have := h2 j (List.mem_range.2 hj)
    simpa [hS] using this
  · rintro ⟨h1, h2⟩
    refine ⟨h1, fun j hj => ?_⟩
    cases hS : S j with
    | false => rfl
    | true => rw [h2 j (List.mem_range.1 hj) hS]; rfl

theorem lin_snoc {n : Nat} {lt : Nat → Nat → Bool} (hl : Strict lt) {S : Nat → Bool} {l : List Nat} {i : Nat} : Lin n lt S (l ++ [i]) ↔ i < n ∧ lastB n lt S i = true ∧ Lin n lt (del S i) l := by
  constructor
  · rintro ⟨h1, h2, h3⟩
    have hnd := List.nodup_append.1 h1
    have hil : i ∉ l := fun h => hnd.2.2 i h i (List.mem_singleton.2 rfl) rfl
    have hi := (h2 i).1 (by simp)
    refine ⟨hi.1, lastB_iff.2 ⟨hi.2, fun j hj hS => ?_⟩, hnd.1, fun x => ?_, fun x y hx hy hxy => ?_⟩
    · cases hlt : lt i j with
      | false => rfl
      | true =>
        have hjm := (h2 j).2 ⟨hj, hS⟩
        have hij : j ≠ i := fun e => by rw [e, hl.irr] at hlt; cases hlt
        have hjl : j ∈ l := by
          rcases List.mem_append.1 hjm with h | h
          · exact h
          · exact absurd (List.mem_singleton.1 h) hij
        have := h3 i j (by simp) hjm hlt
        rw [List.idxOf_append, List.idxOf_append, if_neg hil, if_pos hjl] at this
        have h5 := List.idxOf_lt_length_of_mem hjl
        omega
    · rw [del_iff]
      constructor
      · intro hx
        have := (h2 x).1 (List.mem_append_left _ hx)
        exact ⟨this.1, this.2, fun e => hil (by rw [← e]; exact hx)⟩
      · rintro ⟨ha, hb, hc⟩
        rcases List.mem_append.1 ((h2 x).2 ⟨ha, hb⟩) with h | h
        · exact h
        · exact absurd (List.mem_singleton.1 h) hc
    · have := h3 x y (List.mem_append_left _ hx) (List.mem_append_left _ hy) hxy
      rw [List.idxOf_append, List.idxOf_append, if_pos hx, if_pos hy] at this
      exact this
  · rintro ⟨hi, hm, h1, h2, h3⟩
    rw [lastB_iff] at hm
    have hil : i ∉ l := fun h => (del_iff.1 ((h2 i).1 h).2).2 rfl
    refine ⟨?_, fun x => ?_, fun x y hx hy hxy => ?_⟩
    · rw [List.nodup_append]
      refine ⟨h1, by simp, fun a ha b hb e => ?_⟩
      rw [List.mem_singleton.1 hb] at e
      exact hil (by rw [← e]; exact ha)
    · rw [List.mem_append, List.mem_singleton, h2 x, del_iff]
      constructor
      · rintro (⟨a, b, _⟩ | rfl)
        · exact ⟨a, b⟩
        · exact ⟨hi, hm.1⟩
      · rintro ⟨a, b⟩
        by_cases e : x = i
        · exact .inr e
        · exact .inl ⟨a, b, e⟩
    · rw [List.mem_append, List.mem_singleton] at hx hy
      rw [List.idxOf_append, List.idxOf_append]
      by_cases hyl : y ∈ l
      · have hxl : x ∈ l := by
          rcases hx with h | h
          · exact h
          · rw [h, hm.2 y ((h2 y).1 hyl).1 (del_iff.1 ((h2 y).1 hyl).2).1] at hxy; cases hxy
        rw [if_pos hyl, if_pos hxl]
        exact h3 x y hxl hyl hxy
      · have hyi : y = i := hy.resolve_left hyl
        have hxl : x ∈ l := by
          rcases hx with h | h
          · exact h
          · rw [h, hyi, hl.irr] at hxy; cases hxy
        rw [if_neg hyl, if_pos hxl]
        have := List.idxOf_lt_length_of_mem hxl
        omega
theorem lin_cons {n : Nat} {lt : Nat → Nat → Bool} (hl : Strict lt) {S : Nat → Bool} {l : List Nat} {i : Nat} : Lin n lt S (i :: l) ↔ i < n ∧ firstB n lt S i = true ∧ Lin n lt (del S i) l := by
  have hix : ∀ x, x ≠ i → (i :: l).idxOf x = l.idxOf x + 1 := fun x hx => by
    rw [List.idxOf_cons]
    have : (i == x) = false := by simp; exact fun e => hx e.symm
    rw [this]; rfl
  have hii : (i :: l).idxOf i = 0 := by rw [List.idxOf_cons]; simp
  constructor
  · rintro ⟨h1, h2, h3⟩
    have hnd := List.nodup_cons.1 h1
    have hi := (h2 i).1 (List.mem_cons_self ..)
    refine ⟨hi.1, firstB_iff.2 ⟨hi.2, fun j hj hS => ?_⟩, hnd.2, fun x => ?_, fun x y hx hy hxy => ?_⟩
    · cases hlt : lt j i with
      | false => rfl
      | true =>
        have := h3 j i ((h2 j).2 ⟨hj, hS⟩) (List.mem_cons_self ..) hlt
        rw [hii] at this; omega
    · rw [del_iff]
      constructor
      · intro hx
        have := (h2 x).1 (List.mem_cons_of_mem _ hx)
        exact ⟨this.1, this.2, fun e => hnd.1 (by rw [← e]; exact hx)⟩
      · rintro ⟨ha, hb, hc⟩
        rcases List.mem_cons.1 ((h2 x).2 ⟨ha, hb⟩) with h | h
        · exact absurd h hc
        · exact h
    · have := h3 x y (List.mem_cons_of_mem _ hx) (List.mem_cons_of_mem _ hy) hxy
      rw [hix x (fun e => hnd.1 (by rw [← e]; exact hx)), hix y (fun e => hnd.1 (by rw [← e]; exact hy))] at this
      omega
  · rintro ⟨hi, hm, h1, h2, h3⟩
    rw [firstB_iff] at hm
    have hil : i ∉ l := fun h => (del_iff.1 ((h2 i).1 h).2).2 rfl
    refine ⟨List.nodup_cons.2 ⟨hil, h1⟩, fun x => ?_, fun x y hx hy hxy => ?_⟩
    · rw [List.mem_cons, h2 x, del_iff]
      constructor
      · rintro (rfl | ⟨a, b, _⟩)
        · exact ⟨hi, hm.1⟩
        · exact ⟨a, b⟩
      · rintro ⟨a, b⟩
        by_cases e : x = i
        · exact .inl e
        · exact .inr ⟨a, b, e⟩
    · by_cases hyi : y = i
      · have hxy' := hxy
        rw [hyi] at hxy'
        by_cases hxi : x = i
        · rw [hxi, hl.irr] at hxy'; cases hxy'
        · have hxl : x ∈ l := by
            rcases List.mem_cons.1 hx with h | h
            · exact absurd h hxi
            · exact h
          rw [hm.2 x ((h2 x).1 hxl).1 (del_iff.1 ((h2 x).1 hxl).2).1] at hxy'; cases hxy'
      · have hyl : y ∈ l := by
          rcases List.mem_cons.1 hy with h | h
          · exact absurd h hyi
          · exact h
        rw [hix y hyi]
        by_cases hxi : x = i
        · rw [hxi, hii]; omega
        · have hxl : x ∈ l := by
            rcases List.mem_cons.1 hx with h | h
            · exact absurd h hxi
            · exact h
          rw [hix x hxi]
          have := h3 x y hxl hyl hxy
          omega

/-! ### sums -/
def sm : Nat → (Nat → Bool) → (Nat → Nat) → Nat
  | 0, _, _ => 0
  | k + 1, p, f => sm k p f + (if p k then f k else 0)
theorem sm_congr {n : Nat} {p : Nat → Bool} {f g : Nat → Nat} (h : ∀ i, i < n → p i = true → f i = g i) : sm n p f = sm n p g := by
  induction n with
  | zero => rfl
  | succ n ih =>
    simp only [sm]
    rw [ih (fun i hi => h i (by omega))]
    by_cases hp : p n = true
    · rw [if_pos hp, if_pos hp, h n (by omega) hp]
    · rw [if_neg hp, if_neg hp]
theorem sm_ge {n : Nat} {p : Nat → Bool} {f : Nat → Nat} {i : Nat} (hi : i < n) (hp : p i = true) : f i ≤ sm n p f := by
  induction n with
  | zero => omega
  | succ n ih =>
    simp only [sm]
    by_cases e : i = n
    · subst e; rw [if_pos hp]; omega
    · have := ih (by omega); omega
theorem sm_ge_mul {n : Nat} {p q : Nat → Bool} {f : Nat → Nat} {v : Nat} (hpq : ∀ i, i < n → q i = true → p i = true) (h : ∀ i, i < n → q i = true → v ≤ f i) : cb n q * v ≤ sm n p f := by
  induction n with
  | zero => simp [cb, sm]
  | succ n ih =>
    simp only [cb, sm]
    have h1 := ih (fun i hi => hpq i (by omega)) (fun i hi => h i (by omega))
    by_cases hq : q n = true
    · have h2 := h n (by omega) hq
      rw [if_pos hq, if_pos (hpq n (by omega) hq), Nat.add_mul]; omega
    · rw [if_neg hq, Nat.add_zero]
      exact Nat.le_trans h1 (Nat.le_add_right _ _)
theorem sm_le_mul {n : Nat} {p q : Nat → Bool} {f : Nat → Nat} {v : Nat} (hpq : ∀ i, i < n → p i = true → q i = true) (h : ∀ i, i < n → p i = true → f i ≤ v) : sm n p f ≤ cb n q * v := by
  induction n with
  | zero => simp [cb, sm]
  | succ n ih =>
    simp only [cb, sm]
    have h1 := ih (fun i hi => hpq i (by omega)) (fun i hi => h i (by omega))
    by_cases hp : p n = true
    · have h2 := h n (by omega) hp
      rw [if_pos hp, if_pos (hpq n (by omega) hp), Nat.add_mul]; omega
    · rw [if_neg hp, Nat.add_mul]; omega

theorem cnt_empty {n : Nat} {lt : Nat → Nat → Bool} {S : Nat → Bool} (h : ∀ i, i < n → S i = false) : Cnt n lt S 1 := by
  refine ⟨[[]], by simp, fun l => ?_, rfl⟩
  rw [List.mem_singleton]
  constructor
  · rintro rfl
    exact ⟨List.nodup_nil, fun x => ⟨fun hx => (by cases hx), fun hx => (by rw [h x hx.1] at hx; cases hx.2)⟩, fun x y hx => (by cases hx)⟩
  · intro hL
    cases l with
    | nil => rfl
    | cons x l => have := (hL.mem x).1 (List.mem_cons_self ..); rw [h x this.1] at this; cases this.2
theorem cnt_last {n : Nat} {lt : Nat → Nat → Bool} (hl : Strict lt) {S : Nat → Bool} (hne : ∃ i, i < n ∧ S i = true) {f : Nat → Nat} (hf : ∀ i, i < n → lastB n lt S i = true → Cnt n lt (del S i) (f i)) : Cnt n lt S (sm n (lastB n lt S) f) := by
  have key : ∀ k, k ≤ n → ∃ L : List (List Nat), L.Nodup ∧ (∀ l, l ∈ L ↔ ∃ i, i < k ∧ lastB n lt S i = true ∧ ∃ l', l = l' ++ [i] ∧ Lin n lt (del S i) l') ∧ L.length = sm k (lastB n lt S) f := by
    intro k
    induction k with
    | zero => intro _; exact ⟨[], List.nodup_nil, fun l => ⟨fun h => (by cases h), fun ⟨i, hi, _⟩ => (by omega)⟩, rfl⟩
    | succ k ih =>
      intro hk
      obtain ⟨L, h1, h2, h3⟩ := ih (by omega)
      simp only [sm]
      by_cases hp : lastB n lt S k = true
      · obtain ⟨M, m1, m2, m3⟩ := hf k (by omega) hp
        refine ⟨L ++ M.map (· ++ [k]), ?_, fun l => ?_, by rw [if_pos hp, List.length_append, List.length_map, h3, m3]⟩
        · rw [List.nodup_append]
          refine ⟨h1, ?_, fun a ha b hb e => ?_⟩
          · exact nodup_map (fun a b e => by simpa using e) m1
          · obtain ⟨i, hi, _, l', rfl, _⟩ := (h2 a).1 ha
            obtain ⟨m, _, rfl⟩ := List.mem_map.1 hb
            have := List.append_inj' e rfl
            have := this.2
            simp at this; omega
        · rw [List.mem_append, h2 l]
          constructor
          · rintro (⟨i, hi, a, b⟩ | h)
            · exact ⟨i, by omega, a, b⟩
            · obtain ⟨m, hm, rfl⟩ := List.mem_map.1 h
              exact ⟨k, by omega, hp, m, rfl, (m2 m).1 hm⟩
          · rintro ⟨i, hi, a, l', rfl, b⟩
            by_cases e : i = k
            · subst e; exact .inr (List.mem_map.2 ⟨l', (m2 l').2 b, rfl⟩)
            · exact .inl ⟨i, by omega, a, l', rfl, b⟩
      · refine ⟨L, h1, fun l => ?_, by rw [if_neg hp, h3, Nat.add_zero]⟩
        rw [h2 l]
        constructor
        · rintro ⟨i, hi, a, b⟩; exact ⟨i, by omega, a, b⟩
        · rintro ⟨i, hi, a, b⟩
          by_cases e : i = k
          · subst e; exact absurd a hp
          · exact ⟨i, by omega, a, b⟩
  obtain ⟨L, h1, h2, h3⟩ := key n (Nat.le_refl _)
  refine ⟨L, h1, fun l => ?_, h3⟩
  rw [h2 l]
  constructor
  · rintro ⟨i, hi, a, l', rfl, b⟩
    exact (lin_snoc hl).2 ⟨hi, a, b⟩
  · intro hL
    obtain ⟨i0, hi0, hS0⟩ := hne
    have hnil : l ≠ [] := fun e => by have := (hL.mem i0).2 ⟨hi0, hS0⟩; rw [e] at this; cases this
    have e := (List.dropLast_concat_getLast hnil).symm
    rw [e] at hL ⊢
    obtain ⟨a, b, c⟩ := (lin_snoc hl).1 hL
    exact ⟨_, a, b, _, rfl, c⟩
theorem cnt_first {n : Nat} {lt : Nat → Nat → Bool} (hl : Strict lt) {S : Nat → Bool} (hne : ∃ i, i < n ∧ S i = true) {f : Nat → Nat} (hf : ∀ i, i < n → firstB n lt S i = true → Cnt n lt (del S i) (f i)) : Cnt n lt S (sm n (firstB n lt S) f) := by
  have key : ∀ k, k ≤ n → ∃ L : List (List Nat), L.Nodup ∧ (∀ l, l ∈ L ↔ ∃ i, i < k ∧ firstB n lt S i = true ∧ ∃ l', l = i :: l' ∧ Lin n lt (del S i) l') ∧ L.length = sm k (firstB n lt S) f := by
    intro k
    induction k with
    | zero => intro _; exact ⟨[], List.nodup_nil, fun l => ⟨fun h => (by cases h), fun ⟨i, hi, _⟩ => (by omega)⟩, rfl⟩
    | succ k ih =>
      intro hk
      obtain ⟨L, h1, h2, h3⟩ := ih (by omega)
      simp only [sm]
      by_cases hp : firstB n lt S k = true
      · obtain ⟨M, m1, m2, m3⟩ := hf k (by omega) hp
        refine ⟨L ++ M.map (k :: ·), ?_, fun l => ?_, by rw [if_pos hp, List.length_append, List.length_map, h3, m3]⟩
        · rw [List.nodup_append]
          refine ⟨h1, ?_, fun a ha b hb e => ?_⟩
          · exact nodup_map (fun a b e => by simpa using e) m1
          · obtain ⟨i, hi, _, l', rfl, _⟩ := (h2 a).1 ha
            obtain ⟨m, _, rfl⟩ := List.mem_map.1 hb
            have := (List.cons.inj e).1
            omega
        · rw [List.mem_append, h2 l]
          constructor
          · rintro (⟨i, hi, a, b⟩ | h)
            · exact ⟨i, by omega, a, b⟩
            · obtain ⟨m, hm, rfl⟩ := List.mem_map.1 h
              exact ⟨k, by omega, hp, m, rfl, (m2 m).1 hm⟩
          · rintro ⟨i, hi, a, l', rfl, b⟩
            by_cases e : i = k
            · subst e; exact .inr (List.mem_map.2 ⟨l', (m2 l').2 b, rfl⟩)
            · exact .inl ⟨i, by omega, a, l', rfl, b⟩
      · refine ⟨L, h1, fun l => ?_, by rw [if_neg hp, h3, Nat.add_zero]⟩
        rw [h2 l]
        constructor
        · rintro ⟨i, hi, a, b⟩; exact ⟨i, by omega, a, b⟩
        · rintro ⟨i, hi, a, b⟩
          by_cases e : i = k
          · subst e; exact absurd a hp
          · exact ⟨i, by omega, a, b⟩
  obtain ⟨L, h1, h2, h3⟩ := key n (Nat.le_refl _)
  refine ⟨L, h1, fun l => ?_, h3⟩
  rw [h2 l]
  constructor
  · rintro ⟨i, hi, a, l', rfl, b⟩
    exact (lin_cons hl).2 ⟨hi, a, b⟩
  · intro hL
    obtain ⟨i0, hi0, hS0⟩ := hne
    cases l with
    | nil => have := (hL.mem i0).2 ⟨hi0, hS0⟩; cases this
    | cons i l' =>
      obtain ⟨a, b, c⟩ := (lin_cons hl).1 hL
      exact ⟨_, a, b, _, rfl, c⟩

/-! ### how many: at least one, at most all, at least all of a set side by side -/
theorem last_exists {n : Nat} {lt : Nat → Nat → Bool} (hl : Strict lt) {S : Nat → Bool} (hne : ∃ i, i < n ∧ S i = true) : ∃ i, i < n ∧ lastB n lt S i = true := by
  obtain ⟨t, ht, hS, hm⟩ := topmost hl n _ S (Nat.le_refl _) hne
  exact ⟨t, ht, lastB_iff.2 ⟨hS, hm⟩⟩
theorem del_cb {n : Nat} {S : Nat → Bool} {i : Nat} (hi : i < n) (hS : S i = true) : cb n (del S i) + 1 = cb n S := cb_erase hi hS
/-- there is a number, by what may stand last -/
theorem cnt_exists {n : Nat} {lt : Nat → Nat → Bool} (hl : Strict lt) : ∀ (m : Nat) (S : Nat → Bool), cb n S ≤ m → ∃ k, Cnt n lt S k := by
  intro m
  induction m with
  | zero =>
    intro S hm
    exact ⟨1, cnt_empty (fun i hi => by
      cases hS : S i with
      | false => rfl
      | true => have := del_cb hi hS; omega)⟩
  | succ m ih =>
    intro S hm
    by_cases hne : ∃ i, i < n ∧ S i = true
    · have hf : ∀ i, ∃ v, (i < n → lastB n lt S i = true → Cnt n lt (del S i) v) := fun i => by
        by_cases h : i < n ∧ lastB n lt S i = true
        · have := del_cb h.1 (lastB_iff.1 h.2).1
          obtain ⟨v, hv⟩ := ih (del S i) (by omega)
          exact ⟨v, fun _ _ => hv⟩
        · exact ⟨0, fun a b => absurd ⟨a, b⟩ h⟩
      exact ⟨_, cnt_last hl hne (f := fun i => Classical.choose (hf i)) (fun i a b => Classical.choose_spec (hf i) a b)⟩
    · exact ⟨1, cnt_empty (fun i hi => by
        cases hS : S i with
        | false => rfl
        | true => exact absurd ⟨i, hi, hS⟩ hne)⟩
def fact' : Nat → Nat
  | 0 => 1
  | n + 1 => (n + 1) * fact' n
/-- what a proof by what may stand last has at hand -/
theorem cnt_cases {n : Nat} {lt : Nat → Nat → Bool} (hl : Strict lt) {S : Nat → Bool} {k : Nat} (h : Cnt n lt S k) :
    ((∀ i, i < n → S i = false) ∧ k = 1) ∨ ((∃ i, i < n ∧ S i = true) ∧ ∃ f : Nat → Nat, (∀ i, i < n → lastB n lt S i = true → Cnt n lt (del S i) (f i)) ∧ k = sm n (lastB n lt S) f) := by
  by_cases hne : ∃ i, i < n ∧ S i = true
  · refine .inr ⟨hne, ?_⟩
    have hf : ∀ i, ∃ v, Cnt n lt (del S i) v := fun i => cnt_exists hl _ _ (Nat.le_refl _)
    exact ⟨fun i => Classical.choose (hf i), fun i _ _ => Classical.choose_spec (hf i), h.one (cnt_last hl hne (fun i _ _ => Classical.choose_spec (hf i)))⟩
  · have hno : ∀ i, i < n → S i = false := fun i hi => by
      cases hS : S i with
      | false => rfl
      | true => exact absurd ⟨i, hi, hS⟩ hne
    exact .inl ⟨hno, h.one (cnt_empty hno)⟩
theorem cnt_pos {n : Nat} {lt : Nat → Nat → Bool} (hl : Strict lt) : ∀ (m : Nat) (S : Nat → Bool) (k : Nat), cb n S ≤ m → Cnt n lt S k → 1 ≤ k := by
  intro m
  induction m with
  | zero =>
    intro S k hm h
    rcases cnt_cases hl h with ⟨_, rfl⟩ | ⟨⟨i, hi, hS⟩, _⟩
    · exact Nat.le_refl _
    · have := del_cb hi hS; omega
  | succ m ih =>
    intro S k hm h
    rcases cnt_cases hl h with ⟨_, rfl⟩ | ⟨hne, f, hf, rfl⟩
    · exact Nat.le_refl _
    · obtain ⟨i, hi, hL⟩ := last_exists hl hne
      have h1 := del_cb hi (lastB_iff.1 hL).1
      have := ih _ _ (by omega) (hf i hi hL)
      exact Nat.le_trans this (sm_ge hi hL)
theorem cnt_le_fact {n : Nat} {lt : Nat → Nat → Bool} (hl : Strict lt) : ∀ (m : Nat) (S : Nat → Bool) (k : Nat), cb n S = m → Cnt n lt S k → k ≤ fact' m := by
  intro m
  induction m with
  | zero =>
    intro S k hm h
    rcases cnt_cases hl h with ⟨_, rfl⟩ | ⟨⟨i, hi, hS⟩, _⟩
    · exact Nat.le_refl _
    · have := del_cb hi hS; omega
  | succ m ih =>
    intro S k hm h
    rcases cnt_cases hl h with ⟨hno, _⟩ | ⟨_, f, hf, rfl⟩
    · rw [cb_none hno] at hm; omega
    · have := sm_le_mul (n := n) (p := lastB n lt S) (q := S) (f := f) (v := fact' m) (fun i _ h => (lastB_iff.1 h).1) (fun i hi h => by
        have h1 := del_cb hi (lastB_iff.1 h).1
        exact ih _ _ (by omega) (hf i hi h))
      rw [hm] at this
      exact this
theorem cnt_ge_fact {n : Nat} {lt : Nat → Nat → Bool} (hl : Strict lt) : ∀ (m : Nat) (S A : Nat → Bool) (k : Nat), cb n S ≤ m → (∀ i, i < n → A i = true → S i = true) → Anti n lt A → Cnt n lt S k → fact' (cb n A) ≤ k := by
  intro m
  induction m with
  | zero =>
    intro S A k hm hA _ h
    have : cb n A = 0 := by have := cb_mono hA; omega
    rw [this]
    exact cnt_pos hl _ S k (Nat.le_refl _) h
  | succ m ih =>
    intro S A k hm hA ha h
    rcases cnt_cases hl h with ⟨hno, rfl⟩ | ⟨hne, f, hf, rfl⟩
    · have : cb n A = 0 := cb_none (fun i hi => by
        cases hAi : A i with
        | false => rfl
        | true => have := hA i hi hAi; rw [hno i hi] at this; cases this)
      rw [this]; exact Nat.le_refl _
    · by_cases hx : ∃ i, i < n ∧ lastB n lt S i = true ∧ A i = false
      · obtain ⟨i, hi, hL, hAi⟩ := hx
        have h1 := del_cb hi (lastB_iff.1 hL).1
        have := ih (del S i) A (f i) (by omega) (fun j hj hAj => del_iff.2 ⟨hA j hj hAj, fun e => by rw [e, hAi] at hAj; cases hAj⟩) ha (hf i hi hL)
        exact Nat.le_trans this (sm_ge hi hL)
      · have hall : ∀ i, i < n → lastB n lt S i = true → A i = true := fun i hi hL => by
          cases hAi : A i with
          | true => rfl
          | false => exact absurd ⟨i, hi, hL, hAi⟩ hx
        -- each of A stands last
        have hAL : ∀ i, i < n → A i = true → lastB n lt S i = true := fun i hi hAi => by
          refine lastB_iff.2 ⟨hA i hi hAi, fun j hj hSj => ?_⟩
          cases hlt : lt i j with
          | false => rfl
          | true =>
            obtain ⟨t, ht, hSt, hmx⟩ := topmost hl n _ (fun x => S x && lt i x) (Nat.le_refl _) ⟨j, hj, by rw [hSj, hlt]; rfl⟩
            simp only [Bool.and_eq_true] at hSt
            have hLt : lastB n lt S t = true := lastB_iff.2 ⟨hSt.1, fun y hy hSy => by
              cases hty : lt t y with
              | false => rfl
              | true =>
                have := hmx y hy (by rw [hSy, hl.tr i t y hSt.2 hty]; rfl)
                rw [hty] at this; exact this⟩
            have := ha i t hi ht hAi (hall t ht hLt)
            rw [hSt.2] at this; cases this
        by_cases hA0 : cb n A = 0
        · rw [hA0]
          exact cnt_pos hl _ S _ (Nat.le_refl _) h
        · obtain ⟨a, ha0⟩ : ∃ a, cb n A = a + 1 := ⟨cb n A - 1, by omega⟩
          have := sm_ge_mul (n := n) (p := lastB n lt S) (q := A) (f := f) (v := fact' a) hAL (fun i hi hAi => by
            have h1 := del_cb hi (hA i hi hAi)
            have h2 := del_cb hi hAi
            have := ih (del S i) (del A i) (f i) (by omega) (fun j hj hj2 => del_iff.2 ⟨hA j hj (del_iff.1 hj2).1, (del_iff.1 hj2).2⟩) (fun x y hx hy h1 h2 => ha x y hx hy (del_iff.1 h1).1 (del_iff.1 h2).1) (hf i hi (hAL i hi hAi))
            rw [show cb n (del A i) = a by omega] at this
            exact this)
          rw [ha0] at this ⊢
          exact this
/-- things of which no two stand side by side have one row -/
theorem cnt_chain {n : Nat} {lt : Nat → Nat → Bool} (hl : Strict lt) : ∀ (m : Nat) (S : Nat → Bool) (k : Nat), cb n S ≤ m → (∀ i j, i < n → j < n → S i = true → S j = true → i ≠ j → lt i j = true ∨ lt j i = true) → Cnt n lt S k → k = 1 := by
  intro m
  induction m with
  | zero =>
    intro S k hm _ h
    rcases cnt_cases hl h with ⟨_, e⟩ | ⟨⟨i, hi, hS⟩, _⟩
    · exact e
    · have := del_cb hi hS; omega
  | succ m ih =>
    intro S k hm hch h
    rcases cnt_cases hl h with ⟨_, e⟩ | ⟨hne, f, hf, rfl⟩
    · exact e
    · obtain ⟨i, hi, hL⟩ := last_exists hl hne
      have h1 := del_cb hi (lastB_iff.1 hL).1
      have e1 := ih (del S i) (f i) (by omega) (fun a b ha hb h1 h2 => hch a b ha hb (del_iff.1 h1).1 (del_iff.1 h2).1) (hf i hi hL)
      have honly : ∀ j, j < n → lastB n lt S j = true → j = i := fun j hj hLj => by
        by_cases e : j = i
        · exact e
        · have a1 := (lastB_iff.1 hL).2 j hj (lastB_iff.1 hLj).1
          have a2 := (lastB_iff.1 hLj).2 i hi (lastB_iff.1 hL).1
          rcases hch i j hi hj (lastB_iff.1 hL).1 (lastB_iff.1 hLj).1 (fun h => e h.symm) with h | h
          · rw [a1] at h; cases h
          · rw [a2] at h; cases h
      have hle := sm_le_mul (n := n) (p := lastB n lt S) (q := fun j => j == i) (f := f) (v := 1) (fun j hj h => by simp [honly j hj h]) (fun j hj h => by rw [honly j hj h, e1]; exact Nat.le_refl _)
      have hone : cb n (fun j => j == i) ≤ 1 := by
        have := pigeon_all (n := n) (w := 1) (A := fun j => j == i) (f := fun _ => 0) (fun _ _ _ => by omega) (fun a b _ _ h1 h2 _ => by simp at h1 h2; omega)
        exact this
      have hge := sm_ge (f := f) hi hL
      omega
/-! ### a step more -/
/-- lt' is lt with a step more from a to b -/
def Step (lt lt' : Nat → Nat → Bool) (a b : Nat) : Prop := ∀ i j, lt' i j = true ↔ lt i j = true ∨ ((i = a ∨ lt i a = true) ∧ (j = b ∨ lt b j = true))
theorem idx_ne {l : List Nat} {x y : Nat} (hx : x ∈ l) (hy : y ∈ l) (hne : x ≠ y) : l.idxOf x ≠ l.idxOf y := fun e => by
  have h1 := List.getElem_idxOf (List.idxOf_lt_length_of_mem hx)
  have h2 := List.getElem_idxOf (List.idxOf_lt_length_of_mem hy)
  apply hne
  rw [← h1, ← h2]
  congr 1
theorem lin_step {n : Nat} {lt lt' : Nat → Nat → Bool} {a b : Nat} (hst : Step lt lt' a b) (ha : a < n) (hb : b < n) {S : Nat → Bool} (hSa : S a = true) (hSb : S b = true) {l : List Nat} :
    Lin n lt' S l ↔ Lin n lt S l ∧ l.idxOf a < l.idxOf b := by
  constructor
  · rintro ⟨h1, h2, h3⟩
    refine ⟨⟨h1, h2, fun x y hx hy hxy => h3 x y hx hy ((hst x y).2 (.inl hxy))⟩, h3 a b ((h2 a).2 ⟨ha, hSa⟩) ((h2 b).2 ⟨hb, hSb⟩) ((hst a b).2 (.inr ⟨.inl rfl, .inl rfl⟩))⟩
  · rintro ⟨⟨h1, h2, h3⟩, hab⟩
    refine ⟨h1, h2, fun x y hx hy hxy => ?_⟩
    rcases (hst x y).1 hxy with h | ⟨hxa, hby⟩
    · exact h3 x y hx hy h
    · have p1 : l.idxOf x ≤ l.idxOf a := by
        rcases hxa with rfl | h
        · exact Nat.le_refl _
        · exact Nat.le_of_lt (h3 x a hx ((h2 a).2 ⟨ha, hSa⟩) h)
      have p2 : l.idxOf b ≤ l.idxOf y := by
        rcases hby with rfl | h
        · exact Nat.le_refl _
        · exact Nat.le_of_lt (h3 b y ((h2 b).2 ⟨hb, hSb⟩) hy h)
      omega
theorem filter_len {α : Type} (p : α → Bool) (l : List α) : (l.filter p).length + (l.filter fun x => !p x).length = l.length := by
  induction l with
  | nil => rfl
  | cons a l ih =>
    cases h : p a with
    | true => simp [h]; omega
    | false => simp [h]; omega
/-- EITHER WAY, AND NOT BOTH -/
theorem cnt_parts {n : Nat} {lt lt1 lt2 : Nat → Nat → Bool} {a b : Nat} (h1 : Step lt lt1 a b) (h2 : Step lt lt2 b a) (ha : a < n) (hb : b < n) (hne : a ≠ b) {x y k : Nat}
    (hx : Cnt n lt1 (fun _ => true) x) (hy : Cnt n lt2 (fun _ => true) y) (hk : Cnt n lt (fun _ => true) k) : x + y = k := by
  obtain ⟨L, c1, c2, rfl⟩ := hk
  have ex : x = (L.filter fun l => decide (l.idxOf a < l.idxOf b)).length := hx.one ⟨_, c1.filter _, fun l => by
    rw [List.mem_filter, c2 l, lin_step h1 ha hb rfl rfl, decide_eq_true_eq], rfl⟩
  have ey : y = (L.filter fun l => !decide (l.idxOf a < l.idxOf b)).length := hy.one ⟨_, c1.filter _, fun l => by
    rw [List.mem_filter, c2 l, lin_step h2 hb ha rfl rfl]
    constructor
    · rintro ⟨hL, h⟩
      refine ⟨hL, ?_⟩
      have := idx_ne ((hL.mem a).2 ⟨ha, rfl⟩) ((hL.mem b).2 ⟨hb, rfl⟩) hne
      simp at h; omega
    · rintro ⟨hL, h⟩
      refine ⟨hL, ?_⟩
      simp; omega, rfl⟩
  rw [ex, ey, filter_len]
theorem Cnt.congr {n : Nat} {lt lt' : Nat → Nat → Bool} (h : ∀ i j, lt i j = lt' i j) {S S' : Nat → Bool} (hS : ∀ i, i < n → S i = S' i) {k : Nat} (hk : Cnt n lt S k) : Cnt n lt' S' k := by
  have e : lt = lt' := funext fun i => funext fun j => h i j
  subst e
  obtain ⟨L, a, b, c⟩ := hk
  refine ⟨L, a, fun l => ?_, c⟩
  rw [b l]
  constructor
  · rintro ⟨h1, h2, h3⟩
    exact ⟨h1, fun x => by rw [h2 x]; exact ⟨fun h => ⟨h.1, by rw [← hS x h.1]; exact h.2⟩, fun h => ⟨h.1, by rw [hS x h.1]; exact h.2⟩⟩, h3⟩
  · rintro ⟨h1, h2, h3⟩
    exact ⟨h1, fun x => by rw [h2 x]; exact ⟨fun h => ⟨h.1, by rw [hS x h.1]; exact h.2⟩, fun h => ⟨h.1, by rw [← hS x h.1]; exact h.2⟩⟩, h3⟩
/-- a step that is there already changes nothing -/
theorem step_same {lt lt' : Nat → Nat → Bool} (hl : Strict lt) {a b : Nat} (h : Step lt lt' a b) (hab : lt a b = true) : ∀ i j, lt i j = lt' i j := fun i j => by
  rw [Bool.eq_iff_iff, h i j]
  constructor
  · exact .inl
  · rintro (h | ⟨h1, h2⟩)
    · exact h
    · have h3 : lt i b = true := by
        rcases h1 with rfl | h1
        · exact hab
        · exact hl.tr _ _ _ h1 hab
      rcases h2 with rfl | h2
      · exact h3
      · exact hl.tr _ _ _ h3 h2

theorem orAdd (a b : Nat) : (a ||| b) + (a &&& b) = a + b := by
  induction a using Nat.strongRecOn generalizing b with
  | _ a ih =>
    by_cases h0 : a = 0
    · subst h0; simp
    · have h := ih (a / 2) (by omega) (b / 2)
      rw [← Nat.or_div_two, ← Nat.and_div_two] at h
      have h1 : (a ||| b) % 2 + (a &&& b) % 2 = a % 2 + b % 2 := by
        have e1 : (a ||| b) % 2 = (a % 2 ||| b % 2) := by rw [Nat.or_mod_two_pow (n := 1)]
        have e2 : (a &&& b) % 2 = (a % 2 &&& b % 2) := by rw [Nat.and_mod_two_pow (n := 1)]
        rw [e1, e2]
        rcases Nat.mod_two_eq_zero_or_one a with x | x <;> rcases Nat.mod_two_eq_zero_or_one b with y | y <;> rw [x, y] <;> rfl
      omega
/-! ### sets as numbers -/
theorem sub_bit {s i : Nat} (h : s.testBit i = true) (j : Nat) : (s - 2 ^ i).testBit j = del s.testBit i j := by
  have e : s - 2 ^ i = s ^^^ 2 ^ i := by
    have h1 : (s ^^^ 2 ^ i) &&& 2 ^ i = 0 := by
      apply Nat.eq_of_testBit_eq
      intro j
      rw [Nat.testBit_and, Nat.testBit_xor, Nat.testBit_two_pow, Nat.zero_testBit]
      by_cases e : i = j
      · subst e; rw [h]; simp
      · simp [e]
    have h2 : (s ^^^ 2 ^ i) ||| 2 ^ i = s := by
      apply Nat.eq_of_testBit_eq
      intro j
      rw [Nat.testBit_or, Nat.testBit_xor, Nat.testBit_two_pow]
      by_cases e : i = j
      · subst e; rw [h]; simp
      · simp [e]
    have h3 := orAdd (s ^^^ 2 ^ i) (2 ^ i)
    rw [h1, h2] at h3
    omega
  rw [e, Nat.testBit_xor, Nat.testBit_two_pow]
  unfold del
  by_cases e : i = j
  · subst e; rw [h]; simp
  · have : (j != i) = true := by simp; exact fun e' => e e'.symm
    simp [e, this]
theorem pow_le_of_bit {s i : Nat} (h : s.testBit i = true) : 2 ^ i ≤ s := Nat.ge_two_pow_of_testBit h
def lastM (c : List Nat) (s i : Nat) : Bool := s.testBit i && (row c i &&& s == 0)
theorem lastM_eq {c : List Nat} {n s : Nat} (hs : s < 2 ^ n) (i : Nat) : lastM c s i = lastB n (lt c) s.testBit i := by
  rw [Bool.eq_iff_iff, lastB_iff]
  unfold lastM
  rw [Bool.and_eq_true, beq_iff_eq, and_zero_iff]
  constructor
  · rintro ⟨h1, h2⟩
    refine ⟨h1, fun j _ hb => ?_⟩
    cases hlt : lt c i j with
    | false => rfl
    | true => rw [h2 j hlt] at hb; cases hb
  · rintro ⟨h1, h2⟩
    refine ⟨h1, fun j hj => ?_⟩
    cases hb : s.testBit j with
    | false => rfl
    | true => have := h2 j (lt_of_testBit hs hb) hb; unfold lt at this; rw [hj] at this; cases this
def evF (c : List Nat) : Nat → Nat → Nat
  | 0, _ => 1
  | k + 1, s => if s = 0 then 1 else sm c.length (lastM c s) fun i => evF c k (s - 2 ^ i)
theorem evF_cnt {c : List Nat} (ht : Tr c) (k : Nat) : ∀ s, s < 2 ^ c.length → cnt c.length s ≤ k → Cnt c.length (lt c) s.testBit (evF c k s) := by
  induction k with
  | zero =>
    intro s hs hk
    refine cnt_empty (fun i hi => ?_)
    cases hb : s.testBit i with
    | false => rfl
    | true => have := cnt_lt c.length 0 s (fun j h => by simp at h) i hi hb (by simp); omega
  | succ k ih =>
    intro s hs hk
    simp only [evF]
    by_cases h0 : s = 0
    · rw [if_pos h0, h0]; exact cnt_empty (fun i _ => by simp)
    · rw [if_neg h0]
      have hne : ∃ i, i < c.length ∧ s.testBit i = true := by
        obtain ⟨i, hi⟩ := Nat.exists_testBit_of_ne_zero h0
        exact ⟨i, lt_of_testBit hs hi, hi⟩
      have e : lastM c s = lastB c.length (lt c) s.testBit := funext fun i => lastM_eq hs i
      rw [e]
      refine cnt_last (strict_of ht) hne (fun i hi hL => ?_)
      have hb := (lastB_iff.1 hL).1
      have hle := pow_le_of_bit hb
      refine Cnt.congr (fun _ _ => rfl) (S := (s - 2 ^ i).testBit) (fun j _ => sub_bit hb j) (ih (s - 2 ^ i) (Nat.lt_of_le_of_lt (Nat.sub_le _ _) hs) ?_)
      have h1 := del_cb (n := c.length) (S := s.testBit) hi hb
      rw [cb_cnt] at hk ⊢
      rw [cb_congr (fun j _ => sub_bit hb j)]
      omega
def ev (c : List Nat) (s : Nat) : Nat := evF c 12 s
theorem ev_cnt {c : List Nat} (ht : Tr c) (hn : c.length ≤ 12) {s : Nat} (hs : s < 2 ^ c.length) : Cnt c.length (lt c) s.testBit (ev c s) :=
  evF_cnt ht 12 s hs (by have := cnt_le c.length s; omega)
theorem ev_zero (c : List Nat) : ev c 0 = 1 := by simp [ev, evF]
theorem ev_rec {c : List Nat} (ht : Tr c) (hn : c.length ≤ 12) {s : Nat} (hs : s < 2 ^ c.length) (h0 : s ≠ 0) : ev c s = sm c.length (lastM c s) fun i => ev c (s - 2 ^ i) := by
  show evF c (11 + 1) s = _
  simp only [evF]
  rw [if_neg h0]
  apply sm_congr
  intro i hi hL
  rw [lastM_eq hs] at hL
  have hb := (lastB_iff.1 hL).1
  have hle := pow_le_of_bit hb
  have h1 := del_cb (n := c.length) (S := s.testBit) hi hb
  have h2 : cnt c.length (s - 2 ^ i) ≤ 11 := by
    rw [cb_cnt, cb_congr (fun j _ => sub_bit hb j)]
    have := cnt_le c.length s
    rw [cb_cnt] at this
    omega
  exact (evF_cnt ht 11 _ (Nat.lt_of_le_of_lt (Nat.sub_le _ _) hs) h2).one (ev_cnt ht hn (Nat.lt_of_le_of_lt (Nat.sub_le _ _) hs))
theorem fact_mono {a b : Nat} (h : a ≤ b) : fact' a ≤ fact' b := by
  induction b with
  | zero => obtain rfl : a = 0 := by omega
            exact Nat.le_refl _
  | succ b ih =>
    by_cases e : a = b + 1
    · rw [e]; exact Nat.le_refl _
    · have := ih (by omega)
      simp only [fact']
      exact Nat.le_trans this (Nat.le_mul_of_pos_left _ (by omega))
theorem ev_le {c : List Nat} (ht : Tr c) (hn : c.length ≤ 12) {s : Nat} (hs : s < 2 ^ c.length) : ev c s ≤ 479001600 := by
  have h := cnt_le_fact (strict_of ht) _ _ _ rfl (ev_cnt ht hn hs)
  have h2 : cb c.length s.testBit ≤ 12 := by have := cb_le c.length s.testBit; omega
  exact Nat.le_trans h (Nat.le_trans (fact_mono h2) (by decide))
end Go.Proofs.YtfjmealeglbklaaDoor.M
