/- Plain mathematics of words: two letters at a time below so many; two neighbours the other way round. No program text is named. -/
import Derived.Test.YtejnjokjkinpkaaDoorWst
namespace Go.Proofs.YtejnjokjkinpkaaDoor.M

/-- it is enough to look at letters that there are, the greater one first -/
theorem eqv_pairs {f : Nat → Nat → Bool} (hf : Fr f) {m : Nat} {u v : List Nat} (hu : ∀ x, x ∈ u → x < m) (hv : ∀ x, x ∈ v → x < m) : Eqv f u v ↔ ∀ a b, a < m → b ≤ a → f a b = false → only a b u = only a b v := by
  constructor
  · intro h a b _ _ e; exact h a b e
  · intro h a b e
    have one : ∀ w : List Nat, (∀ x, x ∈ w → x < m) → ∀ a b, m ≤ a → only a b w = only b b w := fun w hw a b ha => by
      unfold only
      refine List.filter_congr fun x hx => ?_
      have := hw x hx
      have e : (x == a) = false := by simp; omega
      rw [e, Bool.false_or, Bool.or_self]
    have two : ∀ w : List Nat, (∀ x, x ∈ w → x < m) → ∀ b, m ≤ b → only b b w = [] := fun w hw b hb => only_none fun x hx => by
      have := hw x hx
      exact ⟨by omega, by omega⟩
    by_cases ha : a < m
    · by_cases hb : b < m
      · by_cases c : b ≤ a
        · exact h a b ha c e
        · rw [only_comm a b, only_comm a b]
          exact h b a hb (by omega) (by rw [hf.sym]; exact e)
      · rw [only_comm a b, only_comm a b, one u hu b a (by omega), one v hv b a (by omega)]
        exact h a a ha (Nat.le_refl _) (hf.self a)
    · rw [one u hu a b (by omega), one v hv a b (by omega)]
      by_cases hb : b < m
      · exact h b b hb (Nat.le_refl _) (hf.self b)
      · rw [two u hu b (by omega), two v hv b (by omega)]
/-- a word at two neighbours -/
theorem word_two {w : List Nat} {i : Nat} (h1 : 1 ≤ i) (h : i < w.length) : w = w.take (i - 1) ++ [row w (i - 1), row w i] ++ w.drop (i + 1) := by
  obtain ⟨j, rfl⟩ : ∃ j, i = j + 1 := ⟨i - 1, by omega⟩
  have e1 : w = w.take j ++ w.drop j := (List.take_append_drop _ _).symm
  have e2 : w.drop j = row w j :: w.drop (j + 1) := by
    rw [List.drop_eq_getElem_cons (by omega)]
    unfold row
    rw [List.getElem?_eq_getElem (by omega)]
    rfl
  have e3 : w.drop (j + 1) = row w (j + 1) :: w.drop (j + 1 + 1) := by
    rw [List.drop_eq_getElem_cons (by omega)]
    unfold row
    rw [List.getElem?_eq_getElem (by omega)]
    rfl
  rw [Nat.add_sub_cancel]
  rw [show w.take j ++ [row w j, row w (j + 1)] ++ w.drop (j + 1 + 1) = w.take j ++ (row w j :: row w (j + 1) :: w.drop (j + 1 + 1)) by simp]
  rw [← e3, ← e2]
  exact e1
/-- the two the other way round -/
def swp (w : List Nat) (i : Nat) : List Nat := (w.set i (row w (i - 1))).set (i - 1) (row w i)
theorem swp_length (w : List Nat) (i : Nat) : (swp w i).length = w.length := by simp [swp]
theorem swp_is {w : List Nat} {i : Nat} (h1 : 1 ≤ i) (h : i < w.length) : swp w i = w.take (i - 1) ++ [row w i, row w (i - 1)] ++ w.drop (i + 1) := by
  obtain ⟨j, rfl⟩ : ∃ j, i = j + 1 := ⟨i - 1, by omega⟩
  rw [Nat.add_sub_cancel]
  unfold swp
  rw [Nat.add_sub_cancel]
  apply List.ext_getElem?
  intro k
  have hl : (w.take j).length = j := by rw [List.length_take]; omega
  rw [List.append_assoc]
  by_cases c1 : k < j
  · rw [List.getElem?_append_left (by omega), List.getElem?_set_ne (by omega), List.getElem?_set_ne (by omega), List.getElem?_take, if_pos c1]
  · rw [List.getElem?_append_right (by omega), hl]
    by_cases c2 : k = j
    · subst c2
      rw [List.getElem?_set_self (by rw [List.length_set]; omega), Nat.sub_self]
      rfl
    · by_cases c3 : k = j + 1
      · subst c3
        rw [List.getElem?_set_ne (by omega), List.getElem?_set_self (by omega), show j + 1 - j = 1 by omega]
        rfl
      · rw [List.getElem?_set_ne (by omega), List.getElem?_set_ne (by omega), List.getElem?_append_right (by simp; omega), List.getElem?_drop]
        congr 1
        simp
        omega
/-- with two neighbours the other way round it is the same word just if they may change places, or are one letter -/
theorem swp_iff {f : Nat → Nat → Bool} (hf : Fr f) {w : List Nat} {i : Nat} (h1 : 1 ≤ i) (h : i < w.length) : Eqv f w (swp w i) ↔ row w i = row w (i - 1) ∨ f (row w i) (row w (i - 1)) = true := by
  rw [swp_is h1 h]
  have hw := word_two h1 h
  constructor
  · intro e
    by_cases c : row w i = row w (i - 1)
    · exact .inl c
    · cases d : f (row w i) (row w (i - 1)) with
      | true => exact .inr rfl
      | false =>
        exfalso
        refine not_swap (f := f) (a := row w (i - 1)) (b := row w i) (by rw [hf.sym]; exact d) (w.take (i - 1)) (w.drop (i + 1)) (fun x => c x.symm) ?_
        rw [← hw]
        exact e
  · rintro (e | e)
    · rw [← e]
      have hw2 := hw
      rw [← e] at hw2
      rw [← hw2]
      exact Eqv.refl _
    · have : Eqv f (w.take (i - 1) ++ [row w (i - 1), row w i] ++ w.drop (i + 1)) (w.take (i - 1) ++ [row w i, row w (i - 1)] ++ w.drop (i + 1)) :=
        Eqv.app (Eqv.app (Eqv.refl _) (Eqv.swap hf (by rw [hf.sym]; exact e))) (Eqv.refl _)
      rw [← hw] at this
      exact this
end Go.Proofs.YtejnjokjkinpkaaDoor.M
