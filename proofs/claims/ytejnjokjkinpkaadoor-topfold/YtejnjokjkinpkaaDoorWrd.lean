/- Plain mathematics of words some of whose letters may change places: two words are the same when they look alike where all letters are left out but two that may not; what may stand first; the least word. No program text is named. -/
import Derived.Test.YtejnjokjkinpkaaDoorMath
namespace Go.Proofs.YtejnjokjkinpkaaDoor.M

/-- which letters may change places: none with itself, and each with those that may with it -/
structure Fr (f : Nat → Nat → Bool) : Prop where
  self : ∀ a, f a a = false
  sym : ∀ a b, f a b = f b a
/-- a word's letters a and b alone -/
def only (a b : Nat) (w : List Nat) : List Nat := w.filter fun x => x == a || x == b
/-- alike, two letters at a time -/
def Eqv (f : Nat → Nat → Bool) (u v : List Nat) : Prop := ∀ a b, f a b = false → only a b u = only a b v
section
variable {f : Nat → Nat → Bool}
theorem Eqv.refl (u : List Nat) : Eqv f u u := fun _ _ _ => rfl
theorem Eqv.symm {u v : List Nat} (h : Eqv f u v) : Eqv f v u := fun a b e => (h a b e).symm
theorem Eqv.trans {u v w : List Nat} (h : Eqv f u v) (h2 : Eqv f v w) : Eqv f u w := fun a b e => (h a b e).trans (h2 a b e)
theorem only_app (a b : Nat) (u v : List Nat) : only a b (u ++ v) = only a b u ++ only a b v := List.filter_append ..
theorem only_cons (a b x : Nat) (w : List Nat) : only a b (x :: w) = if x = a ∨ x = b then x :: only a b w else only a b w := by
  unfold only
  rw [List.filter_cons]
  by_cases h : x = a ∨ x = b
  · rw [if_pos h, if_pos (by simpa using h)]
  · rw [if_neg h, if_neg (by simpa using h)]
theorem only_nil (a b : Nat) : only a b [] = [] := rfl
theorem only_comm (a b : Nat) (w : List Nat) : only a b w = only b a w := by
  unfold only
  congr 1
  funext x
  exact Bool.or_comm _ _
theorem only_none {a b : Nat} {w : List Nat} (h : ∀ x, x ∈ w → x ≠ a ∧ x ≠ b) : only a b w = [] := by
  unfold only
  rw [List.filter_eq_nil_iff]
  intro x hx
  have := h x hx
  simp [this.1, this.2]
theorem mem_only {a b x : Nat} {w : List Nat} : x ∈ only a b w ↔ x ∈ w ∧ (x = a ∨ x = b) := by
  unfold only
  rw [List.mem_filter]
  simp
theorem Eqv.app {u u' v v' : List Nat} (h : Eqv f u u') (h2 : Eqv f v v') : Eqv f (u ++ v) (u' ++ v') := fun a b e => by rw [only_app, only_app, h a b e, h2 a b e]
theorem Eqv.cons {u v : List Nat} (x : Nat) (h : Eqv f u v) : Eqv f (x :: u) (x :: v) := Eqv.app (Eqv.refl [x]) h
theorem Eqv.tail {u v : List Nat} {x : Nat} (h : Eqv f (x :: u) (x :: v)) : Eqv f u v := fun a b e => by
  have := h a b e
  rw [only_cons, only_cons] at this
  by_cases c : x = a ∨ x = b
  · rw [if_pos c, if_pos c] at this; exact (List.cons.inj this).2
  · rw [if_neg c, if_neg c] at this; exact this
theorem Eqv.mem (hf : Fr f) {u v : List Nat} (h : Eqv f u v) (x : Nat) : x ∈ u ↔ x ∈ v := by
  have e := h x x (hf.self x)
  constructor
  · intro hx
    have : x ∈ only x x u := mem_only.2 ⟨hx, .inl rfl⟩
    rw [e] at this
    exact (mem_only.1 this).1
  · intro hx
    have : x ∈ only x x v := mem_only.2 ⟨hx, .inl rfl⟩
    rw [← e] at this
    exact (mem_only.1 this).1
theorem Eqv.nil (hf : Fr f) {v : List Nat} (h : Eqv f [] v) : v = [] := by
  cases v with
  | nil => rfl
  | cons x r => exact absurd ((h.mem hf x).2 List.mem_cons_self) (List.not_mem_nil)
/-- how often a letter stands in a word -/
theorem Eqv.count (hf : Fr f) {u v : List Nat} (h : Eqv f u v) (x : Nat) : u.count x = v.count x := by
  have e : ∀ w : List Nat, w.count x = (only x x w).length := fun w => by
    induction w with
    | nil => rfl
    | cons y r ih =>
      rw [only_cons, List.count_cons, ih]
      by_cases c : y = x
      · subst c; simp
      · rw [if_neg (by simp [c]), if_neg (by simpa using c)]; rfl
  rw [e, e, h x x (hf.self x)]
theorem Eqv.perm (hf : Fr f) {u v : List Nat} (h : Eqv f u v) : u.Perm v := by
  rw [List.perm_iff_count]
  exact h.count hf
theorem Eqv.length (hf : Fr f) {u v : List Nat} (h : Eqv f u v) : u.length = v.length := (h.perm hf).length_eq
/-- two that may change places do -/
theorem Eqv.swap (hf : Fr f) {a b : Nat} (h : f a b = true) : Eqv f [a, b] [b, a] := fun x y e => by
  have hab : a ≠ b := fun c => by subst c; rw [hf.self] at h; cases h
  simp only [only_cons, only_nil]
  by_cases h1 : a = x ∨ a = y
  · by_cases h2 : b = x ∨ b = y
    · exfalso
      rcases h1 with rfl | rfl
      · rcases h2 with rfl | rfl
        · exact hab rfl
        · rw [h] at e; cases e
      · rcases h2 with rfl | rfl
        · rw [hf.sym, h] at e; cases e
        · exact hab rfl
    · simp [h1, h2]
  · by_cases h2 : b = x ∨ b = y
    · simp [h1, h2]
    · simp [h1, h2]
/-- two that may not do not, but if they are one -/
theorem not_swap {a b : Nat} (h : f a b = false) (u v : List Nat) (hab : a ≠ b) : ¬ Eqv f (u ++ [a, b] ++ v) (u ++ [b, a] ++ v) := fun e => by
  have := e a b h
  simp only [only_app, only_cons, only_nil] at this
  simp at this
  exact hab this.1
/-- a letter that may change places with all of a word stands ahead of it or behind it -/
theorem Eqv.past (hf : Fr f) {c : Nat} {w : List Nat} (h : ∀ x, x ∈ w → f c x = true) : Eqv f (w ++ [c]) (c :: w) := by
  induction w with
  | nil => exact Eqv.refl _
  | cons x r ih =>
    have h1 := ih (fun y hy => h y (List.mem_cons_of_mem _ hy))
    have h2 : Eqv f [x, c] [c, x] := Eqv.swap hf (by rw [hf.sym]; exact h x List.mem_cons_self)
    exact (Eqv.cons x h1).trans (Eqv.app h2 (Eqv.refl r))
/-! ### what may stand first -/
def may (f : Nat → Nat → Bool) (x : Nat) : List Nat → Bool
  | [] => false
  | y :: r => if y = x then true else f x y && may f x r
theorem may_mem {x : Nat} {w : List Nat} (h : may f x w = true) : x ∈ w := by
  induction w with
  | nil => cases h
  | cons y r ih =>
    simp only [may] at h
    by_cases e : y = x
    · subst e; exact List.mem_cons_self
    · rw [if_neg e, Bool.and_eq_true] at h
      exact List.mem_cons_of_mem _ (ih h.2)
theorem may_head (x : Nat) (r : List Nat) : may f x (x :: r) = true := by simp [may]
/-- x may stand first just if it does where all are left out but it and one with which it may not change places -/
theorem may_iff (hf : Fr f) (x : Nat) (w : List Nat) : may f x w = true ↔ ∀ y, f x y = false → (only x y w).head? = some x := by
  induction w with
  | nil =>
    constructor
    · intro h; cases h
    · intro h; have := h x (hf.self x); cases this
  | cons z r ih =>
    simp only [may]
    by_cases e : z = x
    · subst e
      rw [if_pos rfl]
      exact ⟨fun _ y _ => by rw [only_cons, if_pos (.inl rfl)]; rfl, fun _ => rfl⟩
    · rw [if_neg e, Bool.and_eq_true, ih]
      constructor
      · rintro ⟨h1, h2⟩ y hy
        have hzy : z ≠ y := fun c => by subst c; rw [h1] at hy; cases hy
        rw [only_cons, if_neg (fun c => c.elim e hzy)]
        exact h2 y hy
      · intro h
        have h1 : f x z = true := by
          cases c : f x z with
          | true => rfl
          | false =>
            have := h z c
            rw [only_cons, if_pos (.inr rfl)] at this
            exact absurd (Option.some.inj this) e
        refine ⟨h1, fun y hy => ?_⟩
        have hzy : z ≠ y := fun c => by subst c; rw [h1] at hy; cases hy
        have := h y hy
        rwa [only_cons, if_neg (fun c => c.elim e hzy)] at this
theorem Eqv.may (hf : Fr f) {u v : List Nat} (h : Eqv f u v) (x : Nat) : may f x u = may f x v := by
  rw [Bool.eq_iff_iff, may_iff hf, may_iff hf]
  constructor
  · intro k y hy; rw [← h x y hy]; exact k y hy
  · intro k y hy; rw [h x y hy]; exact k y hy
/-- then it is the same word with that letter ahead of all -/
theorem may_front (hf : Fr f) {x : Nat} {w : List Nat} (h : M.may f x w = true) : Eqv f w (x :: w.erase x) := by
  induction w with
  | nil => cases h
  | cons z r ih =>
    simp only [M.may] at h
    by_cases e : z = x
    · subst e; rw [List.erase_cons_head]; exact Eqv.refl _
    · rw [if_neg e, Bool.and_eq_true] at h
      rw [List.erase_cons_tail (by simpa using e)]
      have h1 := Eqv.cons z (ih h.2)
      have h2 : Eqv f [z, x] [x, z] := Eqv.swap hf (by rw [hf.sym]; exact h.1)
      exact h1.trans (Eqv.app h2 (Eqv.refl _))
theorem Eqv.erase (hf : Fr f) {u v : List Nat} (h : Eqv f u v) {x : Nat} (hx : M.may f x u = true) : Eqv f (u.erase x) (v.erase x) := by
  have h1 := may_front hf hx
  have h2 := may_front hf (by rw [← h.may hf]; exact hx : M.may f x v = true)
  exact ((h1.symm.trans h).trans h2).tail
/-! ### the least word -/
/-- the least number below n that does -/
def least (p : Nat → Bool) : Nat → Option Nat
  | 0 => none
  | n + 1 => match least p n with
    | some x => some x
    | none => if p n then some n else none
theorem least_none {p : Nat → Bool} : ∀ {n : Nat}, least p n = none → ∀ y, y < n → p y = false
  | n + 1, h, y, hy => by
    simp only [least] at h
    cases c : least p n with
    | some z => rw [c] at h; cases h
    | none =>
      rw [c] at h
      simp only at h
      by_cases hp : p n = true
      · rw [if_pos hp] at h; cases h
      · by_cases e : y = n
        · subst e; simpa using hp
        · exact least_none c y (by omega)
theorem least_some {p : Nat → Bool} : ∀ {n x : Nat}, least p n = some x → x < n ∧ p x = true ∧ ∀ y, y < x → p y = false
  | n + 1, x, h => by
    simp only [least] at h
    cases c : least p n with
    | some z =>
      rw [c] at h
      obtain rfl : z = x := Option.some.inj h
      obtain ⟨h1, h2, h3⟩ := least_some c
      exact ⟨by omega, h2, h3⟩
    | none =>
      rw [c] at h
      simp only at h
      by_cases hp : p n = true
      · rw [if_pos hp] at h
        obtain rfl : n = x := Option.some.inj h
        refine ⟨by omega, hp, fun y hy => ?_⟩
        exact least_none c y hy
      · rw [if_neg hp] at h; cases h
theorem least_is {p : Nat → Bool} {n x : Nat} (h : x < n) (hp : p x = true) : ∃ z, least p n = some z ∧ z ≤ x := by
  cases c : least p n with
  | none => rw [least_none c x h] at hp; cases hp
  | some z =>
    refine ⟨z, rfl, ?_⟩
    have h3 := (least_some c).2.2
    rcases Nat.lt_or_ge x z with h | h
    · rw [h3 x h] at hp; cases hp
    · exact h
/-- letter by letter the least that may come, of m letters; k: how many yet -/
def lwd (f : Nat → Nat → Bool) (m : Nat) : Nat → List Nat → List Nat
  | 0, _ => []
  | k + 1, w => match least (fun x => M.may f x w) m with
    | some x => x :: lwd f m k (w.erase x)
    | none => []
/-- the least word -/
def lword (f : Nat → Nat → Bool) (m : Nat) (w : List Nat) : List Nat := lwd f m w.length w
theorem lwd_eqv (hf : Fr f) {m : Nat} : ∀ {k : Nat} {w : List Nat}, w.length = k → (∀ x, x ∈ w → x < m) → Eqv f (lwd f m k w) w
  | 0, w, hk, _ => by
    rw [List.length_eq_zero_iff.1 hk]; exact Eqv.refl _
  | k + 1, w, hk, hm => by
    cases w with
    | nil => cases hk
    | cons y r =>
      obtain ⟨x, e, _⟩ := least_is (p := fun x => M.may f x (y :: r)) (hm y List.mem_cons_self) (may_head y r)
      simp only [lwd, e]
      obtain ⟨_, h2, _⟩ := least_some e
      have hx := may_mem h2
      refine (Eqv.cons x (lwd_eqv hf (by rw [List.length_erase_of_mem hx, hk]; rfl) (fun z hz => hm z (List.mem_of_mem_erase hz)))).trans (may_front hf h2).symm
theorem lwd_same (hf : Fr f) {m : Nat} : ∀ {k : Nat} {u v : List Nat}, Eqv f u v → lwd f m k u = lwd f m k v
  | 0, _, _, _ => rfl
  | k + 1, u, v, h => by
    have e : (fun x => M.may f x u) = fun x => M.may f x v := funext fun x => h.may hf x
    simp only [lwd]
    rw [← e]
    cases c : least (fun x => M.may f x u) m with
    | none => rfl
    | some x => simp only; rw [lwd_same hf (h.erase hf (least_some c).2.1)]
theorem lword_eqv (hf : Fr f) {m : Nat} {w : List Nat} (hm : ∀ x, x ∈ w → x < m) : Eqv f (lword f m w) w := lwd_eqv hf rfl hm
/-- words are the same just if their least ones are -/
theorem lword_iff (hf : Fr f) {m : Nat} {u v : List Nat} (hu : ∀ x, x ∈ u → x < m) (hv : ∀ x, x ∈ v → x < m) : Eqv f u v ↔ lword f m u = lword f m v := by
  constructor
  · intro h
    unfold lword
    rw [h.length hf]
    exact lwd_same hf h
  · intro h
    exact ((lword_eqv hf hu).symm.trans (by rw [h]; exact Eqv.refl _)).trans (lword_eqv hf hv)
/-- a comes ahead of b, or is it, by the first place at which they differ -/
def Lex : List Nat → List Nat → Prop
  | [], _ => True
  | x :: r, y :: s => x < y ∨ (x = y ∧ Lex r s)
  | _ :: _, [] => False
theorem lwd_lex (hf : Fr f) {m : Nat} : ∀ {k : Nat} {w u : List Nat}, w.length = k → (∀ x, x ∈ w → x < m) → Eqv f u w → Lex (lwd f m k w) u
  | 0, _, _, _, _, _ => trivial
  | k + 1, w, u, hk, hm, h => by
    cases u with
    | nil => rw [h.nil hf] at hk; cases hk
    | cons y s =>
      have hy : M.may f y w = true := by rw [← h.may hf]; exact may_head y s
      obtain ⟨x, e, hx⟩ := least_is (p := fun x => M.may f x w) (hm y (may_mem hy)) hy
      simp only [lwd, e, Lex]
      obtain ⟨_, h2, _⟩ := least_some e
      by_cases c : x = y
      · subst c
        refine .inr ⟨rfl, lwd_lex hf (by rw [List.length_erase_of_mem (may_mem h2), hk]; rfl) (fun z hz => hm z (List.mem_of_mem_erase hz)) ?_⟩
        have := h.erase hf (x := x) (may_head x s)
        rwa [List.erase_cons_head] at this
      · exact .inl (by omega)
/-- none that is the same comes ahead of the least -/
theorem lword_lex (hf : Fr f) {m : Nat} {w u : List Nat} (hm : ∀ x, x ∈ w → x < m) (h : Eqv f u w) : Lex (lword f m w) u := lwd_lex hf rfl hm h
/-- no greater one stands first of two neighbours that may change places -/
theorem lex_swap (hf : Fr f) {m : Nat} {w : List Nat} (hm : ∀ x, x ∈ w → x < m) {p s : List Nat} {a b : Nat} (h : lword f m w = p ++ a :: b :: s) (hab : f a b = true) : a ≤ b := by
  have h1 := lword_eqv hf hm
  rw [h] at h1
  have h2 : Eqv f (p ++ b :: a :: s) w := by
    refine Eqv.trans ?_ h1
    exact Eqv.app (Eqv.refl p) (Eqv.app (Eqv.swap hf (by rw [hf.sym]; exact hab)) (Eqv.refl s))
  have h3 := lword_lex hf hm h2
  rw [h] at h3
  clear h h1 h2
  induction p with
  | nil =>
    simp only [List.nil_append, Lex] at h3
    rcases h3 with h | h
    · omega
    · omega
  | cons x p ih =>
    simp only [List.cons_append, Lex] at h3
    rcases h3 with h | h
    · omega
    · exact ih h.2
end
end Go.Proofs.YtejnjokjkinpkaaDoor.M
