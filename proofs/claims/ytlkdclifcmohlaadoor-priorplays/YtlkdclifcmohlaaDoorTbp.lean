/- Plain mathematics of tables told in one row: where a number stands. No program text is named. -/
import Derived.Test.YtlkdclifcmohlaaDoorTbm
namespace Go.Proofs.YtlkdclifcmohlaaDoor.M
theorem place_lt {n a b c : Nat} (ha : a < n) (hb : b < n) (hc : c < n) : (a * n + b) * n + c < n * n * n := by
  have h1 : a * n + b < n * n := by
    have : a * n + n ≤ n * n := by rw [← Nat.succ_mul]; exact Nat.mul_le_mul_right _ ha
    omega
  have h2 : (a * n + b) * n + n ≤ n * n * n := by rw [← Nat.succ_mul]; exact Nat.mul_le_mul_right _ h1
  omega
theorem two_inj {n p q p' q' : Nat} (hq : q < n) (hq' : q' < n) (e : p * n + q = p' * n + q') : p = p' ∧ q = q' := by
  have h1 : (p * n + q) / n = p := by rw [Nat.mul_comm, Nat.mul_add_div (by omega), Nat.div_eq_of_lt hq]; rfl
  have h2 : (p' * n + q') / n = p' := by rw [Nat.mul_comm, Nat.mul_add_div (by omega), Nat.div_eq_of_lt hq']; rfl
  have h3 : p = p' := by rw [← h1, ← h2, e]
  subst h3
  exact ⟨rfl, by omega⟩
theorem place_inj {n a b c a' b' c' : Nat} (hb : b < n) (hc : c < n) (hb' : b' < n) (hc' : c' < n) (e : (a * n + b) * n + c = (a' * n + b') * n + c') : a = a' ∧ b = b' ∧ c = c' := by
  obtain ⟨h1, h2⟩ := two_inj hc hc' e
  obtain ⟨h3, h4⟩ := two_inj hb hb' h1
  exact ⟨h3, h4, h2⟩
def upN (f : Nat → Nat) (i v : Nat) : Nat → Nat := fun j => if j = i then v else f j
theorem upN_same (f : Nat → Nat) (i v : Nat) : upN f i v i = v := if_pos rfl
theorem upN_other (f : Nat → Nat) {i j : Nat} (v : Nat) (h : j ≠ i) : upN f i v j = f j := if_neg h
/-- a row of numbers is a table's -/
def Row3 (n : Nat) (f : Nat → Nat) (k : Kt) : Prop := ∀ a b c, a < n → b < n → c < n → f ((a * n + b) * n + c) = k a b c
theorem Row3.zero (n : Nat) : Row3 n (fun _ => 0) k0 := fun _ _ _ _ _ _ => rfl
theorem Row3.set {n : Nat} {f : Nat → Nat} {k k' : Kt} (h : Row3 n f k) {a b c v : Nat} (hb : b < n) (hc : c < n) (hv : k' a b c = v) (ho : ∀ x y z, x < n → y < n → z < n → ¬ (x = a ∧ y = b ∧ z = c) → k' x y z = k x y z) : Row3 n (upN f ((a * n + b) * n + c) v) k' := fun x y z hx hy hz => by
  by_cases e : x = a ∧ y = b ∧ z = c
  · obtain ⟨rfl, rfl, rfl⟩ := e
    rw [upN_same, hv]
  · rw [upN_other _ _ (fun q => e (place_inj hy hz hb hc q)), h x y z hx hy hz, ho x y z hx hy hz e]
theorem Row3.congr {n : Nat} {f : Nat → Nat} {k k' : Kt} (h : Row3 n f k) (e : ∀ a b c, a < n → b < n → c < n → k a b c = k' a b c) : Row3 n f k' := fun a b c ha hb hc => by rw [h a b c ha hb hc, e a b c ha hb hc]
/-- a telling that has come to number (ob, ow) -/
def tlD (k : Kt) (f t n ob ow : Nat) : Kt := fun a b w => if a = t ∧ (b < ob ∨ (b = ob ∧ w < ow)) then tlJ k f t n a b w else k a b w
/-- what is told there -/
def tlN (k : Kt) (f t ob ow : Nat) : Nat := if ob = t ∧ k f ob ow < k f f ow then k f f ow else k f ob ow
theorem tlN_val (k : Kt) {f t n ob : Nat} (ow : Nat) (h : ob < n) : tlJ k f t n t ob ow = Nat.max (k t ob ow) (tlN k f t ob ow) := by
  unfold tlJ tlN tl1
  rw [if_pos ⟨rfl, h⟩]
  by_cases e : ob = t
  · subst e
    rw [if_pos ⟨rfl, rfl⟩]
    by_cases e2 : k f ob ow < k f f ow
    · rw [if_pos ⟨rfl, e2⟩]
      show max (max _ _) _ = max _ _
      omega
    · rw [if_neg (fun x => e2 x.2)]
      show max (max _ _) _ = max _ _
      omega
  · rw [if_neg (fun x => e x.2), if_neg (fun x => e x.1)]
theorem Row3.tl_zero {n : Nat} {g : Nat → Nat} {k : Kt} (h : Row3 n g k) (f t : Nat) : Row3 n g (tlD k f t n 0 0) := h.congr fun a b c _ _ _ => by
  unfold tlD
  rw [if_neg (fun x => by have := x.2; omega)]
theorem Row3.tl_row {n : Nat} {g : Nat → Nat} {k : Kt} {f t ob : Nat} (h : Row3 n g (tlD k f t n ob n)) : Row3 n g (tlD k f t n (ob + 1) 0) := h.congr fun a b c _ _ hc => by
  unfold tlD
  by_cases e : a = t ∧ (b < ob ∨ (b = ob ∧ c < n))
  · rw [if_pos e, if_pos ⟨e.1, by have := e.2; omega⟩]
  · rw [if_neg e, if_neg (fun x => e ⟨x.1, by have := x.2; omega⟩)]
theorem Row3.tl_end {n : Nat} {g : Nat → Nat} {k : Kt} {f t : Nat} (h : Row3 n g (tlD k f t n n 0)) : Row3 n g (tlJ k f t n) := h.congr fun a b c _ hb _ => by
  unfold tlD
  by_cases e : a = t
  · rw [if_pos ⟨e, .inl hb⟩]
  · rw [if_neg (fun x => e x.1), tlJ_other k n b c e]
theorem tlD_at (k : Kt) (f t n ob ow : Nat) : tlD k f t n ob ow t ob ow = k t ob ow := by
  unfold tlD
  rw [if_neg (fun x => by have := x.2; omega)]
theorem Row3.tl_same {n : Nat} {g : Nat → Nat} {k : Kt} {f t ob ow : Nat} (h : Row3 n g (tlD k f t n ob ow)) (hb : ob < n) (hx : ¬ k t ob ow < tlN k f t ob ow) : Row3 n g (tlD k f t n ob (ow + 1)) := h.congr fun a b c _ _ _ => by
  by_cases e : a = t ∧ b = ob ∧ c = ow
  · obtain ⟨rfl, rfl, rfl⟩ := e
    rw [tlD_at]
    unfold tlD
    rw [if_pos ⟨rfl, .inr ⟨rfl, Nat.lt_succ_self _⟩⟩, tlN_val k c hb]
    show _ = max _ _
    omega
  · unfold tlD
    by_cases e2 : a = t ∧ (b < ob ∨ (b = ob ∧ c < ow))
    · rw [if_pos e2, if_pos ⟨e2.1, by have := e2.2; omega⟩]
    · rw [if_neg e2, if_neg (fun x => by
        have : ¬ (b = ob ∧ c = ow) := fun y => e ⟨x.1, y.1, y.2⟩
        exact e2 ⟨x.1, by have := x.2; omega⟩)]
theorem Row3.tl_set {n : Nat} {g : Nat → Nat} {k : Kt} {f t ob ow v : Nat} (h : Row3 n g (tlD k f t n ob ow)) (hb : ob < n) (hw : ow < n) (hv : tlN k f t ob ow = v) (hx : k t ob ow < v) : Row3 n (upN g ((t * n + ob) * n + ow) v) (tlD k f t n ob (ow + 1)) := by
  refine h.set hb hw ?_ (fun a b c _ _ _ e => ?_)
  · unfold tlD
    rw [if_pos ⟨rfl, .inr ⟨rfl, Nat.lt_succ_self _⟩⟩, tlN_val k ow hb, hv]
    show max _ _ = _
    omega
  · unfold tlD
    by_cases e2 : a = t ∧ (b < ob ∨ (b = ob ∧ c < ow))
    · rw [if_pos e2, if_pos ⟨e2.1, by have := e2.2; omega⟩]
    · rw [if_neg e2, if_neg (fun x => by
        have : ¬ (b = ob ∧ c = ow) := fun y => e ⟨x.1, y.1, y.2⟩
        exact e2 ⟨x.1, by have := x.2; omega⟩)]
end Go.Proofs.YtlkdclifcmohlaaDoor.M
