/- Plain mathematics of histories: the search for the least good row that keeps in mind from where it found none. No program text is named. -/
import Derived.Test.YtdbejgidgajhlaaWhs
namespace Go.Proofs.Ytdbejgidgajhlaa.M

theorem cnt_more {n done i : Nat} (hi : i < n) (h : done.testBit i = false) : cnt n (done ||| 2 ^ i) = cnt n done + 1 := by
  induction n with
  | zero => omega
  | succ n ih =>
    simp only [cnt]
    by_cases e : i = n
    · subst e
      have h1 : ∀ k, k ≤ i → cnt k (done ||| 2 ^ i) = cnt k done := fun k hk => by
        induction k with
        | zero => rfl
        | succ k ihk =>
          simp only [cnt]
          rw [ihk (by omega), bit_more, decide_eq_false (by omega), Bool.or_false]
      rw [h1 i (Nat.le_refl _), bit_more, h, decide_eq_true rfl]
      simp
    · rw [ih (by omega), bit_more, decide_eq_false e, Bool.or_false]
      omega
theorem cnt_none (n : Nat) : cnt n 0 = 0 := by
  induction n with
  | zero => rfl
  | succ n ih => simp only [cnt]; rw [ih]; simp
/-- what each object holds, as a row -/
def vf (l : List Nat) : Nat → Nat := fun o => row l o
theorem vf_set {l : List Nat} {o x : Nat} (h : o < l.length) : vf (l.set o x) = setv (vf l) o x := by
  funext i
  unfold vf setv
  rw [row_set]
  by_cases e : i = o
  · subst e; rw [if_pos rfl, if_pos ⟨rfl, h⟩]
  · rw [if_neg e, if_neg (fun c => e c.1.symm)]
theorem vf_zero (n : Nat) : vf (List.replicate n 0) = fun _ => 0 := by
  funext i
  unfold vf row
  rw [List.getElem?_replicate]
  split <;> rfl
/-- the ops that must stand ahead of op i -/
def preS (all : Bool) (h : List HOp) (i : Nat) : Nat := cnt01 h.length fun j => aheadB all (hop h j) (hop h i)
theorem preS_bit (all : Bool) (h : List HOp) (i j : Nat) : (preS all h i).testBit j = true ↔ j < h.length ∧ aheadB all (hop h j) (hop h i) = true := by
  unfold preS
  rw [cnt01_bit, Bool.and_eq_true, decide_eq_true_eq]
theorem goB_pre {all : Bool} {h : List HOp} {done : Nat} {v : Nat → Nat} {i : Nat} : goB all h done v i = true ↔ done.testBit i = false ∧ (∀ j, (preS all h i).testBit j = true → done.testBit j = true) ∧ ((hop h i).wr = 0 → v (hop h i).ob = (hop h i).va) := by
  rw [goB_iff]
  constructor
  · rintro ⟨a, b, c⟩
    exact ⟨a, fun j hj => by obtain ⟨h1, h2⟩ := (preS_bit all h i j).1 hj; exact b j h1 h2, c⟩
  · rintro ⟨a, b, c⟩
    exact ⟨a, fun j h1 h2 => b j ((preS_bit all h i j).2 ⟨h1, h2⟩), c⟩
theorem best_next (all : Bool) (h : List HOp) (k done : Nat) (v : Nat → Nat) : best all h (k + 1) done v = (List.range h.length).findSome? fun i => if goB all h done v i then (best all h k (done ||| 2 ^ i) (setv v (hop h i).ob (hop h i).va)).map (i :: ·) else none := rfl
/-- the first op from which a row goes on begins the least -/
theorem best_first {all : Bool} {h : List HOp} {k done : Nat} {v : Nat → Nat} {i : Nat} {l : List Nat} (hi : i < h.length) (hg : goB all h done v i = true) (hb : best all h k (done ||| 2 ^ i) (setv v (hop h i).ob (hop h i).va) = some l) (hno : ∀ j, j < i → goB all h done v j = true → best all h k (done ||| 2 ^ j) (setv v (hop h j).ob (hop h j).va) = none) : best all h (k + 1) done v = some (i :: l) := by
  rw [best_next, List.findSome?_eq_some_iff]
  refine ⟨List.range i, i, List.range' (i + 1) (h.length - i - 1), ?_, ?_, fun j hj => ?_⟩
  · rw [List.range_eq_range', List.range_eq_range', show i :: List.range' (i + 1) (h.length - i - 1) = List.range' i (h.length - i - 1 + 1) from rfl]
    have := List.range'_append (s := 0) (m := i) (n := h.length - i - 1 + 1) (step := 1)
    rw [Nat.zero_add, Nat.one_mul] at this
    rw [this]
    congr 1
    omega
  · rw [if_pos hg, hb]; rfl
  · have hj2 := List.mem_range.1 hj
    by_cases g : goB all h done v j = true
    · rw [if_pos g, hno j hj2 g]; rfl
    · rw [if_neg g]
theorem best_fail {all : Bool} {h : List HOp} {k done : Nat} {v : Nat → Nat} (hno : ∀ j, j < h.length → goB all h done v j = true → best all h k (done ||| 2 ^ j) (setv v (hop h j).ob (hop h j).va) = none) : best all h (k + 1) done v = none := by
  rw [best_next, List.findSome?_eq_none_iff]
  intro j hj
  have hj2 := List.mem_range.1 hj
  by_cases g : goB all h done v j = true
  · rw [if_pos g, hno j hj2 g]; rfl
  · rw [if_neg g]
theorem best_len {all : Bool} {h : List HOp} {k done : Nat} {v : Nat → Nat} {l : List Nat} (e : best all h k done v = some l) : l.length = k := (best_sound e).1
/-- what is kept in mind leads nowhere -/
def Memo (all : Bool) (h : List HOp) (mem : Nat → List Nat → Prop) : Prop := ∀ done vl, mem done vl → best all h (h.length - cnt h.length done) done (vf vl) = none
theorem Memo.start (all : Bool) (h : List HOp) : Memo all h fun _ _ => False := fun _ _ e => e.elim
theorem Memo.use {all : Bool} {h : List HOp} {mem : Nat → List Nat → Prop} (hm : Memo all h mem) {done k : Nat} {vl : List Nat} (e : mem done vl) (hk : cnt h.length done + k = h.length) : best all h k done (vf vl) = none := by
  have := hm done vl e
  rwa [show h.length - cnt h.length done = k by omega] at this
theorem Memo.more {all : Bool} {h : List HOp} {mem : Nat → List Nat → Prop} (hm : Memo all h mem) {done k : Nat} {vl : List Nat} (hk : cnt h.length done + k = h.length) (hb : best all h k done (vf vl) = none) : Memo all h fun d l => mem d l ∨ (d = done ∧ l = vl) := fun d l e => by
  rcases e with e | ⟨rfl, rfl⟩
  · exact hm d l e
  · rwa [show h.length - cnt h.length d = k by omega]
/-- one more is done -/
theorem done_next {n done i k : Nat} (hi : i < n) (h : done.testBit i = false) (hk : cnt n done + (k + 1) = n) : cnt n (done ||| 2 ^ i) + k = n := by rw [cnt_more hi h]; omega
/-- what a try tells: the row so far, and, if there is one, the least that goes on -/
def told (t : List Nat) : Option (List Nat) → List Nat
  | some l => t ++ l
  | none => t
theorem told_len {all : Bool} {h : List HOp} {k done : Nat} {v : Nat → Nat} {t : List Nat} (ht : t.length + k = h.length) : (told t (best all h k done v)).length = h.length ↔ ∃ l, best all h k done v = some l := by
  cases e : best all h k done v with
  | some l =>
    have := best_len e
    simp [told]
    omega
  | none =>
    have hk : k ≠ 0 := fun c => by subst c; simp [best] at e
    simp [told]
    omega
end Go.Proofs.Ytdbejgidgajhlaa.M
