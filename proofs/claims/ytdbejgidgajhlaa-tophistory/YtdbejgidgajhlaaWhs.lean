/- Plain mathematics of histories: rows of places; the least good row, by trying. No program text is named. -/
import Derived.Test.YtdbejgidgajhlaaWhi
namespace Go.Proofs.Ytdbejgidgajhlaa.M

def hop (h : List HOp) (i : Nat) : HOp := h[i]?.getD ⟨0, 0, 0, 0, 0, 0⟩
/-- may op i come now? -/
structure Can (all : Bool) (h : List HOp) (done : Nat) (v : Nat → Nat) (i : Nat) : Prop where
  new : done.testBit i = false
  pre : ∀ j, j < h.length → aheadB all (hop h j) (hop h i) = true → done.testBit j = true
  rd : (hop h i).wr = 0 → v (hop h i).ob = (hop h i).va
def goB (all : Bool) (h : List HOp) (done : Nat) (v : Nat → Nat) (i : Nat) : Bool :=
  !done.testBit i && ((List.range h.length).all fun j => !aheadB all (hop h j) (hop h i) || done.testBit j) && ((hop h i).wr != 0 || v (hop h i).ob == (hop h i).va)
theorem goB_iff {all : Bool} {h : List HOp} {done : Nat} {v : Nat → Nat} {i : Nat} : goB all h done v i = true ↔ Can all h done v i := by
  unfold goB
  rw [Bool.and_eq_true, Bool.and_eq_true, List.all_eq_true, Bool.or_eq_true]
  constructor
  · rintro ⟨⟨a, b⟩, c⟩
    refine ⟨by simpa using a, fun j hj e => ?_, fun e => ?_⟩
    · have := b j (List.mem_range.2 hj)
      rw [e] at this
      simpa using this
    · rcases c with c | c
      · rw [e] at c; cases c
      · simpa using c
  · rintro ⟨a, b, c⟩
    refine ⟨⟨by rw [a]; rfl, fun j hj => ?_⟩, ?_⟩
    · cases e : aheadB all (hop h j) (hop h i) with
      | false => rfl
      | true => rw [b j (List.mem_range.1 hj) e]; rfl
    · by_cases e : (hop h i).wr = 0
      · right; rw [c e]; simp
      · left; simpa using e
/-- a row of places that goes -/
def GoodL (all : Bool) (h : List HOp) : Nat → (Nat → Nat) → List Nat → Prop
  | _, _, [] => True
  | done, v, i :: r => i < h.length ∧ Can all h done v i ∧ GoodL all h (done ||| 2 ^ i) (setv v (hop h i).ob (hop h i).va) r
theorem bit_more (done i x : Nat) : (done ||| 2 ^ i).testBit x = (done.testBit x || decide (i = x)) := by rw [Nat.testBit_or, Nat.testBit_two_pow]
theorem goodL_parts {all : Bool} {h : List HOp} : ∀ {l : List Nat} {done : Nat} {v : Nat → Nat}, GoodL all h done v l → l.Nodup ∧ (∀ i, i ∈ l → i < h.length ∧ done.testBit i = false) ∧ Ordd all (l.map (hop h)) ∧ Rok v (l.map (hop h))
  | [], _, _, _ => ⟨List.nodup_nil, fun _ hi => absurd hi (List.not_mem_nil), List.Pairwise.nil, trivial⟩
  | i :: r, done, v, ⟨h1, h2, h3⟩ => by
    obtain ⟨a, b, c, d⟩ := goodL_parts h3
    have nb : ∀ j, j ∈ r → done.testBit j = false ∧ i ≠ j := fun j hj => by
      have := (b j hj).2
      rw [bit_more, Bool.or_eq_false_iff] at this
      exact ⟨this.1, of_decide_eq_false this.2⟩
    refine ⟨List.nodup_cons.2 ⟨fun hi => (nb i hi).2 rfl, a⟩, fun j hj => ?_, ?_, h2.rd, d⟩
    · rcases List.mem_cons.1 hj with e | e
      · subst e; exact ⟨h1, h2.new⟩
      · exact ⟨(b j e).1, (nb j e).1⟩
    · unfold Ordd
      rw [List.map_cons, List.pairwise_cons]
      refine ⟨fun y hy => ?_, c⟩
      obtain ⟨j, hj, rfl⟩ := List.mem_map.1 hy
      cases e : aheadB all (hop h j) (hop h i) with
      | false => rfl
      | true =>
        have := h2.pre j (b j hj).1 e
        rw [(nb j hj).1] at this; cases this
theorem goodL_of {all : Bool} {h : List HOp} (hs : ∀ a, a ∈ h → a.fr < a.to) : ∀ {l : List Nat} {done : Nat} {v : Nat → Nat}, l.Nodup → (∀ i, i ∈ l → i < h.length ∧ done.testBit i = false) → (∀ j, j < h.length → done.testBit j = true ∨ j ∈ l) → Ordd all (l.map (hop h)) → Rok v (l.map (hop h)) → GoodL all h done v l
  | [], _, _, _, _, _, _, _ => trivial
  | i :: r, done, v, hn, hi, hd, ho, hr => by
    rw [List.nodup_cons] at hn
    unfold Ordd at ho
    rw [List.map_cons, List.pairwise_cons] at ho
    have h0 := hi i List.mem_cons_self
    refine ⟨h0.1, ⟨h0.2, fun j hj e => ?_, hr.1⟩, goodL_of hs hn.2 (fun j hj => ?_) (fun j hj => ?_) ho.2 hr.2⟩
    · rcases hd j hj with k | k
      · exact k
      · exfalso
        rcases List.mem_cons.1 k with k | k
        · subst k
          have hm : hop h j ∈ h := by unfold hop; rw [List.getElem?_eq_getElem hj]; exact List.getElem_mem hj
          have := hs _ hm
          unfold aheadB at e
          rw [Bool.and_eq_true] at e
          have := of_decide_eq_true e.1
          omega
        · rw [ho.1 _ (List.mem_map_of_mem k)] at e; cases e
    · have := hi j (List.mem_cons_of_mem _ hj)
      refine ⟨this.1, ?_⟩
      rw [bit_more, this.2, Bool.false_or]
      exact decide_eq_false (fun e => hn.1 (e ▸ hj))
    · rw [bit_more]
      rcases hd j hj with k | k
      · left; rw [k]; rfl
      · rcases List.mem_cons.1 k with k | k
        · subst k; left; simp
        · exact .inr k
theorem row_all {n : Nat} {l : List Nat} (hn : l.Nodup) (hi : ∀ i, i ∈ l → i < n) (hl : l.length = n) : l.Perm (List.range n) := by
  rw [List.perm_ext_iff_of_nodup hn List.nodup_range]
  intro j
  rw [List.mem_range]
  refine ⟨hi j, fun hj => ?_⟩
  apply Classical.byContradiction
  intro hx
  have h1 : (j :: l).Nodup := List.nodup_cons.2 ⟨hx, hn⟩
  have h2 := h1.length_le_of_subset (l₂ := List.range n) (fun x hx => by
    rcases List.mem_cons.1 hx with e | e
    · subst e; exact List.mem_range.2 hj
    · exact List.mem_range.2 (hi x e))
  rw [List.length_cons, List.length_range] at h2
  omega
theorem hops (h : List HOp) : (List.range h.length).map (hop h) = h := by
  apply List.ext_getElem
  · simp
  · intro i h1 h2
    simp [hop, h2]
/-- a row of values is one of places -/
theorem perm_lift {α β : Type} [DecidableEq α] (f : α → β) : ∀ {l : List β} {m : List α}, l.Perm (m.map f) → ∃ k : List α, k.Perm m ∧ k.map f = l
  | [], m, h => by
    have : m.map f = [] := (List.nil_perm.1 h)
    have hm : m = [] := List.map_eq_nil_iff.1 this
    subst hm
    exact ⟨[], List.Perm.nil, rfl⟩
  | b :: l, m, h => by
    have hb : b ∈ m.map f := h.mem_iff.1 List.mem_cons_self
    obtain ⟨a, ha, rfl⟩ := List.mem_map.1 hb
    have h1 : m.Perm (a :: m.erase a) := List.perm_cons_erase ha
    have h2 : (f a :: l).Perm (f a :: (m.erase a).map f) := h.trans (h1.map f)
    obtain ⟨k, k1, k2⟩ := perm_lift f (List.Perm.cons_inv h2)
    exact ⟨a :: k, (k1.cons a).trans h1.symm, by rw [List.map_cons, k2]⟩
/-- there is a good row of ops just if there is one of places -/
theorem atom_rows {all : Bool} {h : List HOp} (hs : ∀ a, a ∈ h → a.fr < a.to) : Atom all h ↔ ∃ l : List Nat, l.length = h.length ∧ GoodL all h 0 (fun _ => 0) l := by
  constructor
  · rintro ⟨l, h1, h2, h3⟩
    rw [← hops h] at h1
    obtain ⟨k, k1, rfl⟩ := perm_lift (hop h) h1
    refine ⟨k, by rw [k1.length_eq, List.length_range], goodL_of hs (k1.nodup_iff.2 List.nodup_range) (fun i hi => ⟨List.mem_range.1 (k1.mem_iff.1 hi), by simp⟩) (fun j hj => .inr (k1.mem_iff.2 (List.mem_range.2 hj))) h2 h3⟩
  · rintro ⟨l, h1, h2⟩
    obtain ⟨a, b, c, d⟩ := goodL_parts h2
    refine ⟨l.map (hop h), ?_, c, d⟩
    have := (row_all a (fun i hi => (b i hi).1) h1).map (hop h)
    rwa [hops] at this
/-! ### the least row, by trying -/
/-- of k more, the least row that goes -/
def best (all : Bool) (h : List HOp) : Nat → Nat → (Nat → Nat) → Option (List Nat)
  | 0, _, _ => some []
  | k + 1, done, v => (List.range h.length).findSome? fun i => if goB all h done v i then (best all h k (done ||| 2 ^ i) (setv v (hop h i).ob (hop h i).va)).map (i :: ·) else none
theorem best_sound {all : Bool} {h : List HOp} : ∀ {k done : Nat} {v : Nat → Nat} {l : List Nat}, best all h k done v = some l → l.length = k ∧ GoodL all h done v l
  | 0, _, _, l, e => by
    simp only [best, Option.some.injEq] at e
    subst e
    exact ⟨rfl, trivial⟩
  | k + 1, done, v, l, e => by
    simp only [best] at e
    obtain ⟨l1, i, l2, e1, e2, _⟩ := List.findSome?_eq_some_iff.1 e
    have hi : i < h.length := List.mem_range.1 (by rw [e1]; simp)
    by_cases c : goB all h done v i = true
    · rw [if_pos c] at e2
      obtain ⟨r, hr, rfl⟩ := Option.map_eq_some_iff.1 e2
      obtain ⟨a, b⟩ := best_sound hr
      exact ⟨by rw [List.length_cons, a], hi, goB_iff.1 c, b⟩
    · rw [if_neg c] at e2; cases e2
/-- a comes ahead of b, or is it -/
def Lx : List Nat → List Nat → Prop
  | [], _ => True
  | x :: r, y :: s => x < y ∨ (x = y ∧ Lx r s)
  | _ :: _, [] => False
theorem best_all {all : Bool} {h : List HOp} : ∀ {l : List Nat} {done : Nat} {v : Nat → Nat}, GoodL all h done v l → ∃ l', best all h l.length done v = some l' ∧ Lx l' l
  | [], _, _, _ => ⟨[], rfl, trivial⟩
  | i :: r, done, v, ⟨h1, h2, h3⟩ => by
    obtain ⟨r', e1, e2⟩ := best_all h3
    have hg : (if goB all h done v i then (best all h r.length (done ||| 2 ^ i) (setv v (hop h i).ob (hop h i).va)).map (i :: ·) else none) = some (i :: r') := by
      rw [if_pos (goB_iff.2 h2), e1]; rfl
    cases c : best all h (i :: r).length done v with
    | none =>
      exfalso
      have := List.findSome?_eq_none_iff.1 (show (List.range h.length).findSome? _ = none from c) i (List.mem_range.2 h1)
      rw [hg] at this; cases this
    | some l' =>
      refine ⟨l', rfl, ?_⟩
      obtain ⟨l1, j, l2, f1, f2, f3⟩ := List.findSome?_eq_some_iff.1 (show (List.range h.length).findSome? _ = some l' from c)
      have hj : i ∉ l1 := fun hi => by
        have := f3 i hi
        rw [hg] at this; cases this
      have hs : (l1 ++ j :: l2).Pairwise (· < ·) := by rw [← f1]; exact List.pairwise_lt_range
      have hm : i ∈ l1 ++ j :: l2 := by rw [← f1]; exact List.mem_range.2 h1
      rw [List.pairwise_append] at hs
      rcases List.mem_append.1 hm with hm | hm
      · exact absurd hm hj
      · rcases List.mem_cons.1 hm with e | e
        · subst e
          rw [hg] at f2
          obtain rfl := Option.some.inj f2
          exact .inr ⟨rfl, e2⟩
        · have hlt := (List.pairwise_cons.1 hs.2.1).1 i e
          by_cases g : goB all h done v j = true
          · rw [if_pos g] at f2
            obtain ⟨r2, _, rfl⟩ := Option.map_eq_some_iff.1 f2
            exact .inl hlt
          · rw [if_neg g] at f2; cases f2
theorem best_none {all : Bool} {h : List HOp} {k done : Nat} {v : Nat → Nat} (e : best all h k done v = none) (l : List Nat) (hl : l.length = k) : ¬ GoodL all h done v l := fun g => by
  obtain ⟨l', e1, _⟩ := best_all g
  rw [hl, e] at e1; cases e1
/-- there is a good row just if trying finds one -/
theorem atom_best {all : Bool} {h : List HOp} (hs : ∀ a, a ∈ h → a.fr < a.to) : Atom all h ↔ ∃ l, best all h h.length 0 (fun _ => 0) = some l := by
  rw [atom_rows hs]
  constructor
  · rintro ⟨l, h1, h2⟩
    obtain ⟨l', e, _⟩ := best_all h2
    rw [h1] at e
    exact ⟨l', e⟩
  · rintro ⟨l, e⟩
    exact ⟨l, best_sound e⟩
end Go.Proofs.Ytdbejgidgajhlaa.M
