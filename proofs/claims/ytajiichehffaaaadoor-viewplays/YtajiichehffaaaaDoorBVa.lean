/- Plain mathematics of a store of views (package view): its state, what a deed leaves, what always holds; its edges, told by places in the row of those that committed; without danger there is no ring; in a row each reads the same. No program text is named. Plain mathematics of a store of views: its edges, while the row is gone along. No program text is named. -/
import Derived.Test.YtajiichehffaaaaDoorBWl
namespace Go.Proofs.YtajiichehffaaaaDoor.M

/-- a store: of each transaction what it is doing (0 nothing, 1 open, 2 committed, 3 stopped), how many it sees, what it read, what it wrote; who committed, in order -/
structure Vw where
  dg : Nat → Nat
  se : Nat → Nat
  rd : Nat → Nat
  wr : Nat → Nat
  ro : List Nat
def vw0 : Vw := ⟨fun _ => 0, fun _ => 0, fun _ => 0, fun _ => 0, []⟩
/-- who wrote an item last, of the first n that committed (-1: nobody) -/
def lastW (s : Vw) (o : Nat) : Nat → Int
  | 0 => -1
  | n + 1 => if (s.wr (row s.ro n)).testBit o = true then ((row s.ro n : Nat) : Int) else lastW s o n
/-- did another one commit, unseen, what it wrote? -/
def clashB (s : Vw) (t : Nat) : Bool := (s.ro.drop (s.se t)).any fun u => (s.wr u &&& s.wr t) != 0
def vBeg (s : Vw) (t : Nat) : Vw := { s with dg := up1 s.dg t 1, se := up1 s.se t s.ro.length }
def vStop (s : Vw) (t : Nat) : Vw := { s with dg := up1 s.dg t 3 }
def vCom (s : Vw) (t : Nat) : Vw := { s with dg := up1 s.dg t 2, ro := s.ro ++ [t] }
def vWr (s : Vw) (t o : Nat) : Vw := { s with wr := up1 s.wr t (s.wr t ||| 1 <<< o) }
def vRd (s : Vw) (t o : Nat) : Vw := { s with rd := up1 s.rd t (s.rd t ||| 1 <<< o) }
/-- a deed: the store behind it, what is told, and what is wrong -/
def vwDo (s : Vw) (k t o x : Nat) : Vw × Int × Nat :=
  if s.dg t ≠ (if k = 4 then 0 else 1) then (s, 0, 7)
  else if k = 4 then (vBeg s t, -1, 0)
  else if k = 5 then if clashB s t = true then (vStop s t, 0, 6) else (vCom s t, -1, 0)
  else if x = 1 then (vWr s t o, -1, 0)
  else if (s.wr t).testBit o = true then (s, t, 0) else (vRd s t o, lastW s o (s.se t), 0)
/-! ### little things -/
theorem up1_same (f : Nat → Nat) (t v : Nat) : up1 f t v t = v := by unfold up1; rw [if_pos rfl]
theorem up1_other (f : Nat → Nat) {t x : Nat} (v : Nat) (h : x ≠ t) : up1 f t v x = f x := by unfold up1; rw [if_neg h]
theorem oneBit (t j : Nat) : (1 <<< t).testBit j = decide (t = j) := by rw [Nat.shiftLeft_eq, Nat.one_mul, Nat.testBit_two_pow]
theorem one_lt16 {o : Nat} (h : o < 4) : 1 <<< o < 16 := by
  rw [Nat.shiftLeft_eq, Nat.one_mul]
  exact Nat.pow_lt_pow_right (by decide : 1 < 2) h
theorem and_ne {x y : Nat} : (x &&& y) ≠ 0 ↔ ∃ o, x.testBit o = true ∧ y.testBit o = true := by
  constructor
  · intro h
    apply Classical.byContradiction
    intro c
    apply h
    apply Nat.eq_of_testBit_eq
    intro i
    rw [Nat.testBit_and, Nat.zero_testBit]
    cases e1 : x.testBit i with
    | false => rfl
    | true =>
      cases e2 : y.testBit i with
      | false => rfl
      | true => exact absurd ⟨i, e1, e2⟩ c
  · rintro ⟨o, h1, h2⟩ e
    have : (x &&& y).testBit o = true := by rw [Nat.testBit_and, h1, h2]; rfl
    rw [e, Nat.zero_testBit] at this
    cases this
theorem bit16 {x o : Nat} (hx : x < 16) (h : x.testBit o = true) : o < 4 := by
  rcases Nat.lt_or_ge o 4 with c | c
  · exact c
  · have : x < 2 ^ o := Nat.lt_of_lt_of_le hx (by have := Nat.pow_le_pow_right (by decide : 1 ≤ 2) c; simpa using this)
    rw [Nat.testBit_lt_two_pow this] at h; cases h
theorem mem_drop_idx {l : List Nat} (h : l.Nodup) {n b : Nat} : b ∈ l.drop n ↔ b ∈ l ∧ n ≤ l.idxOf b := by
  constructor
  · intro hb
    obtain ⟨i, hi, rfl⟩ := List.getElem_of_mem hb
    rw [List.length_drop] at hi
    rw [List.getElem_drop]
    exact ⟨List.getElem_mem _, by rw [h.idxOf_getElem]; omega⟩
  · rintro ⟨h1, h2⟩
    obtain ⟨i, hi, rfl⟩ := List.getElem_of_mem h1
    rw [h.idxOf_getElem] at h2
    rw [List.mem_iff_getElem]
    refine ⟨i - n, by rw [List.length_drop]; omega, ?_⟩
    rw [List.getElem_drop]
    congr 1
    omega
theorem row_memV {l : List Nat} {i : Nat} (h : i < l.length) : row l i ∈ l := by unfold row; rw [List.getElem?_eq_getElem h]; exact List.getElem_mem h
theorem take_rowV {l : List Nat} {k : Nat} (hk : k < l.length) : l.take (k + 1) = l.take k ++ [row l k] := by
  rw [List.take_add_one]
  unfold row
  rw [List.getElem?_eq_getElem hk]; rfl
theorem drop_row {l : List Nat} {n k : Nat} : row (l.drop n) k = row l (n + k) := by unfold row; rw [List.getElem?_drop]
/-! ### sets of those in a row that do -/
def orL (l : List Nat) (f : Nat → Bool) : Nat := l.foldl (fun a x => if f x = true then a ||| 1 <<< x else a) 0
theorem orL_snoc (l : List Nat) (x : Nat) (f : Nat → Bool) : orL (l ++ [x]) f = if f x = true then orL l f ||| 1 <<< x else orL l f := by
  unfold orL; rw [List.foldl_append]; rfl
theorem orL_yes {l : List Nat} {f : Nat → Bool} {k : Nat} (hk : k < l.length) (h : f (row l k) = true) : orL (l.take (k + 1)) f = orL (l.take k) f ||| 1 <<< (row l k) := by rw [take_rowV hk, orL_snoc, if_pos h]
theorem orL_no {l : List Nat} {f : Nat → Bool} {k : Nat} (hk : k < l.length) (h : f (row l k) = false) : orL (l.take (k + 1)) f = orL (l.take k) f := by rw [take_rowV hk, orL_snoc, if_neg (by rw [h]; simp)]
theorem orL_acc (f : Nat → Bool) (b : Nat) : ∀ (l : List Nat) (a : Nat), (l.foldl (fun a x => if f x = true then a ||| 1 <<< x else a) a).testBit b = true ↔ a.testBit b = true ∨ (b ∈ l ∧ f b = true)
  | [], a => by simp
  | x :: r, a => by
    rw [List.foldl_cons, orL_acc f b r]
    by_cases h : f x = true
    · rw [if_pos h, Nat.testBit_or, oneBit, Bool.or_eq_true, decide_eq_true_eq, List.mem_cons]
      constructor
      · rintro ((e | e) | ⟨e1, e2⟩)
        · exact .inl e
        · subst e; exact .inr ⟨.inl rfl, h⟩
        · exact .inr ⟨.inr e1, e2⟩
      · rintro (e | ⟨e | e, e2⟩)
        · exact .inl (.inl e)
        · exact .inl (.inr e.symm)
        · exact .inr ⟨e, e2⟩
    · rw [if_neg h, List.mem_cons]
      constructor
      · rintro (e | ⟨e1, e2⟩)
        · exact .inl e
        · exact .inr ⟨.inr e1, e2⟩
      · rintro (e | ⟨e | e, e2⟩)
        · exact .inl e
        · subst e; exact absurd e2 h
        · exact .inr ⟨e, e2⟩
theorem orL_bit {l : List Nat} {f : Nat → Bool} {b : Nat} : (orL l f).testBit b = true ↔ b ∈ l ∧ f b = true := by
  unfold orL
  rw [orL_acc, Nat.zero_testBit]
  simp
theorem orL_lt {l : List Nat} {f : Nat → Bool} (h : ∀ x, x ∈ l → x < 5) : orL l f < 32 := Nat.lt_pow_two_of_testBit (n := 5) _ (fun i hi => by
  cases e : (orL l f).testBit i with
  | false => rfl
  | true => have := h i (orL_bit.1 e).1; omega)
/-! ### what always holds -/
structure VI (s : Vw) : Prop where
  dg : ∀ t, s.dg t ≤ 3
  ro : ∀ t, t ∈ s.ro ↔ s.dg t = 2
  hi : ∀ t, 5 ≤ t → s.dg t = 0
  nd : s.ro.Nodup
  se : ∀ t, s.se t ≤ s.ro.length
  own : ∀ t, t ∈ s.ro → s.se t ≤ s.ro.idxOf t
  zs : ∀ t, s.dg t = 0 → s.wr t = 0 ∧ s.rd t = 0 ∧ s.se t = 0
  wb : ∀ t, s.wr t < 16
  rb : ∀ t, s.rd t < 16
  fst : ∀ a b, a ∈ s.ro → b ∈ s.ro → s.ro.idxOf a < s.ro.idxOf b → (s.wr a &&& s.wr b) ≠ 0 → s.ro.idxOf a < s.se b
theorem VI.zero : VI vw0 := ⟨fun _ => Nat.zero_le _, fun t => ⟨fun h => absurd h (List.not_mem_nil), fun h => by cases h⟩, fun _ _ => rfl, List.nodup_nil, fun _ => Nat.le_refl _, fun _ h => absurd h (List.not_mem_nil), fun _ _ => ⟨rfl, rfl, rfl⟩, fun _ => (show (0 : Nat) < 16 by decide), fun _ => (show (0 : Nat) < 16 by decide), fun _ _ h => absurd h (List.not_mem_nil)⟩
theorem VI.lt5 {s : Vw} (h : VI s) {t : Nat} (ht : t ∈ s.ro) : t < 5 := by
  have h2 := (h.ro t).1 ht
  rcases Nat.lt_or_ge t 5 with c | c
  · exact c
  · have := h.hi t c; omega
theorem VI.len {s : Vw} (h : VI s) : s.ro.length ≤ 5 := by
  have h2 := h.nd.length_le_of_subset (l₂ := List.range 5) (fun x hx => List.mem_range.2 (h.lt5 hx))
  rwa [List.length_range] at h2
theorem VI.row5 {s : Vw} (h : VI s) {i : Nat} (hi : i < s.ro.length) : row s.ro i < 5 := h.lt5 (row_memV hi)
theorem or16 {a b : Nat} (ha : a < 16) (hb : b < 16) : a ||| b < 16 := Nat.or_lt_two_pow (n := 4) ha hb
theorem VI.beg {s : Vw} (h : VI s) {t : Nat} (ht : t < 5) (h0 : s.dg t = 0) : VI (vBeg s t) := by
  have nt : t ∉ s.ro := fun e => by have := (h.ro t).1 e; omega
  have ne : ∀ a, a ∈ s.ro → a ≠ t := fun a ha e => nt (e ▸ ha)
  refine ⟨fun x => ?_, fun x => ?_, fun x hx => ?_, h.nd, fun x => ?_, fun x hx => ?_, fun x hx => ?_, h.wb, h.rb, fun a b ha hb hab hne => ?_⟩
  · show up1 s.dg t 1 x ≤ 3
    unfold up1; split
    · omega
    · exact h.dg x
  · show x ∈ s.ro ↔ up1 s.dg t 1 x = 2
    by_cases e : x = t
    · subst e; rw [up1_same]; exact ⟨fun k => absurd k nt, fun k => by cases k⟩
    · rw [up1_other _ _ e]; exact h.ro x
  · show up1 s.dg t 1 x = 0
    rw [up1_other _ _ (by omega)]; exact h.hi x hx
  · show up1 s.se t s.ro.length x ≤ s.ro.length
    unfold up1; split
    · exact Nat.le_refl _
    · exact h.se x
  · show up1 s.se t s.ro.length x ≤ _
    rw [up1_other _ _ (ne x hx)]; exact h.own x hx
  · have e : x ≠ t := fun e => by subst e; have : up1 s.dg x 1 x = 0 := hx; rw [up1_same] at this; cases this
    have hx' : up1 s.dg t 1 x = 0 := hx
    rw [up1_other _ _ e] at hx'
    obtain ⟨z1, z2, z3⟩ := h.zs x hx'
    exact ⟨z1, z2, by show up1 s.se t s.ro.length x = 0; rw [up1_other _ _ e]; exact z3⟩
  · show _ < up1 s.se t s.ro.length b
    rw [up1_other _ _ (ne b hb)]; exact h.fst a b ha hb hab hne
theorem VI.stop {s : Vw} (h : VI s) {t : Nat} (ht : t < 5) (h1 : s.dg t = 1) : VI (vStop s t) := by
  have nt : t ∉ s.ro := fun e => by have := (h.ro t).1 e; omega
  refine ⟨fun x => ?_, fun x => ?_, fun x hx => ?_, h.nd, h.se, h.own, fun x hx => ?_, h.wb, h.rb, h.fst⟩
  · show up1 s.dg t 3 x ≤ 3
    unfold up1; split
    · omega
    · exact h.dg x
  · show x ∈ s.ro ↔ up1 s.dg t 3 x = 2
    by_cases e : x = t
    · subst e; rw [up1_same]; exact ⟨fun k => absurd k nt, fun k => by cases k⟩
    · rw [up1_other _ _ e]; exact h.ro x
  · show up1 s.dg t 3 x = 0
    rw [up1_other _ _ (by omega)]; exact h.hi x hx
  · have e : x ≠ t := fun e => by subst e; have : up1 s.dg x 3 x = 0 := hx; rw [up1_same] at this; cases this
    have hx' : up1 s.dg t 3 x = 0 := hx
    rw [up1_other _ _ e] at hx'
    exact h.zs x hx'
theorem clashB_iff {s : Vw} (h : VI s) {t : Nat} : clashB s t = true ↔ ∃ u, u ∈ s.ro ∧ s.se t ≤ s.ro.idxOf u ∧ (s.wr u &&& s.wr t) ≠ 0 := by
  unfold clashB
  rw [List.any_eq_true]
  constructor
  · rintro ⟨u, h1, h2⟩
    obtain ⟨h3, h4⟩ := (mem_drop_idx h.nd).1 h1
    exact ⟨u, h3, h4, by simpa using h2⟩
  · rintro ⟨u, h1, h2, h3⟩
    exact ⟨u, (mem_drop_idx h.nd).2 ⟨h1, h2⟩, by simpa using h3⟩
theorem VI.com {s : Vw} (h : VI s) {t : Nat} (ht : t < 5) (h1 : s.dg t = 1) (hc : clashB s t = false) : VI (vCom s t) := by
  have nt : t ∉ s.ro := fun e => by have := (h.ro t).1 e; omega
  have ne : ∀ a, a ∈ s.ro → a ≠ t := fun a ha e => nt (e ▸ ha)
  have idt : (s.ro ++ [t]).idxOf t = s.ro.length := by rw [idx_not nt]; simp
  refine ⟨fun x => ?_, fun x => ?_, fun x hx => ?_, ?_, fun x => ?_, fun x hx => ?_, fun x hx => ?_, h.wb, h.rb, fun a b ha hb hab hne => ?_⟩
  · show up1 s.dg t 2 x ≤ 3
    unfold up1; split
    · omega
    · exact h.dg x
  · show x ∈ s.ro ++ [t] ↔ up1 s.dg t 2 x = 2
    by_cases e : x = t
    · subst e; rw [up1_same]; simp
    · rw [up1_other _ _ e, List.mem_append, List.mem_singleton, h.ro x]
      exact ⟨fun k => k.resolve_right e, .inl⟩
  · show up1 s.dg t 2 x = 0
    rw [up1_other _ _ (by omega)]; exact h.hi x hx
  · show (s.ro ++ [t]).Nodup
    rw [List.nodup_append]
    refine ⟨h.nd, by simp, fun a ha b hb => ?_⟩
    rw [List.mem_singleton] at hb
    subst hb; exact ne a ha
  · show s.se x ≤ (s.ro ++ [t]).length
    rw [List.length_append]
    have := h.se x; omega
  · show s.se x ≤ (s.ro ++ [t]).idxOf x
    rcases List.mem_append.1 hx with e | e
    · rw [idx_app e]; exact h.own x e
    · rw [List.mem_singleton] at e; subst e; rw [idt]; exact h.se x
  · have e : x ≠ t := fun e => by subst e; have : up1 s.dg x 2 x = 0 := hx; rw [up1_same] at this; cases this
    have hx' : up1 s.dg t 2 x = 0 := hx
    rw [up1_other _ _ e] at hx'
    exact h.zs x hx'
  · show (s.ro ++ [t]).idxOf a < s.se b
    have hab' : (s.ro ++ [t]).idxOf a < (s.ro ++ [t]).idxOf b := hab
    rcases List.mem_append.1 hb with eb | eb
    · rcases List.mem_append.1 ha with ea | ea
      · rw [idx_app ea, idx_app eb] at hab'
        rw [idx_app ea]
        exact h.fst a b ea eb hab' hne
      · rw [List.mem_singleton] at ea; subst ea
        rw [idt, idx_app eb] at hab'
        have := List.idxOf_lt_length_of_mem eb; omega
    · rw [List.mem_singleton] at eb; subst eb
      rcases List.mem_append.1 ha with ea | ea
      · rw [idx_app ea]
        rcases Nat.lt_or_ge (s.ro.idxOf a) (s.se b) with c | c
        · exact c
        · have := (clashB_iff h (t := b)).2 ⟨a, ea, c, hne⟩
          rw [hc] at this; cases this
      · rw [List.mem_singleton] at ea; subst ea
        exact absurd hab' (Nat.lt_irrefl _)
theorem VI.wrt {s : Vw} (h : VI s) {t o : Nat} (ho : o < 4) (h1 : s.dg t = 1) : VI (vWr s t o) := by
  have nt : t ∉ s.ro := fun e => by have := (h.ro t).1 e; omega
  have ne : ∀ a, a ∈ s.ro → a ≠ t := fun a ha e => nt (e ▸ ha)
  refine ⟨h.dg, h.ro, h.hi, h.nd, h.se, h.own, fun x hx => ?_, fun x => ?_, h.rb, fun a b ha hb hab hne => ?_⟩
  · have hx' : s.dg x = 0 := hx
    have e : x ≠ t := fun e => by subst e; omega
    obtain ⟨z1, z2, z3⟩ := h.zs x hx'
    exact ⟨by show up1 s.wr t _ x = 0; rw [up1_other _ _ e]; exact z1, z2, z3⟩
  · show up1 s.wr t _ x < 16
    unfold up1; split
    · exact or16 (h.wb t) (one_lt16 ho)
    · exact h.wb x
  · have hne' : (up1 s.wr t (s.wr t ||| 1 <<< o) a &&& up1 s.wr t (s.wr t ||| 1 <<< o) b) ≠ 0 := hne
    rw [up1_other _ _ (ne a ha), up1_other _ _ (ne b hb)] at hne'
    exact h.fst a b ha hb hab hne'
theorem VI.red {s : Vw} (h : VI s) {t o : Nat} (ho : o < 4) (h1 : s.dg t = 1) : VI (vRd s t o) := by
  refine ⟨h.dg, h.ro, h.hi, h.nd, h.se, h.own, fun x hx => ?_, h.wb, fun x => ?_, h.fst⟩
  · have hx' : s.dg x = 0 := hx
    have e : x ≠ t := fun e => by subst e; omega
    obtain ⟨z1, z2, z3⟩ := h.zs x hx'
    exact ⟨z1, by show up1 s.rd t _ x = 0; rw [up1_other _ _ e]; exact z2, z3⟩
  · show up1 s.rd t _ x < 16
    unfold up1; split
    · exact or16 (h.rb t) (one_lt16 ho)
    · exact h.rb x
theorem VI.step {s : Vw} (h : VI s) (k : Nat) {t o : Nat} (x : Nat) (ht : t < 5) (ho : k ≠ 4 → k ≠ 5 → o < 4) : VI (vwDo s k t o x).1 := by
  unfold vwDo
  by_cases c4 : k = 4
  · rw [if_pos c4]
    by_cases c0 : s.dg t ≠ 0
    · rw [if_pos c0]; exact h
    · rw [if_neg c0, if_pos c4]; exact h.beg ht (Classical.not_not.1 c0)
  · rw [if_neg c4]
    by_cases c1 : s.dg t ≠ 1
    · rw [if_pos c1]; exact h
    · have c1' := Classical.not_not.1 c1
      rw [if_neg c1, if_neg c4]
      by_cases c5 : k = 5
      · rw [if_pos c5]
        by_cases cc : clashB s t = true
        · rw [if_pos cc]; exact h.stop ht c1'
        · rw [if_neg cc]; exact h.com ht c1' (by simpa using cc)
      · rw [if_neg c5]
        have ho' := ho c4 c5
        by_cases cx : x = 1
        · rw [if_pos cx]; exact h.wrt ho' c1'
        · rw [if_neg cx]
          by_cases cw : (s.wr t).testBit o = true
          · rw [if_pos cw]; exact h
          · rw [if_neg cw]; exact h.red ho' c1'
/-! ### the edges -/
def ltF (s : Vw) (a b : Nat) : Bool := b != a && (s.wr b &&& s.rd a) != 0
def rdF (s : Vw) (a p b : Nat) : Bool := decide (p < s.se b) && (s.rd b &&& s.wr a) != 0
def agF (s : Vw) (p b : Nat) : Bool := decide (s.se b ≤ p)
/-- is b the next one that wrote what a wrote? -/
def nxF (s : Vw) (a b : Nat) : Bool := (List.range 4).any fun o => (s.wr a).testBit o && (s.wr b).testBit o && s.ro.all fun c => !(decide (s.ro.idxOf a < s.ro.idxOf c) && decide (s.ro.idxOf c < s.ro.idxOf b) && (s.wr c).testBit o)
def laterS (s : Vw) (a : Nat) : Nat := orL (s.ro.drop (s.se a)) (ltF s a)
def readS (s : Vw) (a p : Nat) : Nat := orL s.ro (rdF s a p)
def agoS (s : Vw) (p : Nat) : Nat := orL s.ro (agF s p)
def vNxS (s : Vw) (a p : Nat) : Nat := orL (s.ro.drop (p + 1)) (nxF s a)
def behS (s : Vw) (a : Nat) : Nat := if a ∈ s.ro then vNxS s a (s.ro.idxOf a) ||| readS s a (s.ro.idxOf a) ||| laterS s a else 0
def ovS (s : Vw) (a : Nat) : Nat := if a ∈ s.ro then laterS s a &&& agoS s (s.ro.idxOf a) else 0
/-- b wrote next behind a -/
def eNx (s : Vw) (a b : Nat) : Prop := s.ro.idxOf a < s.ro.idxOf b ∧ ∃ o, o < 4 ∧ (s.wr a).testBit o = true ∧ (s.wr b).testBit o = true ∧ ∀ c, c ∈ s.ro → s.ro.idxOf a < s.ro.idxOf c → s.ro.idxOf c < s.ro.idxOf b → (s.wr c).testBit o = false
/-- b could read what a wrote -/
def eRd (s : Vw) (a b : Nat) : Prop := s.ro.idxOf a < s.se b ∧ ∃ o, o < 4 ∧ (s.wr a).testBit o = true ∧ (s.rd b).testBit o = true
/-- b wrote over what a read -/
def eOv (s : Vw) (a b : Nat) : Prop := s.se a ≤ s.ro.idxOf b ∧ ∃ o, o < 4 ∧ (s.rd a).testBit o = true ∧ (s.wr b).testBit o = true
theorem later_bit {s : Vw} (h : VI s) {a b : Nat} : (laterS s a).testBit b = true ↔ b ∈ s.ro ∧ b ≠ a ∧ eOv s a b := by
  unfold laterS ltF eOv
  rw [orL_bit, mem_drop_idx h.nd, Bool.and_eq_true]
  simp only [bne_iff_ne, ne_eq]
  rw [← ne_eq, ← ne_eq, and_ne]
  constructor
  · rintro ⟨⟨h1, h2⟩, h3, o, h4, h5⟩
    exact ⟨h1, h3, h2, o, bit16 (h.wb b) h4, h5, h4⟩
  · rintro ⟨h1, h3, h2, o, _, h4, h5⟩
    exact ⟨⟨h1, h2⟩, h3, o, h5, h4⟩
theorem read_bit {s : Vw} (h : VI s) {a b : Nat} : (readS s a (s.ro.idxOf a)).testBit b = true ↔ b ∈ s.ro ∧ eRd s a b := by
  unfold readS rdF eRd
  rw [orL_bit, Bool.and_eq_true]
  simp only [bne_iff_ne, ne_eq, decide_eq_true_eq]
  rw [← ne_eq, and_ne]
  constructor
  · rintro ⟨h1, h2, o, h4, h5⟩
    exact ⟨h1, h2, o, bit16 (h.rb b) h4, h5, h4⟩
  · rintro ⟨h1, h2, o, _, h4, h5⟩
    exact ⟨h1, h2, o, h5, h4⟩
theorem ago_bit {s : Vw} {p b : Nat} : (agoS s p).testBit b = true ↔ b ∈ s.ro ∧ s.se b ≤ p := by
  unfold agoS agF
  rw [orL_bit, decide_eq_true_eq]
theorem nxF_iff {s : Vw} {a b : Nat} : nxF s a b = true ↔ ∃ o, o < 4 ∧ (s.wr a).testBit o = true ∧ (s.wr b).testBit o = true ∧ ∀ c, c ∈ s.ro → s.ro.idxOf a < s.ro.idxOf c → s.ro.idxOf c < s.ro.idxOf b → (s.wr c).testBit o = false := by
  unfold nxF
  rw [List.any_eq_true]
  constructor
  · rintro ⟨o, h1, h2⟩
    rw [Bool.and_eq_true, Bool.and_eq_true, List.all_eq_true] at h2
    refine ⟨o, List.mem_range.1 h1, h2.1.1, h2.1.2, fun c hc h3 h4 => ?_⟩
    have := h2.2 c hc
    rw [decide_eq_true h3, decide_eq_true h4] at this
    simpa using this
  · rintro ⟨o, h1, h2, h3, h4⟩
    refine ⟨o, List.mem_range.2 h1, ?_⟩
    rw [h2, h3, Bool.true_and, Bool.true_and, List.all_eq_true]
    intro c hc
    by_cases c1 : s.ro.idxOf a < s.ro.idxOf c
    · by_cases c2 : s.ro.idxOf c < s.ro.idxOf b
      · rw [h4 c hc c1 c2]; simp
      · rw [decide_eq_false c2]; simp
    · rw [decide_eq_false c1]; simp
theorem next_bit {s : Vw} (h : VI s) {a b : Nat} : (vNxS s a (s.ro.idxOf a)).testBit b = true ↔ b ∈ s.ro ∧ eNx s a b := by
  unfold vNxS eNx
  rw [orL_bit, mem_drop_idx h.nd, nxF_iff]
  exact ⟨fun ⟨⟨h1, h2⟩, h3⟩ => ⟨h1, h2, h3⟩, fun ⟨h1, h2, h3⟩ => ⟨⟨h1, h2⟩, h3⟩⟩
/-- an edge -/
def eVw (s : Vw) (a b : Nat) : Prop := a ∈ s.ro ∧ b ∈ s.ro ∧ a ≠ b ∧ (eNx s a b ∨ eRd s a b ∨ eOv s a b)
theorem eRd.ne {s : Vw} (h : VI s) {a b : Nat} (ha : a ∈ s.ro) (e : eRd s a b) : a ≠ b := fun k => by
  subst k
  have := h.own a ha
  have := e.1
  omega
theorem beh_bit {s : Vw} (h : VI s) {a b : Nat} : (behS s a).testBit b = true ↔ eVw s a b := by
  unfold behS eVw
  by_cases ha : a ∈ s.ro
  · rw [if_pos ha, Nat.testBit_or, Nat.testBit_or, Bool.or_eq_true, Bool.or_eq_true, next_bit h, read_bit h, later_bit h]
    constructor
    · rintro ((⟨h1, h2⟩ | ⟨h1, h2⟩) | ⟨h1, h2, h3⟩)
      · exact ⟨ha, h1, fun e => by subst e; exact absurd h2.1 (Nat.lt_irrefl _), .inl h2⟩
      · exact ⟨ha, h1, h2.ne h ha, .inr (.inl h2)⟩
      · exact ⟨ha, h1, h2.symm, .inr (.inr h3)⟩
    · rintro ⟨_, h1, h2, h3 | h3 | h3⟩
      · exact .inl (.inl ⟨h1, h3⟩)
      · exact .inl (.inr ⟨h1, h3⟩)
      · exact .inr ⟨h1, h2.symm, h3⟩
  · rw [if_neg ha, Nat.zero_testBit]
    exact ⟨fun e => by (cases e), fun e => absurd e.1 ha⟩
def eDg (s : Vw) (a b : Nat) : Prop := a ∈ s.ro ∧ b ∈ s.ro ∧ b ≠ a ∧ eOv s a b ∧ s.se b ≤ s.ro.idxOf a
theorem ov_bit {s : Vw} (h : VI s) {a b : Nat} : (ovS s a).testBit b = true ↔ eDg s a b := by
  unfold ovS eDg
  by_cases ha : a ∈ s.ro
  · rw [if_pos ha, Nat.testBit_and, Bool.and_eq_true, later_bit h, ago_bit]
    exact ⟨fun ⟨⟨h1, h2, h3⟩, _, h4⟩ => ⟨ha, h1, h2, h3, h4⟩, fun ⟨_, h1, h2, h3, h4⟩ => ⟨⟨h1, h2, h3⟩, h1, h4⟩⟩
  · rw [if_neg ha, Nat.zero_testBit]
    exact ⟨fun e => by (cases e), fun e => absurd e.1 ha⟩
theorem beh_lt {s : Vw} (h : VI s) (a : Nat) : behS s a < 32 := Nat.lt_pow_two_of_testBit (n := 5) _ (fun i hi => by
  cases e : (behS s a).testBit i with
  | false => rfl
  | true => have := h.lt5 ((beh_bit h).1 e).2.1; omega)
theorem ov_lt {s : Vw} (h : VI s) (a : Nat) : ovS s a < 32 := Nat.lt_pow_two_of_testBit (n := 5) _ (fun i hi => by
  cases e : (ovS s a).testBit i with
  | false => rfl
  | true => have := h.lt5 ((ov_bit h).1 e).2.1; omega)
def behR (s : Vw) : List Nat := (List.range 5).map (behS s)
def ovR (s : Vw) : List Nat := (List.range 5).map (ovS s)
theorem map5_row {f : Nat → Nat} {t : Nat} : row ((List.range 5).map f) t = if t < 5 then f t else 0 := by
  unfold row
  by_cases h : t < 5
  · rw [if_pos h, List.getElem?_eq_getElem (by simpa using h)]; simp
  · rw [if_neg h, List.getElem?_eq_none (by simpa using h)]; rfl
theorem behR_len (s : Vw) : (behR s).length = 5 := by simp [behR]
theorem ovR_len (s : Vw) : (ovR s).length = 5 := by simp [ovR]
theorem behR_row (s : Vw) {t : Nat} (h : t < 5) : row (behR s) t = behS s t := by unfold behR; rw [map5_row, if_pos h]
theorem ovR_row (s : Vw) {t : Nat} (h : t < 5) : row (ovR s) t = ovS s t := by unfold ovR; rw [map5_row, if_pos h]
theorem behR_ok {s : Vw} (h : VI s) : Ok (behR s) := fun i => by
  rw [behR_len]
  unfold behR
  rw [map5_row]
  split
  · exact beh_lt h i
  · decide
theorem behR_bit {s : Vw} (h : VI s) {a b : Nat} : (row (behR s) a).testBit b = true ↔ eVw s a b := by
  unfold behR
  rw [map5_row]
  by_cases c : a < 5
  · rw [if_pos c, beh_bit h]
  · rw [if_neg c, Nat.zero_testBit]
    exact ⟨fun e => by (cases e), fun e => absurd (h.lt5 e.1) c⟩
theorem behR_self {s : Vw} (h : VI s) (t : Nat) : (row (behR s) t).testBit t = false := by
  cases e : (row (behR s) t).testBit t with
  | false => rfl
  | true => exact absurd rfl ((behR_bit h).1 e).2.2.1
/-- is there danger? -/
def dgr (s : Vw) : Bool := (List.range 5).any fun a => (List.range 5).any fun b => (ovS s a).testBit b && ovS s b != 0
theorem dgr_iff {s : Vw} (h : VI s) : dgr s = true ↔ ∃ a b c, eDg s a b ∧ eDg s b c := by
  unfold dgr
  simp only [List.any_eq_true, List.mem_range, Bool.and_eq_true, bne_iff_ne, ne_eq]
  constructor
  · rintro ⟨a, _, b, _, h1, h2⟩
    have : ∃ c, (ovS s b).testBit c = true := by
      apply Classical.byContradiction
      intro k
      apply h2
      apply Nat.eq_of_testBit_eq
      intro i
      rw [Nat.zero_testBit]
      cases e : (ovS s b).testBit i with
      | false => rfl
      | true => exact absurd ⟨i, e⟩ k
    obtain ⟨c, hc⟩ := this
    exact ⟨a, b, c, (ov_bit h).1 h1, (ov_bit h).1 hc⟩
  · rintro ⟨a, b, c, h1, h2⟩
    refine ⟨a, h.lt5 h1.1, b, h.lt5 h2.1, (ov_bit h).2 h1, fun e => ?_⟩
    have := (ov_bit h).2 h2
    rw [e, Nat.zero_testBit] at this
    cases this
/-- FEKETE AND OTHERS -/
theorem no_ring {s : Vw} (h : VI s) (hd : dgr s = false) : ¬ Ring (behR s) := by
  refine no_danger (O := eDg s) (B := fun t => 2 * s.se t) (C := fun t => 2 * s.ro.idxOf t + 1) (behR_ok h) (fun a b e => ?_) (fun a b e => ?_) (fun a b c h1 h2 => ?_)
  · obtain ⟨ha, hb, hne, k⟩ := (behR_bit h).1 e
    rcases k with ⟨k1, o, _, k2, k3, _⟩ | ⟨k1, _⟩ | k
    · have := h.fst a b ha hb k1 (and_ne.2 ⟨o, k2, k3⟩)
      left; show 2 * _ + 1 < 2 * _; omega
    · left; show 2 * _ + 1 < 2 * _; omega
    · rcases Nat.lt_or_ge (s.ro.idxOf a) (s.se b) with c | c
      · left; show 2 * _ + 1 < 2 * _; omega
      · right
        refine ⟨⟨ha, hb, hne.symm, k, c⟩, ?_⟩
        have := k.1
        show 2 * _ < 2 * _ + 1; omega
  · obtain ⟨ha, hb, _⟩ := (behR_bit h).1 e
    have h1 := h.own a ha
    have h2 := h.own b hb
    constructor
    · show 2 * _ < 2 * _ + 1; omega
    · show 2 * _ < 2 * _ + 1; omega
  · have := (dgr_iff h).2 ⟨a, b, c, h1, h2⟩
    rw [hd] at this; cases this
/-! ### in a row each reads the same -/
theorem lastW_cases {s : Vw} (h : VI s) (o : Nat) : ∀ {n : Nat}, n ≤ s.ro.length → (lastW s o n = -1 ∧ ∀ a, a ∈ s.ro → (s.wr a).testBit o = true → n ≤ s.ro.idxOf a) ∨ ∃ x, lastW s o n = ((x : Nat) : Int) ∧ x ∈ s.ro ∧ s.ro.idxOf x < n ∧ (s.wr x).testBit o = true ∧ ∀ a, a ∈ s.ro → (s.wr a).testBit o = true → s.ro.idxOf a < n → s.ro.idxOf a ≤ s.ro.idxOf x
  | 0, _ => .inl ⟨rfl, fun _ _ _ => Nat.zero_le _⟩
  | n + 1, hn => by
    have hid : s.ro.idxOf (row s.ro n) = n := row_idx h.nd (by omega)
    unfold lastW
    by_cases c : (s.wr (row s.ro n)).testBit o = true
    · rw [if_pos c]
      exact .inr ⟨_, rfl, row_memV (by omega), by omega, c, fun a _ _ ha => by omega⟩
    · rw [if_neg c]
      have hx : ∀ a, a ∈ s.ro → (s.wr a).testBit o = true → s.ro.idxOf a ≠ n := fun a ha hw e => by
        have := (idx_row ha).1
        rw [e] at this
        rw [this] at c
        exact c hw
      rcases lastW_cases h o (n := n) (by omega) with ⟨h1, h2⟩ | ⟨x, h1, h2, h3, h4, h5⟩
      · exact .inl ⟨h1, fun a ha hw => by have := h2 a ha hw; have := hx a ha hw; omega⟩
      · exact .inr ⟨x, h1, h2, by omega, h4, fun a ha hw hlt => h5 a ha hw (by have := hx a ha hw; omega)⟩
/-- who wrote an item last, of those that committed, among the first p of a row (-1: nobody) -/
def lastP (s : Vw) (l : List Nat) (o : Nat) : Nat → Int
  | 0 => -1
  | p + 1 => if s.dg (row l p) = 2 ∧ (s.wr (row l p)).testBit o = true then ((row l p : Nat) : Int) else lastP s l o p
theorem lastP_cases {s : Vw} {l : List Nat} (hl : l.Nodup) (o : Nat) : ∀ {n : Nat}, n ≤ l.length → (lastP s l o n = -1 ∧ ∀ a, a ∈ l → s.dg a = 2 → (s.wr a).testBit o = true → n ≤ l.idxOf a) ∨ ∃ x, lastP s l o n = ((x : Nat) : Int) ∧ x ∈ l ∧ l.idxOf x < n ∧ s.dg x = 2 ∧ (s.wr x).testBit o = true ∧ ∀ a, a ∈ l → s.dg a = 2 → (s.wr a).testBit o = true → l.idxOf a < n → l.idxOf a ≤ l.idxOf x
  | 0, _ => .inl ⟨rfl, fun _ _ _ _ => Nat.zero_le _⟩
  | n + 1, hn => by
    have hid : l.idxOf (row l n) = n := row_idx hl (by omega)
    unfold lastP
    by_cases c : s.dg (row l n) = 2 ∧ (s.wr (row l n)).testBit o = true
    · rw [if_pos c]
      exact .inr ⟨_, rfl, row_memV (by omega), by omega, c.1, c.2, fun a _ _ _ ha => by omega⟩
    · rw [if_neg c]
      have hx : ∀ a, a ∈ l → s.dg a = 2 → (s.wr a).testBit o = true → l.idxOf a ≠ n := fun a ha hd hw e => by
        have := (idx_row ha).1
        rw [e] at this
        rw [this] at c
        exact c ⟨hd, hw⟩
      rcases lastP_cases hl o (n := n) (by omega) with ⟨h1, h2⟩ | ⟨x, h1, h2, h3, h4, h5, h6⟩
      · exact .inl ⟨h1, fun a ha hd hw => by have := h2 a ha hd hw; have := hx a ha hd hw; omega⟩
      · exact .inr ⟨x, h1, h2, by omega, h4, h5, fun a ha hd hw hlt => h6 a ha hd hw (by have := hx a ha hd hw; omega)⟩
theorem idx_inj {l : List Nat} {a b : Nat} (ha : a ∈ l) (hb : b ∈ l) (e : l.idxOf a = l.idxOf b) : a = b := by
  have h1 := (idx_row ha).1
  have h2 := (idx_row hb).1
  rw [e] at h1
  exact h1.symm.trans h2
theorem read_row {s : Vw} (h : VI s) {l : List Nat} (hl : SerR (behR s) l) {t o : Nat} (ht : t ∈ s.ro) (ho : (s.rd t).testBit o = true) : lastP s l o (l.idxOf t) = lastW s o (s.se t) := by
  have ml : ∀ a, a ∈ s.ro → a ∈ l := fun a ha => (hl.mem a).2 (by rw [behR_len]; exact h.lt5 ha)
  have ord : ∀ a b, eVw s a b → l.idxOf a < l.idxOf b := fun a b e => hl.ord a b (by rw [behR_len]; exact h.lt5 e.1) (by rw [behR_len]; exact h.lt5 e.2.1) ((behR_bit h).2 e)
  have o4 := bit16 (h.rb t) ho
  have h1 : ∀ a, (a ∈ s.ro ∧ (s.wr a).testBit o = true) → a ≠ t → 2 * s.ro.idxOf a + 1 < 2 * s.se t → l.idxOf a < l.idxOf t := fun a ⟨ha, hw⟩ hne hlt => ord a t ⟨ha, ht, hne, .inr (.inl ⟨by omega, o, o4, hw, ho⟩)⟩
  have h2 : ∀ a, (a ∈ s.ro ∧ (s.wr a).testBit o = true) → a ≠ t → 2 * s.se t < 2 * s.ro.idxOf a + 1 → l.idxOf t < l.idxOf a := fun a ⟨ha, hw⟩ hne hlt => ord t a ⟨ht, ha, hne.symm, .inr (.inr ⟨by omega, o, o4, ho, hw⟩)⟩
  have hinj : ∀ a b, (a ∈ s.ro ∧ (s.wr a).testBit o = true) → (b ∈ s.ro ∧ (s.wr b).testBit o = true) → 2 * s.ro.idxOf a + 1 = 2 * s.ro.idxOf b + 1 → a = b := fun a b ha hb e => idx_inj ha.1 hb.1 (by omega)
  have h3 : ∀ a b, (a ∈ s.ro ∧ (s.wr a).testBit o = true) → (b ∈ s.ro ∧ (s.wr b).testBit o = true) → 2 * s.ro.idxOf a + 1 < 2 * s.ro.idxOf b + 1 → l.idxOf a < l.idxOf b := fun a b ha hb hlt =>
    chain_all (R := fun a b => l.idxOf a < l.idxOf b) (fun _ _ _ => Nat.lt_trans) (W := fun a => a ∈ s.ro ∧ (s.wr a).testBit o = true) (C := fun a => 2 * s.ro.idxOf a + 1) hinj (fun a b ha hb hlt hno => ord a b ⟨ha.1, hb.1, fun e => by subst e; exact absurd hlt (Nat.lt_irrefl _), .inl ⟨by have : 2 * s.ro.idxOf a + 1 < 2 * s.ro.idxOf b + 1 := hlt; omega, o, o4, ha.2, hb.2, fun c hc c1 c2 => by
      cases e : (s.wr c).testBit o with
      | false => rfl
      | true =>
        have : 2 * s.ro.idxOf c + 1 ≤ 2 * s.ro.idxOf a + 1 := hno c ⟨hc, e⟩ (by show 2 * _ + 1 < 2 * _ + 1; omega)
        omega⟩⟩) _ ha hb hlt (Nat.le_refl _)
  have hwn : s.se t ≤ s.ro.length := h.se t
  have hself := h.own t ht
  have hP := lastP_cases (s := s) hl.nd o (n := l.idxOf t) (Nat.le_of_lt (idx_row (ml t ht)).2)
  rcases lastW_cases h o hwn with ⟨w1, w2⟩ | ⟨x, w1, w2, w3, w4, w5⟩
  · have hv := view_none (l := l) (W := fun a => a ∈ s.ro ∧ (s.wr a).testBit o = true) (t := t) (C := fun a => 2 * s.ro.idxOf a + 1) (bt := 2 * s.se t) h2 (fun a ha _ => by have := w2 a ha.1 ha.2; show 2 * _ < 2 * _ + 1; omega)
    rcases hP with ⟨p1, _⟩ | ⟨y, _, p2, p3, p4, p5, _⟩
    · rw [p1, w1]
    · exact absurd p3 (hv y ⟨(h.ro y).2 p4, p5⟩ (fun e => by subst e; omega))
  · have hxt : x ≠ t := fun e => by subst e; omega
    have hv := view_row (l := l) (W := fun a => a ∈ s.ro ∧ (s.wr a).testBit o = true) (t := t) (C := fun a => 2 * s.ro.idxOf a + 1) (bt := 2 * s.se t) h1 h2 h3 (fun a _ => by show 2 * _ + 1 ≠ 2 * _; omega) (n := x) ⟨⟨w2, w4⟩, hxt, by show 2 * _ + 1 < 2 * _; omega⟩ (fun a ha _ hlt => by
      have hlt' : 2 * s.ro.idxOf a + 1 < 2 * s.se t := hlt
      have := w5 a ha.1 ha.2 (by omega)
      show 2 * _ + 1 ≤ 2 * _ + 1; omega) hinj
    rcases hP with ⟨_, p2⟩ | ⟨y, p1, p2, p3, p4, p5, p6⟩
    · have := p2 x (ml x w2) ((h.ro x).1 w2) w4
      omega
    · have hy := (h.ro y).2 p4
      have a1 := hv.2 y ⟨hy, p5⟩ (fun e => by subst e; omega) p3
      have a2 := p6 x (ml x w2) ((h.ro x).1 w2) w4 hv.1
      have : y = x := idx_inj p2 (ml x w2) (by omega)
      rw [p1, w1, this]
end Go.Proofs.YtajiichehffaaaaDoor.M
namespace Go.Proofs.YtajiichehffaaaaDoor.M
theorem mem_seg {l : List Nat} (h : l.Nodup) {i k b : Nat} : b ∈ (l.drop i).take k ↔ b ∈ l ∧ i ≤ l.idxOf b ∧ l.idxOf b < i + k := by
  constructor
  · intro hb
    obtain ⟨j, hj, rfl⟩ := List.getElem_of_mem hb
    rw [List.length_take, List.length_drop] at hj
    rw [List.getElem_take, List.getElem_drop]
    rw [h.idxOf_getElem]
    exact ⟨List.getElem_mem _, by omega, by omega⟩
  · rintro ⟨h1, h2, h3⟩
    obtain ⟨j, hj, rfl⟩ := List.getElem_of_mem h1
    rw [h.idxOf_getElem] at h2 h3
    rw [List.mem_iff_getElem]
    refine ⟨j - i, by rw [List.length_take, List.length_drop]; omega, ?_⟩
    rw [List.getElem_take, List.getElem_drop]
    congr 1
    omega
/-- what is left of what one wrote, behind those that wrote it since -/
def LfS (s : Vw) (p k lf : Nat) : Prop := lf < 16 ∧ ∀ j, lf.testBit j = ((s.wr (row s.ro p)).testBit j && ((s.ro.drop (p + 1)).take k).all fun c => !(s.wr c).testBit j)
theorem LfS.zero {s : Vw} (h : VI s) (p : Nat) : LfS s p 0 (s.wr (row s.ro p)) := ⟨h.wb _, fun j => by simp⟩
theorem seg_succ {l : List Nat} {i k : Nat} (hk : i + k < l.length) : (l.drop i).take (k + 1) = (l.drop i).take k ++ [row l (i + k)] := by
  rw [take_rowV (by rw [List.length_drop]; omega), drop_row]
theorem LfS.cut {s : Vw} {p k lf r : Nat} (h : LfS s p k lf) (hk : p + 1 + k < s.ro.length) (hr : r ≤ lf) (hb : ∀ j, r.testBit j = (lf.testBit j && !(s.wr (row s.ro (p + 1 + k))).testBit j)) : LfS s p (k + 1) r := by
  refine ⟨by have := h.1; omega, fun j => ?_⟩
  rw [hb, h.2, seg_succ hk, List.all_append]
  simp only [List.all_cons, List.all_nil, Bool.and_true, Bool.and_assoc]
theorem LfS.none {s : Vw} {p k lf : Nat} (h : LfS s p k lf) (hk : p + 1 + k < s.ro.length) (h0 : (s.wr (row s.ro (p + 1 + k)) &&& lf) = 0) : LfS s p (k + 1) lf :=
  h.cut hk (Nat.le_refl _) fun j => by
    cases e1 : lf.testBit j with
    | false => rfl
    | true =>
      cases e2 : (s.wr (row s.ro (p + 1 + k))).testBit j with
      | false => rfl
      | true => exact absurd h0 (and_ne.2 ⟨j, e2, e1⟩)
theorem nx_cond {s : Vw} (h : VI s) {p k lf : Nat} (hl : LfS s p k lf) (hk : p + 1 + k < s.ro.length) : (s.wr (row s.ro (p + 1 + k)) &&& lf) ≠ 0 ↔ nxF s (row s.ro p) (row s.ro (p + 1 + k)) = true := by
  have e1 : s.ro.idxOf (row s.ro p) = p := row_idx h.nd (by omega)
  have e2 : s.ro.idxOf (row s.ro (p + 1 + k)) = p + 1 + k := row_idx h.nd hk
  rw [nxF_iff, and_ne, e1, e2]
  constructor
  · rintro ⟨o, h1, h2⟩
    rw [hl.2, Bool.and_eq_true, List.all_eq_true] at h2
    refine ⟨o, bit16 (h.wb _) h1, h2.1, h1, fun c hc c1 c2 => ?_⟩
    have := h2.2 c ((mem_seg h.nd).2 ⟨hc, by omega, by omega⟩)
    simpa using this
  · rintro ⟨o, _, h1, h2, h3⟩
    refine ⟨o, h2, ?_⟩
    rw [hl.2, Bool.and_eq_true, List.all_eq_true]
    refine ⟨h1, fun c hc => ?_⟩
    obtain ⟨m1, m2, m3⟩ := (mem_seg h.nd).1 hc
    rw [h3 c m1 (by omega) (by omega)]; rfl
/-- of those behind a place, k of them gone along -/
theorem orS_zero (l : List Nat) (f : Nat → Bool) : orL (l.take 0) f = 0 := by rw [List.take_zero]; rfl
theorem orS_yes {l : List Nat} {f : Nat → Bool} {i k u : Nat} (hk : i + k < l.length) (hu : row l (i + k) = u) (h : f u = true) : orL ((l.drop i).take (k + 1)) f = orL ((l.drop i).take k) f ||| 1 <<< u := by
  rw [seg_succ hk, orL_snoc, hu, if_pos h]
theorem orS_no {l : List Nat} {f : Nat → Bool} {i k u : Nat} (hk : i + k < l.length) (hu : row l (i + k) = u) (h : f u = false) : orL ((l.drop i).take (k + 1)) f = orL ((l.drop i).take k) f := by
  rw [seg_succ hk, orL_snoc, hu, if_neg (by rw [h]; simp)]
theorem orS_all {l : List Nat} {f : Nat → Bool} {i k : Nat} (hk : l.length ≤ i + k) : orL ((l.drop i).take k) f = orL (l.drop i) f := by
  rw [List.take_of_length_le (by rw [List.length_drop]; omega)]
theorem VI.orS_lt {s : Vw} (h : VI s) (i k : Nat) (f : Nat → Bool) : orL ((s.ro.drop i).take k) f < 32 := orL_lt fun _ hx => h.lt5 (List.mem_of_mem_drop (List.mem_of_mem_take hx))
end Go.Proofs.YtajiichehffaaaaDoor.M
