/- Plain mathematics of tables: who knows what who knows; what one knows of another one is so, and when all told all it is stable. No program text is named. -/
import Derived.Test.YtlkdclifcmohlaaDoorBMa
namespace Go.Proofs.YtlkdclifcmohlaaDoor.M

/-- by who, of whom, of which -/
abbrev Kt := Nat → Nat → Nat → Nat
def k0 : Kt := fun _ _ _ => 0
/-- one more of one's own -/
def wrK (k : Kt) (p : Nat) : Kt := fun a b c => if a = p ∧ b = p ∧ c = p then k a b c + 1 else k a b c
/-- who is told knows of itself what the other one does -/
def tl1 (k : Kt) (f t : Nat) : Kt := fun a b w => if a = t ∧ b = t then Nat.max (k t t w) (k f f w) else k a b w
/-- and of those below j, too -/
def tlJ (k : Kt) (f t j : Nat) : Kt := fun a b w => if a = t ∧ b < j then Nat.max (tl1 k f t t b w) (k f b w) else tl1 k f t a b w
/-- a write: the table behind it, and what is wrong -/
def wrT (n : Nat) (k : Kt) (z : Int) : Kt × Nat :=
  if ¬ (0 ≤ z ∧ z < n) then (k, 1) else if 60 ≤ k z.toNat z.toNat z.toNat then (k, 4) else (wrK k z.toNat, 0)
/-- a telling: the table behind it, and what is wrong -/
def teT (n : Nat) (k : Kt) (f t : Int) : Kt × Nat :=
  if ¬ (0 ≤ f ∧ f < n) ∨ ¬ (0 ≤ t ∧ t < n) then (k, 1) else if f = t then (k, 6) else (tlJ k f.toNat t.toNat n, 0)
theorem tlJ_zero (k : Kt) (f t : Nat) : tlJ k f t 0 = tl1 k f t := by
  funext a b w
  unfold tlJ
  rw [if_neg (fun h => absurd h.2 (Nat.not_lt_zero _))]
theorem tlJ_other (k : Kt) {f t a : Nat} (j b w : Nat) (h : a ≠ t) : tlJ k f t j a b w = k a b w := by
  unfold tlJ tl1
  rw [if_neg (fun x => h x.1), if_neg (fun x => h x.1)]
theorem tlJ_step (k : Kt) {f t : Nat} (j : Nat) : tlJ k f t (j + 1) = fun a b w => if a = t ∧ b = j then Nat.max (tlJ k f t j t j w) (k f j w) else tlJ k f t j a b w := by
  funext a b w
  by_cases h : a = t ∧ b = j
  · obtain ⟨rfl, rfl⟩ := h
    unfold tlJ
    rw [if_pos ⟨rfl, Nat.lt_succ_self _⟩, if_pos ⟨rfl, rfl⟩, if_neg (fun x => absurd x.2 (Nat.lt_irrefl _))]
  · rw [if_neg h]
    unfold tlJ
    by_cases h2 : a = t ∧ b < j
    · rw [if_pos h2, if_pos ⟨h2.1, by omega⟩]
    · rw [if_neg h2, if_neg (fun x => by
        have : ¬ b = j := fun e => h ⟨x.1, e⟩
        exact h2 ⟨x.1, by omega⟩)]
theorem max_le {a b c : Nat} (h : a ≤ c) (h2 : b ≤ c) : Nat.max a b ≤ c := by show max a b ≤ c; omega
theorem le_max {a b c : Nat} (h : c ≤ a) : c ≤ Nat.max a b := by show c ≤ max a b; omega
theorem le_max2 {a b c : Nat} (h : c ≤ b) : c ≤ Nat.max a b := by show c ≤ max a b; omega
theorem tl1_mono (k : Kt) (f t a b w : Nat) : k a b w ≤ tl1 k f t a b w := by
  unfold tl1
  by_cases h : a = t ∧ b = t
  · obtain ⟨rfl, rfl⟩ := h
    rw [if_pos ⟨rfl, rfl⟩]; exact le_max (Nat.le_refl _)
  · rw [if_neg h]; exact Nat.le_refl _
theorem tlJ_mono (k : Kt) (f t j a b w : Nat) : k a b w ≤ tlJ k f t j a b w := by
  unfold tlJ
  by_cases h : a = t ∧ b < j
  · rw [if_pos h, ← h.1]; exact le_max (tl1_mono k f a a b w)
  · rw [if_neg h]; exact tl1_mono k f t a b w
/-- who is told knows of itself what the other one does -/
theorem tlJ_self (k : Kt) (f t j w : Nat) : k f f w ≤ tlJ k f t j t t w := by
  have h : k f f w ≤ tl1 k f t t t w := by unfold tl1; rw [if_pos ⟨rfl, rfl⟩]; exact le_max2 (Nat.le_refl _)
  unfold tlJ
  by_cases e : t < j
  · rw [if_pos ⟨rfl, e⟩]; exact le_max h
  · rw [if_neg (fun x => e x.2)]; exact h
theorem tlJ_of (k : Kt) {f t j b : Nat} (w : Nat) (h : b < j) : k f b w ≤ tlJ k f t j t b w := by
  unfold tlJ
  rw [if_pos ⟨rfl, h⟩]; exact le_max2 (Nat.le_refl _)
/-- What always holds: how often each wrote. -/
structure TI (n : Nat) (k : Kt) (W : Nat → Nat) : Prop where
  snd : ∀ a b w, a < n → b < n → w < n → k a b w ≤ k b b w
  own : ∀ w, w < n → k w w w = W w
  le : ∀ a b w, a < n → b < n → w < n → k a b w ≤ W w
  cap : ∀ w, w < n → W w ≤ 60
theorem TI.zero (n : Nat) : TI n k0 (fun _ => 0) := ⟨fun _ _ _ _ _ _ => Nat.le_refl _, fun _ _ => rfl, fun _ _ _ _ _ _ => Nat.le_refl _, fun _ _ => by omega⟩
def more1 (W : Nat → Nat) (p : Nat) : Nat → Nat := fun w => if w = p then W w + 1 else W w
theorem wrK_mono (k : Kt) (p a b w : Nat) : k a b w ≤ wrK k p a b w := by
  unfold wrK
  split <;> omega
theorem TI.wr {n : Nat} {k : Kt} {W : Nat → Nat} (h : TI n k W) {p : Nat} (hp : p < n) (hc : ¬ 60 ≤ k p p p) : TI n (wrK k p) (more1 W p) := by
  refine ⟨fun a b w ha hb hw => ?_, fun w hw => ?_, fun a b w ha hb hw => ?_, fun w hw => ?_⟩
  · by_cases e : a = p ∧ b = p ∧ w = p
    · obtain ⟨rfl, rfl, rfl⟩ := e
      exact Nat.le_refl _
    · have h1 : wrK k p a b w = k a b w := by unfold wrK; rw [if_neg e]
      rw [h1]
      exact Nat.le_trans (h.snd a b w ha hb hw) (wrK_mono k p b b w)
  · unfold wrK more1
    by_cases e : w = p
    · subst e; rw [if_pos ⟨rfl, rfl, rfl⟩, if_pos rfl, h.own w hw]
    · rw [if_neg (fun x => e x.1), if_neg e, h.own w hw]
  · have h1 := h.le a b w ha hb hw
    unfold wrK more1
    by_cases e : a = p ∧ b = p ∧ w = p
    · rw [if_pos e, if_pos e.2.2]; omega
    · rw [if_neg e]
      split <;> omega
  · have h1 := h.own p hp
    have h2 := h.cap w hw
    unfold more1
    by_cases e : w = p
    · subst e; rw [if_pos rfl]; omega
    · rw [if_neg e]; exact h2
theorem tlJ_le {n : Nat} {k : Kt} {f t j : Nat} {c : Nat → Nat} (hf : f < n) (ht : t < n) (h : ∀ a b w, a < n → b < n → w < n → k a b w ≤ c w) : ∀ a b w, a < n → b < n → w < n → tlJ k f t j a b w ≤ c w := by
  intro a b w ha hb hw
  have h1 : ∀ a b, a < n → b < n → tl1 k f t a b w ≤ c w := by
    intro a b ha hb
    unfold tl1
    split
    · exact max_le (h _ _ _ ht ht hw) (h _ _ _ hf hf hw)
    · exact h _ _ _ ha hb hw
  unfold tlJ
  split
  · exact max_le (h1 _ _ ht hb) (h _ _ _ hf hb hw)
  · exact h1 _ _ ha hb
theorem TI.te {n : Nat} {k : Kt} {W : Nat → Nat} (h : TI n k W) {f t : Nat} (hf : f < n) (ht : t < n) : TI n (tlJ k f t n) W := by
  have hle := tlJ_le (j := n) hf ht h.le
  refine ⟨fun a b w ha hb hw => ?_, fun w hw => ?_, hle, h.cap⟩
  · by_cases e : a = t
    · subst e
      by_cases e2 : b = a
      · subst e2; exact Nat.le_refl _
      · rw [tlJ_other k n b w e2]
        unfold tlJ tl1
        rw [if_pos ⟨rfl, hb⟩, if_neg (fun x => e2 x.2)]
        exact max_le (h.snd _ _ _ ha hb hw) (h.snd _ _ _ hf hb hw)
    · rw [tlJ_other k n b w e]
      exact Nat.le_trans (h.snd a b w ha hb hw) (tlJ_mono k f t n b b w)
  · have h1 := hle w w w hw hw hw
    have h2 := tlJ_mono k f t n w w w
    rw [h.own w hw] at h2
    omega
/-! ### when all told all -/
/-- the first p told all, and p the first q: each knows itself of all that those wrote -/
def D0 (n : Nat) (k : Kt) (W : Nat → Nat) (p q : Nat) : Prop := ∀ a b, a < n → b < n → (a < p ∨ (a = p ∧ b < q)) → k b b a = W a
/-- likewise each knows that those know all -/
def D1 (n : Nat) (k : Kt) (W : Nat → Nat) (p q : Nat) : Prop := ∀ a b w, a < n → b < n → w < n → (a < p ∨ (a = p ∧ b < q)) → k b a w = W w
def A0 (n : Nat) (k : Kt) (W : Nat → Nat) : Prop := ∀ b w, b < n → w < n → k b b w = W w
def A1 (n : Nat) (k : Kt) (W : Nat → Nat) : Prop := ∀ b a w, b < n → a < n → w < n → k b a w = W w
/-- How it stands in round r, at p and q. -/
structure TR (n : Nat) (k : Kt) (W : Nat → Nat) (r p q : Nat) : Prop where
  ti : TI n k W
  r0 : r = 0 → D0 n k W p q
  r1 : r = 1 → A0 n k W ∧ D1 n k W p q
  r2 : 2 ≤ r → A1 n k W
theorem TR.begin {n : Nat} {k : Kt} {W : Nat → Nat} (h : TI n k W) : TR n k W 0 0 0 := ⟨h, fun _ a b _ _ x => by omega, fun e => by omega, fun e => by omega⟩
theorem TR.row {n : Nat} {k : Kt} {W : Nat → Nat} {r p : Nat} (h : TR n k W r p n) : TR n k W r (p + 1) 0 :=
  ⟨h.ti, fun e a b ha hb x => h.r0 e a b ha hb (by omega), fun e => ⟨(h.r1 e).1, fun a b w ha hb hw x => (h.r1 e).2 a b w ha hb hw (by omega)⟩, h.r2⟩
theorem TR.round {n : Nat} {k : Kt} {W : Nat → Nat} {r : Nat} (h : TR n k W r n 0) : TR n k W (r + 1) 0 0 :=
  ⟨h.ti, fun e => by omega, fun e => ⟨fun b w hb hw => h.r0 (by omega) w b hw hb (.inl hw), fun a b w _ _ _ x => by omega⟩, fun e => by
    by_cases e1 : r = 1
    · exact fun b a w hb ha hw => (h.r1 e1).2 a b w ha hb hw (.inl ha)
    · exact h.r2 (by omega)⟩
/-- one does not tell itself -/
theorem TR.same {n : Nat} {k : Kt} {W : Nat → Nat} {r p : Nat} (h : TR n k W r p p) : TR n k W r p (p + 1) :=
  ⟨h.ti, fun e a b ha hb x => by
    by_cases e2 : a = p ∧ b = p
    · obtain ⟨h1, h2⟩ := e2; rw [h1, h2]; rw [h1] at ha; exact h.ti.own _ ha
    · exact h.r0 e a b ha hb (by omega), fun e => ⟨(h.r1 e).1, fun a b w ha hb hw x => by
    by_cases e2 : a = p ∧ b = p
    · obtain ⟨h1, h2⟩ := e2; rw [h1, h2]; rw [h1] at ha; exact (h.r1 e).1 p w ha hw
    · exact (h.r1 e).2 a b w ha hb hw (by omega)⟩, h.r2⟩
theorem TR.tell {n : Nat} {k : Kt} {W : Nat → Nat} {r p q : Nat} (h : TR n k W r p q) (hp : p < n) (hq : q < n) : TR n (tlJ k p q n) W r p (q + 1) := by
  have hle := (h.ti.te hp hq).le
  have up : ∀ a b w, a < n → b < n → w < n → k a b w = W w → tlJ k p q n a b w = W w := fun a b w ha hb hw e => by
    have h1 := hle a b w ha hb hw
    have h2 := tlJ_mono k p q n a b w
    omega
  refine ⟨h.ti.te hp hq, fun e a b ha hb x => ?_, fun e => ⟨fun b w hb hw => up b b w hb hb hw ((h.r1 e).1 b w hb hw), fun a b w ha hb hw x => ?_⟩, fun e b a w hb ha hw => up b a w hb ha hw (h.r2 e b a w hb ha hw)⟩
  · by_cases e2 : a = p ∧ b = q
    · obtain ⟨rfl, rfl⟩ := e2
      have h1 := tlJ_self k a b n a
      have h2 := hle b b a hb hb ha
      have h3 := h.ti.own a ha
      omega
    · exact up b b a hb hb ha (h.r0 e a b ha hb (by omega))
  · by_cases e2 : a = p ∧ b = q
    · obtain ⟨rfl, rfl⟩ := e2
      have h1 := tlJ_of k (f := a) (t := b) w ha
      have h2 := hle b a w hb ha hw
      have h3 := (h.r1 e).1 a w ha hw
      omega
    · exact up b a w hb ha hw ((h.r1 e).2 a b w ha hb hw (by omega))
/-! ### the least of what one knows -/
/-- the least of the first j -/
def lst (f : Nat → Nat) (s : Nat) : Nat → Nat
  | 0 => s
  | j + 1 => Nat.min (lst f s j) (f j)
theorem lst_le (f : Nat → Nat) (s : Nat) : ∀ {j i : Nat}, i < j → lst f s j ≤ f i
  | j + 1, i, h => by
    simp only [lst]
    by_cases e : i = j
    · subst e; exact Nat.min_le_right _ _
    · exact Nat.le_trans (Nat.min_le_left _ _) (lst_le f s (by omega))
theorem lst_start (f : Nat → Nat) (s : Nat) : ∀ j, lst f s j ≤ s
  | 0 => Nat.le_refl _
  | j + 1 => Nat.le_trans (Nat.min_le_left _ _) (lst_start f s j)
theorem lst_eq {f : Nat → Nat} {s : Nat} : ∀ {j : Nat}, (∀ i, i < j → f i = s) → lst f s j = s
  | 0, _ => rfl
  | j + 1, h => by
    simp only [lst]
    rw [lst_eq (fun i hi => h i (by omega)), h j (by omega)]
    exact Nat.min_self _
theorem lst_glb {f : Nat → Nat} {s c : Nat} (hs : c ≤ s) : ∀ {j : Nat}, (∀ i, i < j → c ≤ f i) → c ≤ lst f s j
  | 0, _ => hs
  | j + 1, h => Nat.le_min.2 ⟨lst_glb hs (fun i hi => h i (by omega)), h j (by omega)⟩
theorem lst_in (f : Nat → Nat) {j a b : Nat} (ha : a < j) (hb : b < j) : lst f (f a) j = lst f (f b) j :=
  Nat.le_antisymm (lst_glb (lst_le f _ hb) (fun _ hi => lst_le f _ hi)) (lst_glb (lst_le f _ ha) (fun _ hi => lst_le f _ hi))
end Go.Proofs.YtlkdclifcmohlaaDoor.M
