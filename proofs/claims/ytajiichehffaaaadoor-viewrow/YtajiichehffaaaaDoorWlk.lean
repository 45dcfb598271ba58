/- Plain mathematics of locks: who writes is alone; what is done goes by who freed first; who is stuck stays stuck. No program text is named. -/
import Derived.Test.YtajiichehffaaaaDoorWsc
namespace Go.Proofs.YtajiichehffaaaaDoor.M

/-- locks: by a transaction and an item what it holds (1 to read, 2 to write, 3 both); for what each waits: 0 nothing, else one more than twice the item, and one more to write; who freed something, the first ones first; what was done -/
structure Lk where
  hd : Nat → Nat → Nat
  wa : Nat → Nat
  fo : List Nat
  ac : List SAct
def lk0 : Lk := ⟨fun _ _ => 0, fun _ => 0, [], []⟩
/-- does y hold what stands against the lock? -/
def agB (s : Lk) (x o own y : Nat) : Bool := decide (y ≠ x) && (decide (2 ≤ s.hd y o) || (own == 1 && s.hd y o == 1))
def up2 (f : Nat → Nat → Nat) (t o v : Nat) : Nat → Nat → Nat := fun x y => if x = t ∧ y = o then v else f x y
def up1 (f : Nat → Nat) (t v : Nat) : Nat → Nat := fun x => if x = t then v else f x
def wth (h k : Nat) : Nat := h ||| 2 ^ k
def has5 (p : Nat → Bool) : Bool := (List.range 5).any p
/-- a deed: the locks behind it, and what is wrong -/
def lkDo (s : Lk) (kind t o wr : Nat) : Lk × Nat :=
  if kind ≤ 1 then
    if t ∈ s.fo then (s, 7)
    else if has5 (agB s t o kind) = true then ({ s with wa := up1 s.wa t (o * 2 + kind + 1) }, 6)
    else ({ s with wa := up1 s.wa t 0, hd := up2 s.hd t o (wth (s.hd t o) kind) }, 0)
  else if kind = 2 then
    if s.hd t o = 0 then (s, 5) else ({ s with hd := up2 s.hd t o 0, fo := if t ∈ s.fo then s.fo else s.fo ++ [t] }, 0)
  else if s.hd t o = 0 ∨ (s.hd t o = 1 ∧ wr = 1) then (s, 5)
  else if 24 ≤ s.ac.length then (s, 4)
  else ({ s with ac := s.ac ++ [⟨t, o, wr⟩] }, 0)
theorem has5_no {p : Nat → Bool} (h : ¬ has5 p = true) {y : Nat} (hy : y < 5) : p y = false := by
  cases e : p y with
  | false => rfl
  | true => exact absurd (by unfold has5; rw [List.any_eq_true]; exact ⟨y, List.mem_range.2 hy, e⟩) h
/-- is what is held enough for an act? -/
def enough (h wr : Nat) : Prop := h ≠ 0 ∧ (wr = 1 → 2 ≤ h)
/-- What always holds of locks. -/
structure LI (s : Lk) : Prop where
  le : ∀ t o, s.hd t o ≤ 3
  apart : ∀ t u o, t < 5 → u < 5 → t ≠ u → 2 ≤ s.hd t o → s.hd u o = 0
  own : ∀ a, a ∈ s.ac → a.tx < 5 ∧ (enough (s.hd a.tx a.it) a.wr ∨ a.tx ∈ s.fo)
  ahead : ∀ a u, a ∈ s.ac → u < 5 → u ≠ a.tx → s.hd u a.it ≠ 0 → (a.wr = 1 ∨ 2 ≤ s.hd u a.it) → a.tx ∈ s.fo ∧ s.fo.idxOf a.tx < s.fo.idxOf u
  edge : ∀ t u, Edge s.ac t u → t ∈ s.fo ∧ s.fo.idxOf t < s.fo.idxOf u
theorem wth_val (h : Nat) (hh : h ≤ 3) : wth h 0 ≠ 0 ∧ wth h 0 ≤ 3 ∧ (2 ≤ wth h 0 ↔ 2 ≤ h) ∧ wth h 1 ≤ 3 ∧ 2 ≤ wth h 1 := by
  have : h = 0 ∨ h = 1 ∨ h = 2 ∨ h = 3 := by omega
  unfold wth
  rcases this with rfl | rfl | rfl | rfl <;> decide
theorem LI.zero : LI lk0 := ⟨fun _ _ => Nat.zero_le _, fun _ _ _ _ _ _ h => absurd h (by show ¬ 2 ≤ 0; omega), fun _ h => absurd h (List.not_mem_nil), fun _ _ h => absurd h (List.not_mem_nil), fun t u ⟨_, i, j, hij, hj, _⟩ => absurd hj (Nat.not_lt_zero _)⟩
theorem edge_snoc {s : List SAct} {a : SAct} {t u : Nat} (h : Edge (s ++ [a]) t u) : Edge s t u ∨ (u = a.tx ∧ ∃ b, b ∈ s ∧ b.tx = t ∧ t ≠ a.tx ∧ clash b a = true) := by
  obtain ⟨hne, i, j, hij, hj, h1, h2, h3⟩ := h
  rw [List.length_append] at hj
  have hj' : j < s.length + 1 := hj
  have old : ∀ {k : Nat}, k < s.length → sat (s ++ [a]) k = sat s k := fun {k} hk => by unfold sat; rw [List.getElem?_append_left hk]
  have new : sat (s ++ [a]) s.length = a := by unfold sat; rw [List.getElem?_append_right (Nat.le_refl _), Nat.sub_self]; rfl
  by_cases c : j = s.length
  · subst c
    right
    rw [new] at h2 h3
    rw [old hij] at h1 h3
    refine ⟨h2.symm, sat s i, ?_, h1, by rw [h2]; exact hne, h3⟩
    unfold sat
    rw [List.getElem?_eq_getElem hij]
    exact List.getElem_mem hij
  · left
    have hj2 : j < s.length := by omega
    rw [old (by omega)] at h1 h3
    rw [old hj2] at h2 h3
    exact ⟨hne, i, j, hij, hj2, h1, h2, h3⟩
theorem idx_snoc {l : List Nat} {x t u : Nat} (ht : t ∈ l) (h : l.idxOf t < l.idxOf u) : (l ++ [x]).idxOf t < (l ++ [x]).idxOf u := by
  rw [idx_app ht]
  by_cases c : u ∈ l
  · rw [idx_app c]; exact h
  · rw [idx_not c]
    have := (idx_row ht).2
    omega
theorem clash_parts {a b : SAct} (h : clash a b = true) : a.it = b.it ∧ (a.wr = 1 ∨ b.wr = 1) := by
  unfold clash at h
  rw [Bool.and_eq_true, Bool.or_eq_true, beq_iff_eq, beq_iff_eq, beq_iff_eq] at h
  exact h
/-- a deed keeps it -/
theorem LI.step {s : Lk} (h : LI s) (kind : Nat) {t : Nat} (o wr : Nat) (ht : t < 5) : LI (lkDo s kind t o wr).1 := by
  unfold lkDo
  by_cases k1 : kind ≤ 1
  · rw [if_pos k1]
    by_cases f : t ∈ s.fo
    · rw [if_pos f]; exact h
    · rw [if_neg f]
      by_cases g : has5 (agB s t o kind) = true
      · rw [if_pos g]; exact ⟨h.le, h.apart, h.own, h.ahead, h.edge⟩
      · rw [if_neg g]
        have hv := wth_val (s.hd t o) (h.le t o)
        have no : ∀ y, y < 5 → y ≠ t → s.hd y o < 2 ∧ (kind = 1 → s.hd y o = 0) := fun y hy hne => by
          have := has5_no g hy
          unfold agB at this
          rw [show decide (y ≠ t) = true from decide_eq_true hne, Bool.true_and, Bool.or_eq_false_iff] at this
          have h1 := of_decide_eq_false this.1
          refine ⟨by omega, fun e => ?_⟩
          have h2 := this.2
          rw [e] at h2
          simp at h2
          omega
        have hk : kind = 0 ∨ kind = 1 := by omega
        have v : ∀ x y, up2 s.hd t o (wth (s.hd t o) kind) x y = if x = t ∧ y = o then wth (s.hd t o) kind else s.hd x y := fun x y => rfl
        have grow : ∀ x y wr, enough (s.hd x y) wr → enough (up2 s.hd t o (wth (s.hd t o) kind) x y) wr := fun x y wr e => by
          rw [v]
          by_cases c : x = t ∧ y = o
          · rw [if_pos c]
            obtain ⟨rfl, rfl⟩ := c
            rcases hk with rfl | rfl
            · exact ⟨hv.1, fun w => (hv.2.2.1).2 (e.2 w)⟩
            · exact ⟨by have := hv.2.2.2.2; omega, fun _ => hv.2.2.2.2⟩
          · rw [if_neg c]; exact e
        refine ⟨fun x y => ?_, fun x u y hx hu hne h2 => ?_, fun a ha => ⟨(h.own a ha).1, (h.own a ha).2.imp (grow _ _ _) id⟩, fun a u ha hu hne h0 hc => ?_, h.edge⟩
        · show up2 _ _ _ _ x y ≤ 3
          rw [v]
          split
          · rcases hk with rfl | rfl
            · exact hv.2.1
            · exact hv.2.2.2.1
          · exact h.le x y
        · change 2 ≤ up2 _ _ _ _ x y at h2
          show up2 _ _ _ _ u y = 0
          rw [v] at h2 ⊢
          by_cases c : x = t ∧ y = o
          · obtain ⟨rfl, rfl⟩ := c
            rw [if_neg (fun e => hne e.1.symm)]
            rw [if_pos ⟨rfl, rfl⟩] at h2
            rcases hk with rfl | rfl
            · exact h.apart x u y hx hu hne ((hv.2.2.1).1 h2)
            · exact (no u hu (Ne.symm hne)).2 rfl
          · rw [if_neg c] at h2
            by_cases c2 : u = t ∧ y = o
            · obtain ⟨rfl, rfl⟩ := c2
              have := (no x hx hne).1
              omega
            · rw [if_neg c2]; exact h.apart x u y hx hu hne h2
        · change up2 _ _ _ _ u a.it ≠ 0 at h0
          change a.wr = 1 ∨ 2 ≤ up2 _ _ _ _ u a.it at hc
          show a.tx ∈ s.fo ∧ s.fo.idxOf a.tx < s.fo.idxOf u
          rw [v] at h0 hc
          by_cases c : u = t ∧ a.it = o
          · -- it holds the lock now: who acted freed it
            rw [if_pos c] at h0 hc
            obtain ⟨rfl, e2⟩ := c
            have hin : a.tx ∈ s.fo := by
              rcases (h.own a ha).2 with e | e
              · exfalso
                have n1 := no a.tx (h.own a ha).1 (Ne.symm hne)
                rw [← e2] at n1
                rcases hk with rfl | rfl
                · rcases hc with w | w
                  · have := e.2 w; omega
                  · have w2 := (hv.2.2.1).1 w
                    have := h.apart u a.tx o hu (h.own a ha).1 hne w2
                    rw [← e2] at this
                    exact e.1 this
                · exact e.1 (n1.2 rfl)
              · exact e
            refine ⟨hin, ?_⟩
            have h1 := (idx_row hin).2
            have h2 : s.fo.idxOf u = s.fo.length := List.idxOf_eq_length f
            omega
          · rw [if_neg c] at h0 hc
            exact h.ahead a u ha hu hne h0 hc
  · rw [if_neg k1]
    by_cases k2 : kind = 2
    · rw [if_pos k2]
      by_cases g : s.hd t o = 0
      · rw [if_pos g]; exact h
      · rw [if_neg g]
        have v : ∀ x y, up2 s.hd t o 0 x y = if x = t ∧ y = o then 0 else s.hd x y := fun x y => rfl
        have keep : ∀ {x u : Nat}, x ∈ s.fo → s.fo.idxOf x < s.fo.idxOf u → x ∈ (if t ∈ s.fo then s.fo else s.fo ++ [t]) ∧ (if t ∈ s.fo then s.fo else s.fo ++ [t]).idxOf x < (if t ∈ s.fo then s.fo else s.fo ++ [t]).idxOf u := fun {x u} h1 h2 => by
          by_cases f : t ∈ s.fo
          · rw [if_pos f]; exact ⟨h1, h2⟩
          · rw [if_neg f]; exact ⟨List.mem_append_left _ h1, idx_snoc h1 h2⟩
        refine ⟨fun x y => ?_, fun x u y hx hu hne h2 => ?_, fun a ha => ⟨(h.own a ha).1, ?_⟩, fun a u ha hu hne h0 hc => ?_, fun x u e => keep (h.edge x u e).1 (h.edge x u e).2⟩
        · show up2 _ _ _ _ x y ≤ 3
          rw [v]
          split
          · omega
          · exact h.le x y
        · change 2 ≤ up2 _ _ _ _ x y at h2
          show up2 _ _ _ _ u y = 0
          rw [v] at h2 ⊢
          by_cases c : x = t ∧ y = o
          · rw [if_pos c] at h2; omega
          · rw [if_neg c] at h2
            split
            · rfl
            · exact h.apart x u y hx hu hne h2
        · show enough (up2 _ _ _ _ a.tx a.it) a.wr ∨ _
          rw [v]
          by_cases c : a.tx = t ∧ a.it = o
          · right
            show a.tx ∈ (if t ∈ s.fo then s.fo else s.fo ++ [t])
            rw [c.1]
            by_cases f : t ∈ s.fo
            · rw [if_pos f]; exact f
            · rw [if_neg f]; simp
          · rw [if_neg c]
            refine (h.own a ha).2.imp id (fun e => ?_)
            show a.tx ∈ (if t ∈ s.fo then s.fo else s.fo ++ [t])
            by_cases f : t ∈ s.fo
            · rw [if_pos f]; exact e
            · rw [if_neg f]; exact List.mem_append_left _ e
        · change up2 _ _ _ _ u a.it ≠ 0 at h0
          change a.wr = 1 ∨ 2 ≤ up2 _ _ _ _ u a.it at hc
          rw [v] at h0 hc
          by_cases c : u = t ∧ a.it = o
          · rw [if_pos c] at h0; exact absurd rfl h0
          · rw [if_neg c] at h0 hc
            have := h.ahead a u ha hu hne h0 hc
            exact keep this.1 this.2
    · rw [if_neg k2]
      by_cases g : s.hd t o = 0 ∨ (s.hd t o = 1 ∧ wr = 1)
      · rw [if_pos g]; exact h
      · rw [if_neg g]
        by_cases l : 24 ≤ s.ac.length
        · rw [if_pos l]; exact h
        · rw [if_neg l]
          have en : enough (s.hd t o) wr := ⟨fun e => g (.inl e), fun w => by
            have h1 : s.hd t o ≠ 0 := fun e => g (.inl e)
            have h2 : s.hd t o ≠ 1 := fun e => g (.inr ⟨e, w⟩)
            omega⟩
          refine ⟨h.le, h.apart, fun a ha => ?_, fun a u ha hu hne h0 hc => ?_, fun x u e => ?_⟩
          · rcases List.mem_append.1 ha with e | e
            · exact h.own a e
            · rw [List.mem_singleton] at e
              subst e
              exact ⟨ht, .inl en⟩
          · rcases List.mem_append.1 ha with e | e
            · exact h.ahead a u e hu hne h0 hc
            · exfalso
              rw [List.mem_singleton] at e
              subst e
              change u ≠ t at hne
              change s.hd u o ≠ 0 at h0
              change wr = 1 ∨ 2 ≤ s.hd u o at hc
              rcases hc with w | w
              · exact h0 (h.apart t u o ht hu (Ne.symm hne) (en.2 w))
              · exact en.1 (h.apart u t o hu ht hne w)
          · rcases edge_snoc e with e | ⟨e1, b, hb, e2, hne, hc⟩
            · exact h.edge x u e
            · obtain ⟨c1, c2⟩ := clash_parts hc
              change b.it = o at c1
              change b.wr = 1 ∨ wr = 1 at c2
              change u = t at e1
              rw [e1, ← e2]
              rw [← e2] at hne
              change b.tx ≠ t at hne
              refine h.ahead b t hb ht (fun e => hne e.symm) (by rw [c1]; exact en.1) ?_
              rw [c1]
              exact c2.imp id en.2
/-- two phases are enough: what was done has no ring -/
theorem two_phases {s : Lk} (h : LI s) {E : List Nat} (hok : Ok E) (hE : ∀ t u, (row E t).testBit u = true → Edge s.ac t u) : ¬ Ring E := fun ⟨i, k⟩ => by
  have key : ∀ j, Clo E i j → s.fo.idxOf i < s.fo.idxOf j := fun j hj =>
    clo_least (fun j => s.fo.idxOf i < s.fo.idxOf j) (fun j e => (h.edge i j (hE i j e)).2) (fun j m h1 e => Nat.lt_trans h1 (h.edge j m (hE j m e)).2) hj
  have := hok i
  exact absurd (key i k) (Nat.lt_irrefl _)
/-! ### who is stuck -/
/-- who is in a ring has one next to it that is -/
theorem ring_next {r : List Nat} (hr : Ok r) {x : Nat} (h : Clo r x x) : ∃ y, (row r x).testBit y = true ∧ Clo r y y := by
  have : ∃ y, (row r x).testBit y = true ∧ (y = x ∨ Clo r y x) :=
    clo_least (fun j => ∃ y, (row r x).testBit y = true ∧ (y = j ∨ Clo r y j)) (fun j e => ⟨j, e, .inl rfl⟩) (fun j k ⟨y, h1, h2⟩ e => by
      refine ⟨y, h1, .inr ?_⟩
      rcases h2 with rfl | h2
      · exact clo_base e
      · exact clo_step hr h2 e) h
  obtain ⟨y, h1, h2⟩ := this
  refine ⟨y, h1, ?_⟩
  rcases h2 with rfl | h2
  · exact h
  · exact clo_step hr h2 h1
/-- rings stay, where what those in rings wait for of each other does -/
theorem ring_stays {r r' : List Nat} (hr : Ok r) (hr' : Ok r') (h : ∀ x y, Clo r x x → Clo r y y → (row r x).testBit y = true → (row r' x).testBit y = true) {x : Nat} (hx : Clo r x x) : Clo r' x x := by
  have key : ∀ j, Clo r x j → Clo r x j ∧ (Clo r j x → Clo r' x j) := fun j hj =>
    clo_least (fun j => Clo r x j ∧ (Clo r j x → Clo r' x j)) (fun j e => ⟨clo_base e, fun k => clo_base (h x j hx (clo_trans hr k (clo_base e)) e)⟩) (fun j k ⟨h1, h2⟩ e => by
      refine ⟨clo_step hr h1 e, fun kx => ?_⟩
      have jx : Clo r j x := clo_trans hr (clo_base e) kx
      have hj : Clo r j j := clo_trans hr jx h1
      have hk : Clo r k k := clo_trans hr kx (clo_step hr h1 e)
      exact clo_step hr' (h2 jx) (h j k hj hk e)) hj
  exact (key x hx).2 hx
end Go.Proofs.YtajiichehffaaaaDoor.M
