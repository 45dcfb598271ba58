/- Plain mathematics: the least row by trying, in any states; rows in which each stands ahead of those in its set; there is one just if nothing stands behind itself. No program text is named. -/
import Derived.Test.YtajiichehffaaaaDoorFst
namespace Go.Proofs.YtajiichehffaaaaDoor.M

section
variable {σ : Type}
/-- a row that goes on from a state -/
def GoG (n : Nat) (can : σ → Nat → Bool) (nx : σ → Nat → σ) : σ → List Nat → Prop
  | _, [] => True
  | s, i :: r => i < n ∧ can s i = true ∧ GoG n can nx (nx s i) r
/-- of k more, the least row that goes on -/
def gb (n : Nat) (can : σ → Nat → Bool) (nx : σ → Nat → σ) : Nat → σ → Option (List Nat)
  | 0, _ => some []
  | k + 1, s => (List.range n).findSome? fun i => if can s i then (gb n can nx k (nx s i)).map (i :: ·) else none
/-- a comes ahead of b, or is it -/
def LxG : List Nat → List Nat → Prop
  | [], _ => True
  | x :: r, y :: s => x < y ∨ (x = y ∧ LxG r s)
  | _ :: _, [] => False
theorem lxG_anti : ∀ {a b : List Nat}, a.length = b.length → LxG a b → LxG b a → a = b
  | [], [], _, _, _ => rfl
  | [], _ :: _, h, _, _ => by cases h
  | _ :: _, [], h, _, _ => by cases h
  | x :: r, y :: s, h, h1, h2 => by
    simp only [LxG] at h1 h2
    have e : x = y := by
      rcases h1 with h1 | h1
      · rcases h2 with h2 | h2 <;> omega
      · exact h1.1
    subst e
    have e1 : LxG r s := by
      rcases h1 with h1 | h1
      · omega
      · exact h1.2
    have e2 : LxG s r := by
      rcases h2 with h2 | h2
      · omega
      · exact h2.2
    rw [lxG_anti (by simpa using h) e1 e2]
variable {n : Nat} {can : σ → Nat → Bool} {nx : σ → Nat → σ}
theorem gb_sound : ∀ {k : Nat} {s : σ} {l : List Nat}, gb n can nx k s = some l → l.length = k ∧ GoG n can nx s l
  | 0, _, l, e => by
    simp only [gb, Option.some.injEq] at e
    subst e
    exact ⟨rfl, trivial⟩
  | k + 1, s, l, e => by
    simp only [gb] at e
    obtain ⟨l1, i, l2, e1, e2, _⟩ := List.findSome?_eq_some_iff.1 e
    have hi : i < n := List.mem_range.1 (by rw [e1]; simp)
    by_cases c : can s i = true
    · rw [if_pos c] at e2
      obtain ⟨r, hr, rfl⟩ := Option.map_eq_some_iff.1 e2
      obtain ⟨a, b⟩ := gb_sound hr
      exact ⟨by rw [List.length_cons, a], hi, c, b⟩
    · rw [if_neg c] at e2; cases e2
theorem gb_all : ∀ {l : List Nat} {s : σ}, GoG n can nx s l → ∃ l', gb n can nx l.length s = some l' ∧ LxG l' l
  | [], _, _ => ⟨[], rfl, trivial⟩
  | i :: r, s, ⟨h1, h2, h3⟩ => by
    obtain ⟨r', e1, e2⟩ := gb_all h3
    have hg : (if can s i then (gb n can nx r.length (nx s i)).map (i :: ·) else none) = some (i :: r') := by
      rw [if_pos h2, e1]; rfl
    cases c : gb n can nx (i :: r).length s with
    | none =>
      exfalso
      have := List.findSome?_eq_none_iff.1 (show (List.range n).findSome? _ = none from c) i (List.mem_range.2 h1)
      rw [hg] at this; cases this
    | some l' =>
      refine ⟨l', rfl, ?_⟩
      obtain ⟨l1, j, l2, f1, f2, f3⟩ := List.findSome?_eq_some_iff.1 (show (List.range n).findSome? _ = some l' from c)
      have hj : i ∉ l1 := fun hi => by
        have := f3 i hi
        rw [hg] at this; cases this
      have hs : (l1 ++ j :: l2).Pairwise (· < ·) := by rw [← f1]; exact List.pairwise_lt_range
      have hm : i ∈ l1 ++ j :: l2 := by rw [← f1]; exact List.mem_range.2 h1
      rw [List.pairwise_append] at hs
      rcases List.mem_append.1 hm with hm | hm
      · exact absurd hm hj
      · rcases List.mem_cons.1 hm with e | e
        · subst e
          rw [hg] at f2
          obtain rfl := Option.some.inj f2
          exact .inr ⟨rfl, e2⟩
        · have hlt := (List.pairwise_cons.1 hs.2.1).1 i e
          by_cases g : can s j = true
          · rw [if_pos g] at f2
            obtain ⟨r2, _, rfl⟩ := Option.map_eq_some_iff.1 f2
            exact .inl hlt
          · rw [if_neg g] at f2; cases f2
theorem gb_none {k : Nat} {s : σ} (e : gb n can nx k s = none) (l : List Nat) (hl : l.length = k) : ¬ GoG n can nx s l := fun g => by
  obtain ⟨l', e1, _⟩ := gb_all g
  rw [hl, e] at e1; cases e1
end
/-! ### rows in which each stands ahead of those in its set -/
/-- none of those in its set is told, nor it -/
def canS (E : List Nat) (told : List Nat) (i : Nat) : Bool := told.all fun k => k != i && !(row E i).testBit k
def SerG (E : List Nat) : List Nat → List Nat → Prop := GoG E.length (canS E) fun told i => told ++ [i]
/-- a row of all -/
structure SerR (E : List Nat) (l : List Nat) : Prop where
  nd : l.Nodup
  mem : ∀ x, x ∈ l ↔ x < E.length
  ord : ∀ t u, t < E.length → u < E.length → (row E t).testBit u = true → l.idxOf t < l.idxOf u
theorem canS_iff {E told : List Nat} {i : Nat} : canS E told i = true ↔ i ∉ told ∧ ∀ k, k ∈ told → (row E i).testBit k = false := by
  unfold canS
  rw [List.all_eq_true]
  constructor
  · intro h
    refine ⟨fun hi => ?_, fun k hk => ?_⟩
    · have := h i hi; simp at this
    · have := h k hk
      rw [Bool.and_eq_true] at this
      simpa using this.2
  · rintro ⟨h1, h2⟩ k hk
    rw [Bool.and_eq_true]
    refine ⟨?_, by rw [h2 k hk]; rfl⟩
    have : k ≠ i := fun e => h1 (e ▸ hk)
    simpa using this
theorem serG_iff {E : List Nat} : ∀ {l told : List Nat}, SerG E told l ↔ (∀ i, i ∈ l → i < E.length ∧ i ∉ told) ∧ l.Nodup ∧ (∀ i, i ∈ l → ∀ k, k ∈ told → (row E i).testBit k = false) ∧ l.Pairwise fun a b => (row E b).testBit a = false
  | [], told => by
    refine ⟨fun _ => ⟨fun i hi => absurd hi (List.not_mem_nil), List.nodup_nil, fun i hi => absurd hi (List.not_mem_nil), List.Pairwise.nil⟩, fun _ => trivial⟩
  | i :: r, told => by
    show (i < E.length ∧ canS E told i = true ∧ SerG E (told ++ [i]) r) ↔ _
    rw [serG_iff (l := r), canS_iff, List.nodup_cons, List.pairwise_cons]
    constructor
    · rintro ⟨h1, ⟨h2, h3⟩, h4, h5, h6, h7⟩
      refine ⟨fun j hj => ?_, ⟨fun hi => (h4 i hi).2 (by simp), h5⟩, fun j hj k hk => ?_, fun b hb => h6 b hb i (by simp), h7⟩
      · rcases List.mem_cons.1 hj with e | e
        · subst e; exact ⟨h1, h2⟩
        · exact ⟨(h4 j e).1, fun c => (h4 j e).2 (by simp [c])⟩
      · rcases List.mem_cons.1 hj with e | e
        · subst e; exact h3 k hk
        · exact h6 j e k (by simp [hk])
    · rintro ⟨h1, ⟨h2, h3⟩, h4, h5, h6⟩
      refine ⟨(h1 i List.mem_cons_self).1, ⟨(h1 i List.mem_cons_self).2, h4 i List.mem_cons_self⟩, fun j hj => ⟨(h1 j (List.mem_cons_of_mem _ hj)).1, fun c => ?_⟩, h3, fun j hj k hk => ?_, h6⟩
      · rcases List.mem_append.1 c with c | c
        · exact (h1 j (List.mem_cons_of_mem _ hj)).2 c
        · rw [List.mem_singleton] at c; exact h2 (c ▸ hj)
      · rcases List.mem_append.1 hk with c | c
        · exact h4 j (List.mem_cons_of_mem _ hj) k c
        · rw [List.mem_singleton] at c; subst c; exact h5 j hj
theorem nd_perm {n : Nat} {l : List Nat} (hn : l.Nodup) (hi : ∀ i, i ∈ l → i < n) (hl : l.length = n) : ∀ j, j ∈ l ↔ j < n := fun j => by
  refine ⟨hi j, fun hj => ?_⟩
  apply Classical.byContradiction
  intro hx
  have h1 : (j :: l).Nodup := List.nodup_cons.2 ⟨hx, hn⟩
  have h2 := h1.length_le_of_subset (l₂ := List.range n) (fun x hx => by
    rcases List.mem_cons.1 hx with e | e
    · subst e; exact List.mem_range.2 hj
    · exact List.mem_range.2 (hi x e))
  rw [List.length_cons, List.length_range] at h2
  omega
theorem idx_lt_iff {l : List Nat} (hn : l.Nodup) {i j : Nat} (hi : i < l.length) (hj : j < l.length) : l.idxOf l[i] < l.idxOf l[j] ↔ i < j := by rw [hn.idxOf_getElem, hn.idxOf_getElem]
/-- what goes on from nothing and has all is a row of all -/
theorem serR_iff {E l : List Nat} (hE : ∀ t, (row E t).testBit t = false) : (l.length = E.length ∧ SerG E [] l) ↔ SerR E l := by
  constructor
  · rintro ⟨h1, h2⟩
    obtain ⟨a, b, _, d⟩ := serG_iff.1 h2
    have hm := nd_perm b (fun i hi => (a i hi).1) h1
    refine ⟨b, hm, fun t u ht hu e => ?_⟩
    obtain ⟨i, hi, rfl⟩ := List.getElem_of_mem ((hm t).2 ht)
    obtain ⟨j, hj, rfl⟩ := List.getElem_of_mem ((hm u).2 hu)
    rw [idx_lt_iff b hi hj]
    rcases Nat.lt_trichotomy i j with k | k | k
    · exact k
    · subst k
      rw [hE] at e; cases e
    · have := List.pairwise_iff_getElem.1 d j i hj hi k
      rw [e] at this; cases this
  · intro h
    have hl : l.length = E.length := by
      have : l.Perm (List.range E.length) := (List.perm_ext_iff_of_nodup h.nd List.nodup_range).2 (fun x => by rw [h.mem, List.mem_range])
      rw [this.length_eq, List.length_range]
    refine ⟨hl, serG_iff.2 ⟨fun i hi => ⟨(h.mem i).1 hi, List.not_mem_nil⟩, h.nd, fun _ _ k hk => absurd hk (List.not_mem_nil), ?_⟩⟩
    rw [List.pairwise_iff_getElem]
    intro i j hi hj hij
    cases e : (row E l[j]).testBit l[i] with
    | false => rfl
    | true =>
      have := h.ord _ _ ((h.mem _).1 (List.getElem_mem hj)) ((h.mem _).1 (List.getElem_mem hi)) e
      rw [idx_lt_iff h.nd hj hi] at this
      omega
/-- then nothing stands behind itself -/
theorem serR_ring {E l : List Nat} (hok : Ok E) (h : SerR E l) : ¬ Ring E := fun ⟨i, k⟩ => by
  have hi := clo_in k
  have key : ∀ j, Clo E i j → j < E.length ∧ l.idxOf i < l.idxOf j := fun j hj =>
    clo_least (fun j => j < E.length ∧ l.idxOf i < l.idxOf j) (fun j e => by
      have hj := clo_to hok (clo_base e)
      exact ⟨hj, h.ord i j hi hj e⟩) (fun j m h1 e => by
      have hm := clo_to hok (clo_base e)
      have := h.ord j m h1.1 hm e
      exact ⟨hm, by omega⟩) hj
  exact absurd (key i k).2 (Nat.lt_irrefl _)
/-- and if nothing does there is a row -/
theorem serR_ex {E : List Nat} (hok : Ok E) (hr : ¬ Ring E) : ∃ l, SerR E l := by
  have hd : Dual (clo E) (turned E) := ⟨by rw [clo_length, turned_length], fun i j => by rw [Bool.eq_iff_iff, turned_bit hok, clo_bit]⟩
  have htr : Tr (clo E) := by
    refine ⟨fun i => ?_, fun i j k h1 h2 => ?_⟩
    · cases hb : (row (clo E) i).testBit i with
      | false => rfl
      | true => exact absurd ⟨i, (clo_bit E i i).1 hb⟩ hr
    · exact (clo_bit E i k).2 (clo_trans hok ((clo_bit E i j).1 h1) ((clo_bit E j k).1 h2))
  have hlin := (goes_lin hd htr (firstL (turned E) (cb (clo E).length (left 0)) 0) 0).2 (first_goes hd htr _ 0 rfl)
  refine ⟨_, hlin.nd, fun x => ?_, fun t u ht hu e => ?_⟩
  · rw [hlin.mem, clo_length]
    exact ⟨fun k => k.1, fun k => ⟨k, by simp [left]⟩⟩
  · refine hlin.ord t u ((hlin.mem t).2 ⟨by rw [clo_length]; exact ht, by simp [left]⟩) ((hlin.mem u).2 ⟨by rw [clo_length]; exact hu, by simp [left]⟩) ?_
    exact (clo_bit E t u).2 (clo_base e)
/-- trying finds a row just if nothing stands behind itself, and none ahead of what it finds is one -/
theorem serial_iff {E : List Nat} (hok : Ok E) (hE : ∀ t, (row E t).testBit t = false) : (∃ l, gb E.length (canS E) (fun told i => told ++ [i]) E.length [] = some l) ↔ ¬ Ring E := by
  constructor
  · rintro ⟨l, e⟩
    exact serR_ring hok ((serR_iff hE).1 (gb_sound e))
  · intro h
    obtain ⟨l, hl⟩ := serR_ex hok h
    obtain ⟨h1, h2⟩ := (serR_iff hE).2 hl
    obtain ⟨l', e, _⟩ := gb_all h2
    rw [h1] at e
    exact ⟨l', e⟩
theorem serial_row {E l : List Nat} (hE : ∀ t, (row E t).testBit t = false) (e : gb E.length (canS E) (fun told i => told ++ [i]) E.length [] = some l) : SerR E l ∧ ∀ l', SerR E l' → LxG l l' := by
  refine ⟨(serR_iff hE).1 (gb_sound e), fun l' hl => ?_⟩
  obtain ⟨h1, h2⟩ := (serR_iff hE).2 hl
  obtain ⟨l2, e2, e3⟩ := gb_all h2
  rw [h1] at e2
  have : some l = some l2 := e.symm.trans e2
  rw [Option.some.inj this]
  exact e3
end Go.Proofs.YtajiichehffaaaaDoor.M
