/- Plain mathematics of histories: rows in which what must stand ahead does and each reads what was written last; there is one just if there is one for each object; by all, or by each process; the search for the least. No program text is named. -/
import Derived.Test.YtdbejgidgajhlaaMath
namespace Go.Proofs.Ytdbejgidgajhlaa.M

structure HOp where
  pr : Nat
  ob : Nat
  wr : Nat
  va : Nat
  fr : Nat
  to : Nat
/-- must a stand ahead of b? -/
def aheadB (all : Bool) (a b : HOp) : Bool := decide (a.to ≤ b.fr) && (all || a.pr == b.pr)
/-- no one stands behind one that must stand behind it -/
def Ordd (all : Bool) (l : List HOp) : Prop := l.Pairwise fun a b => aheadB all b a = false
def setv (v : Nat → Nat) (o x : Nat) : Nat → Nat := fun i => if i = o then x else v i
/-- each reads what was written last -/
def Rok (v : Nat → Nat) : List HOp → Prop
  | [] => True
  | a :: r => (a.wr = 0 → v a.ob = a.va) ∧ Rok (setv v a.ob a.va) r
/-- of one object alone -/
def Rok1 (x : Nat) : List HOp → Prop
  | [] => True
  | a :: r => (a.wr = 0 → x = a.va) ∧ Rok1 a.va r
/-- is there a good row? -/
def Atom (all : Bool) (h : List HOp) : Prop := ∃ l : List HOp, l.Perm h ∧ Ordd all l ∧ Rok (fun _ => 0) l
theorem rok_objects {v : Nat → Nat} : ∀ {l : List HOp}, Rok v l ↔ ∀ o, Rok1 (v o) (l.filter fun a => a.ob == o)
  | [] => by simp [Rok, Rok1]
  | a :: r => by
    simp only [Rok]
    rw [rok_objects (l := r)]
    constructor
    · rintro ⟨h1, h2⟩ o
      rw [List.filter_cons]
      by_cases e : a.ob = o
      · subst e
        rw [if_pos (by simp)]
        have := h2 a.ob
        unfold setv at this
        rw [if_pos rfl] at this
        exact ⟨h1, this⟩
      · rw [if_neg (by simpa using e)]
        have := h2 o
        unfold setv at this
        rwa [if_neg (Ne.symm e)] at this
    · intro h
      have h0 := h a.ob
      rw [List.filter_cons, if_pos (by simp)] at h0
      refine ⟨h0.1, fun o => ?_⟩
      unfold setv
      by_cases e : o = a.ob
      · subst e; rw [if_pos rfl]; exact h0.2
      · rw [if_neg e]
        have := h o
        rwa [List.filter_cons, if_neg (by simpa using Ne.symm e)] at this
/-- of ops of one object alone -/
theorem rok_one {v : Nat → Nat} {o : Nat} : ∀ {l : List HOp}, (∀ a, a ∈ l → a.ob = o) → (Rok v l ↔ Rok1 (v o) l) := fun {l} h => by
  rw [rok_objects]
  constructor
  · intro k
    have := k o
    rwa [List.filter_eq_self.2 (fun a ha => by simpa using h a ha)] at this
  · intro k p
    by_cases e : p = o
    · subst e
      rwa [List.filter_eq_self.2 (fun a ha => by simpa using h a ha)]
    · rw [List.filter_eq_nil_iff.2 (fun a ha => by rw [h a ha]; simpa using Ne.symm e)]
      trivial
/-! ### all is well just if each object is -/
/-- each op with the greatest From up to it -/
def pts (m : Nat) : List HOp → List (Nat × HOp)
  | [] => []
  | a :: r => (Nat.max m a.fr, a) :: pts (Nat.max m a.fr) r
theorem pts_map (m : Nat) : ∀ l : List HOp, (pts m l).map Prod.snd = l
  | [] => rfl
  | a :: r => by simp [pts, pts_map]
theorem pts_low {m : Nat} : ∀ {l : List HOp} {x : Nat × HOp}, x ∈ pts m l → m ≤ x.1
  | a :: r, x, h => by
    have hm : m ≤ Nat.max m a.fr := Nat.le_max_left _ _
    rcases List.mem_cons.1 h with e | e
    · subst e; exact hm
    · exact Nat.le_trans hm (pts_low e)
theorem pts_sorted (m : Nat) : ∀ l : List HOp, (pts m l).Pairwise fun x y => decide (x.1 ≤ y.1) = true
  | [] => List.Pairwise.nil
  | a :: r => by
    simp only [pts]
    rw [List.pairwise_cons]
    exact ⟨fun x hx => decide_eq_true (pts_low hx), pts_sorted _ r⟩
theorem pts_in {m : Nat} : ∀ {l : List HOp}, Ordd true l → (∀ a, a ∈ l → a.fr < a.to ∧ m < a.to) → ∀ x, x ∈ pts m l → x.2.fr ≤ x.1 ∧ x.1 < x.2.to
  | a :: r, ho, h, x, hx => by
    unfold Ordd at ho
    rw [List.pairwise_cons] at ho
    have h0 := h a List.mem_cons_self
    rcases List.mem_cons.1 hx with e | e
    · subst e
      exact ⟨Nat.le_max_right _ _, Nat.max_lt.2 ⟨h0.2, h0.1⟩⟩
    · refine pts_in ho.2 (fun b hb => ?_) x e
      have hb0 := h b (List.mem_cons_of_mem _ hb)
      refine ⟨hb0.1, Nat.max_lt.2 ⟨hb0.2, ?_⟩⟩
      have := ho.1 b hb
      unfold aheadB at this
      simp at this
      exact this
def le1 (x y : Nat × HOp) : Bool := decide (x.1 ≤ y.1)
theorem le1_trans (a b c : Nat × HOp) (h : le1 a b = true) (h2 : le1 b c = true) : le1 a c = true := by
  unfold le1 at *
  have := of_decide_eq_true h
  have := of_decide_eq_true h2
  exact decide_eq_true (by omega)
theorem le1_total (a b : Nat × HOp) : (le1 a b || le1 b a) = true := by
  unfold le1
  rw [Bool.or_eq_true, decide_eq_true_eq, decide_eq_true_eq]
  omega
theorem Ordd.filter {all : Bool} {l : List HOp} (h : Ordd all l) (p : HOp → Bool) : Ordd all (l.filter p) := List.Pairwise.filter p h
theorem Atom.part {all : Bool} {h : List HOp} (k : Atom all h) (o : Nat) : Atom all (h.filter fun a => a.ob == o) := by
  obtain ⟨l, h1, h2, h3⟩ := k
  refine ⟨_, h1.filter _, h2.filter _, ?_⟩
  rw [rok_one (o := o) (fun a ha => by simpa using (List.mem_filter.1 ha).2)]
  exact rok_objects.1 h3 o
/-- HERLIHY, WING -/
theorem atom_local {h : List HOp} (h3 : ∀ a, a ∈ h → a.ob < 3) (hs : ∀ a, a ∈ h → a.fr < a.to) : Atom true h ↔ ∀ o, o < 3 → Atom true (h.filter fun a => a.ob == o) := by
  constructor
  · intro k o _; exact k.part o
  · intro k
    obtain ⟨l0, p0, o0, r0⟩ := k 0 (by omega)
    obtain ⟨l1, p1, o1, r1⟩ := k 1 (by omega)
    obtain ⟨l2, p2, o2, r2⟩ := k 2 (by omega)
    have mo : ∀ {o : Nat} {l : List HOp}, l.Perm (h.filter fun a => a.ob == o) → ∀ a, a ∈ l → a ∈ h ∧ a.ob = o := fun hp a ha => by
      have := List.mem_filter.1 (hp.mem_iff.1 ha)
      exact ⟨this.1, by simpa using this.2⟩
    have bd : ∀ {o : Nat} {l : List HOp}, l.Perm (h.filter fun a => a.ob == o) → ∀ a, a ∈ l → a.fr < a.to ∧ 0 < a.to := fun hp a ha => by
      have := hs a (mo hp a ha).1
      exact ⟨this, by omega⟩
    obtain ⟨L, hL⟩ : ∃ L, L = pts 0 l0 ++ (pts 0 l1 ++ pts 0 l2) := ⟨_, rfl⟩
    obtain ⟨s, hsd⟩ : ∃ s, s = L.mergeSort le1 := ⟨_, rfl⟩
    have sp : s.Perm L := by rw [hsd]; exact List.mergeSort_perm L le1
    have ss : s.Pairwise fun x y => le1 x y = true := by rw [hsd]; exact List.pairwise_mergeSort le1_trans le1_total L
    have sub : ∀ ys : List (Nat × HOp), ys.Pairwise (fun x y => le1 x y = true) → ys.Sublist L → ys.Sublist s := fun ys h1 h2 => by rw [hsd]; exact List.sublist_mergeSort le1_trans le1_total h1 h2
    have s0 := sub (pts 0 l0) (pts_sorted 0 l0) (by rw [hL]; exact List.sublist_append_left _ _)
    have s1 := sub (pts 0 l1) (pts_sorted 0 l1) (by rw [hL]; exact (List.sublist_append_left _ _).trans (List.sublist_append_right _ _))
    have s2 := sub (pts 0 l2) (pts_sorted 0 l2) (by rw [hL]; exact (List.sublist_append_right _ _).trans (List.sublist_append_right _ _))
    -- all ops, each once
    have pm : (s.map Prod.snd).Perm (l0 ++ (l1 ++ l2)) := by
      have := sp.map Prod.snd
      rw [hL, List.map_append, List.map_append, pts_map, pts_map, pts_map] at this
      exact this
    have parts : ∀ h : List HOp, (∀ a, a ∈ h → a.ob < 3) → ((h.filter fun a => a.ob == 0) ++ ((h.filter fun a => a.ob == 1) ++ (h.filter fun a => a.ob == 2))).Perm h := by
      intro h
      induction h with
      | nil => intro _; exact List.Perm.nil
      | cons a r ih =>
        intro hh
        have ihr := ih (fun b hb => hh b (List.mem_cons_of_mem _ hb))
        have ha := hh a List.mem_cons_self
        have c : a.ob = 0 ∨ a.ob = 1 ∨ a.ob = 2 := by omega
        rcases c with e | e | e
        · simp only [List.filter_cons, e]
          simpa using ihr.cons a
        · simp only [List.filter_cons, e]
          simp only [beq_self_eq_true, if_true, show ((1 : Nat) == 0) = false from rfl, show ((1 : Nat) == 2) = false from rfl, Bool.false_eq_true, if_false, List.cons_append]
          exact (List.perm_middle).trans (ihr.cons a)
        · simp only [List.filter_cons, e]
          simp only [beq_self_eq_true, if_true, show ((2 : Nat) == 0) = false from rfl, show ((2 : Nat) == 1) = false from rfl, Bool.false_eq_true, if_false]
          rw [← List.append_assoc]
          exact (List.perm_middle).trans ((by rw [List.append_assoc]; exact ihr : ((r.filter fun a => a.ob == 0) ++ (r.filter fun a => a.ob == 1) ++ (r.filter fun a => a.ob == 2)).Perm r).cons a)
    have ph : (s.map Prod.snd).Perm h := pm.trans ((p0.append (p1.append p2)).trans (parts h h3))
    refine ⟨s.map Prod.snd, ph, ?_, ?_⟩
    · unfold Ordd
      rw [List.pairwise_map]
      have inn : ∀ x, x ∈ s → x.2.fr ≤ x.1 ∧ x.1 < x.2.to := fun x hx => by
        have := sp.mem_iff.1 hx
        rw [hL, List.mem_append, List.mem_append] at this
        rcases this with e | e | e
        · exact pts_in o0 (bd p0) x e
        · exact pts_in o1 (bd p1) x e
        · exact pts_in o2 (bd p2) x e
      refine ss.imp_of_mem ?_
      intro x y hx hy hxy
      have h1 := inn x hx
      have h2 := inn y hy
      have h4 : x.1 ≤ y.1 := of_decide_eq_true hxy
      unfold aheadB
      have : decide (y.2.to ≤ x.2.fr) = false := decide_eq_false (by omega)
      rw [this, Bool.false_and]
    · rw [rok_objects]
      intro o
      -- the ops of one object stand as they stood
      have same : ∀ {o : Nat} {l : List HOp}, l.Perm (h.filter fun a => a.ob == o) → (pts 0 l).Sublist s → ((s.map Prod.snd).filter fun a => a.ob == o) = l := fun {o l} hp hsub => by
        have h1 : (((pts 0 l).map Prod.snd).filter fun a => a.ob == o).Sublist ((s.map Prod.snd).filter fun a => a.ob == o) := (hsub.map Prod.snd).filter _
        rw [pts_map, List.filter_eq_self.2 (fun a ha => by simpa using (mo hp a ha).2)] at h1
        exact (h1.eq_of_length (hp.trans (ph.filter _).symm).length_eq).symm
      by_cases c0 : o = 0
      · subst c0
        rw [same p0 s0]
        exact (rok_one (fun a ha => (mo p0 a ha).2)).1 r0
      · by_cases c1 : o = 1
        · subst c1
          rw [same p1 s1]
          exact (rok_one (fun a ha => (mo p1 a ha).2)).1 r1
        · by_cases c2 : o = 2
          · subst c2
            rw [same p2 s2]
            exact (rok_one (fun a ha => (mo p2 a ha).2)).1 r2
          · rw [List.filter_eq_nil_iff.2 (fun a ha => by
              have := h3 a (ph.mem_iff.1 ha)
              simp; omega)]
            trivial
/-! ### weaker, and what only writes -/
theorem Atom.weak {h : List HOp} (k : Atom true h) : Atom false h := by
  obtain ⟨l, h1, h2, h3⟩ := k
  refine ⟨l, h1, List.Pairwise.imp ?_ h2, h3⟩
  intro a b e
  unfold aheadB at *
  rw [Bool.true_or, Bool.and_true] at e
  rw [e, Bool.false_and]
theorem rok_writes {v : Nat → Nat} : ∀ {l : List HOp}, (∀ a, a ∈ l → a.wr ≠ 0) → Rok v l
  | [], _ => trivial
  | a :: _, h => ⟨fun e => absurd e (h a List.mem_cons_self), rok_writes (fun b hb => h b (List.mem_cons_of_mem _ hb))⟩
def le2 (x y : HOp) : Bool := decide (x.fr ≤ y.fr)
theorem atom_writes {h : List HOp} (hw : ∀ a, a ∈ h → a.wr ≠ 0) (hs : ∀ a, a ∈ h → a.fr < a.to) : Atom true h := by
  have t1 : ∀ a b c : HOp, le2 a b = true → le2 b c = true → le2 a c = true := fun a b c h1 h2 => by
    unfold le2 at *
    have := of_decide_eq_true h1
    have := of_decide_eq_true h2
    exact decide_eq_true (by omega)
  have t2 : ∀ a b : HOp, (le2 a b || le2 b a) = true := fun a b => by
    unfold le2
    rw [Bool.or_eq_true, decide_eq_true_eq, decide_eq_true_eq]
    omega
  have pm := List.mergeSort_perm h le2
  refine ⟨h.mergeSort le2, pm, ?_, rok_writes (fun a ha => hw a (pm.mem_iff.1 ha))⟩
  refine (List.pairwise_mergeSort t1 t2 h).imp_of_mem ?_
  intro a b _ hb e
  have h1 : a.fr ≤ b.fr := of_decide_eq_true e
  have h2 := hs b (pm.mem_iff.1 hb)
  unfold aheadB
  have : decide (b.to ≤ a.fr) = false := decide_eq_false (by omega)
  rw [this, Bool.false_and]
end Go.Proofs.Ytdbejgidgajhlaa.M
