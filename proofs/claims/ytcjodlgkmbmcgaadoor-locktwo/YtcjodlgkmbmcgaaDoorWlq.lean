/- Plain mathematics of locks: who waits for whom, as rows of bits; what others do keeps it; what is done behind another one's clashing act is done behind that one's freeing of the item. No program text is named. -/
import Derived.Test.YtcjodlgkmbmcgaaDoorWlk
import Derived.Test.YtcjodlgkmbmcgaaDoorWse
namespace Go.Proofs.YtcjodlgkmbmcgaaDoor.M

/-! ### who waits for whom -/
/-- does x wait for y? -/
def wtB (s : Lk) (x y : Nat) : Bool := s.wa x != 0 && agB s x ((s.wa x - 1) / 2) ((s.wa x - 1) % 2) y
/-- as rows of bits -/
def wtR (s : Lk) : List Nat := (List.range 5).map fun x => cnt01 5 (wtB s x)
theorem wtR_len (s : Lk) : (wtR s).length = 5 := by simp [wtR]
theorem wtR_bit (s : Lk) (x y : Nat) : (row (wtR s) x).testBit y = true ↔ x < 5 ∧ y < 5 ∧ wtB s x y = true := by
  by_cases hx : x < 5
  · have e : row (wtR s) x = cnt01 5 (wtB s x) := by simp [row, wtR, hx]
    rw [e, cnt01_bit, Bool.and_eq_true, decide_eq_true_eq]
    exact ⟨fun h => ⟨hx, h⟩, fun h => h.2⟩
  · rw [row_out _ _ (by rw [wtR_len]; omega)]
    simp [hx]
theorem wtR_ok (s : Lk) : Ok (wtR s) := fun t => by
  rw [wtR_len]
  exact Nat.lt_pow_two_of_testBit _ (fun u hu => by
    cases h : (row (wtR s) t).testBit u with
    | false => rfl
    | true => have := ((wtR_bit s t u).1 h).2.1; omega)
theorem wtB_self (s : Lk) (x : Nat) : wtB s x x = false := by
  unfold wtB agB
  simp
theorem wtR_self (s : Lk) (x : Nat) : (row (wtR s) x).testBit x = false := by
  cases h : (row (wtR s) x).testBit x with
  | false => rfl
  | true => have := ((wtR_bit s x x).1 h).2.2; rw [wtB_self] at this; cases this
/-! ### what others do -/
theorem lkDo_wa (s : Lk) (kind t o wr : Nat) {x : Nat} (hx : x ≠ t) : (lkDo s kind t o wr).1.wa x = s.wa x := by
  unfold lkDo
  split
  · split
    · rfl
    · split
      · exact if_neg hx
      · exact if_neg hx
  · split
    · split <;> rfl
    · split
      · rfl
      · split <;> rfl
theorem lkDo_hd (s : Lk) (kind t o wr : Nat) {x : Nat} (y : Nat) (hx : x ≠ t) : (lkDo s kind t o wr).1.hd x y = s.hd x y := by
  unfold lkDo
  split
  · split
    · rfl
    · split
      · rfl
      · exact if_neg (fun e => hx e.1)
  · split
    · split
      · rfl
      · exact if_neg (fun e => hx e.1)
    · split
      · rfl
      · split <;> rfl
theorem lkDo_wt (s : Lk) (kind t o wr : Nat) {x y : Nat} (hx : x ≠ t) (hy : y ≠ t) : wtB (lkDo s kind t o wr).1 x y = wtB s x y := by
  unfold wtB agB
  rw [lkDo_wa s kind t o wr hx, lkDo_hd s kind t o wr _ hy]
/-- those in rings wait for each other as they did -/
def Stk (r : List Nat) (s : Lk) : Prop := ∀ x y, Clo r x x → Clo r y y → (row r x).testBit y = true → (row (wtR s) x).testBit y = true
theorem Stk.start (s : Lk) : Stk (wtR s) s := fun _ _ _ _ h => h
theorem Stk.step {r : List Nat} {s : Lk} (h : Stk r s) (kind o wr : Nat) {t : Nat} (ht : ¬ Clo r t t) : Stk r (lkDo s kind t o wr).1 := fun x y hx hy e => by
  have hxt : x ≠ t := fun e => ht (e ▸ hx)
  have hyt : y ≠ t := fun e => ht (e ▸ hy)
  obtain ⟨a, b, c⟩ := (wtR_bit s x y).1 (h x y hx hy e)
  exact (wtR_bit _ x y).2 ⟨a, b, by rw [lkDo_wt s kind t o wr hxt hyt]; exact c⟩
theorem Stk.ring {r : List Nat} {s : Lk} (hr : Ok r) (h : Stk r s) {x : Nat} (hx : Clo r x x) : Clo (wtR s) x x := ring_stays hr (wtR_ok s) h hx
/-! ### behind its freeing -/
/-- of each act that was done at which deed, and of each lock at which deed it was freed last: it holds enough still, or freed it since -/
structure LA (s : Lk) (fr : Nat → Nat → Int) (at_ : Nat → Int) : Prop where
  held : ∀ k, k < s.ac.length → enough (s.hd (sat s.ac k).tx (sat s.ac k).it) (sat s.ac k).wr ∨ at_ k ≤ fr (sat s.ac k).tx (sat s.ac k).it
theorem LA.zero (fr : Nat → Nat → Int) (at_ : Nat → Int) : LA lk0 fr at_ := ⟨fun _ h => absurd h (Nat.not_lt_zero _)⟩
/-- it stays so where nothing is done and what is held grows, but for what is freed now -/
theorem LA.keep {s s' : Lk} {fr fr' : Nat → Nat → Int} {at_ : Nat → Int} (h : LA s fr at_) (ha : s'.ac = s.ac) (hh : ∀ t o wr, enough (s.hd t o) wr → enough (s'.hd t o) wr ∨ ∀ k, k < s.ac.length → at_ k ≤ fr' t o) (hf : ∀ t o, fr t o ≤ fr' t o) : LA s' fr' at_ := ⟨fun k hk => by
  rw [ha] at hk ⊢
  rcases h.held k hk with e | e
  · rcases hh _ _ _ e with e2 | e2
    · exact .inl e2
    · exact .inr (e2 k hk)
  · exact .inr (Int.le_trans e (hf _ _))⟩
theorem LA.add {s : Lk} {fr : Nat → Nat → Int} {at_ at2 : Nat → Int} (h : LA s fr at_) {a : SAct} (he : enough (s.hd a.tx a.it) a.wr) (hat : ∀ k, k < s.ac.length → at2 k = at_ k) : LA { s with ac := s.ac ++ [a] } fr at2 := ⟨fun k hk => by
  simp only [List.length_append, List.length_cons, List.length_nil] at hk
  by_cases c : k = s.ac.length
  · subst c
    have : sat (s.ac ++ [a]) s.ac.length = a := by unfold sat; rw [List.getElem?_append_right (Nat.le_refl _), Nat.sub_self]; rfl
    left
    show enough (s.hd (sat (s.ac ++ [a]) s.ac.length).tx (sat (s.ac ++ [a]) s.ac.length).it) (sat (s.ac ++ [a]) s.ac.length).wr
    rw [this]; exact he
  · have hk2 : k < s.ac.length := by omega
    have : sat (s.ac ++ [a]) k = sat s.ac k := by unfold sat; rw [List.getElem?_append_left hk2]
    show enough (s.hd (sat (s.ac ++ [a]) k).tx (sat (s.ac ++ [a]) k).it) (sat (s.ac ++ [a]) k).wr ∨ at2 k ≤ fr (sat (s.ac ++ [a]) k).tx (sat (s.ac ++ [a]) k).it
    rw [this, hat k hk2]
    exact h.held k hk2⟩
/-- so an act that clashes is behind its freeing -/
theorem LA.behind {s : Lk} {fr : Nat → Nat → Int} {at_ : Nat → Int} (h : LA s fr at_) (hl : LI s) {a : SAct} (ha : a.tx < 5) (he : enough (s.hd a.tx a.it) a.wr) {k : Nat} (hk : k < s.ac.length) (h1 : (sat s.ac k).tx ≠ a.tx) (h2 : (sat s.ac k).it = a.it) (h3 : (sat s.ac k).wr = 1 ∨ a.wr = 1) : at_ k ≤ fr (sat s.ac k).tx a.it := by
  have hm : sat s.ac k ∈ s.ac := by unfold sat; rw [List.getElem?_eq_getElem hk]; exact List.getElem_mem hk
  have h5 := (hl.own _ hm).1
  rcases h.held k hk with e | e
  · exfalso
    rw [h2] at e
    rcases h3 with w | w
    · exact he.1 (hl.apart _ _ _ h5 ha h1 (e.2 w))
    · exact e.1 (hl.apart _ _ _ ha h5 (Ne.symm h1) (he.2 w))
  · rw [← h2]; exact e
theorem wth_enough (h kind wr : Nat) (hh : h ≤ 3) (hk : kind ≤ 1) (e : enough h wr) : enough (wth h kind) wr := by
  have hv := wth_val h hh
  have : kind = 0 ∨ kind = 1 := by omega
  rcases this with rfl | rfl
  · exact ⟨hv.1, fun w => hv.2.2.1.2 (e.2 w)⟩
  · exact ⟨by have := hv.2.2.2.2; omega, fun _ => hv.2.2.2.2⟩
end Go.Proofs.YtcjodlgkmbmcgaaDoor.M
