/- Plain mathematics of banks: what each has, what is on its way, and what is noted; no money is lost or made, what is noted could have been, and it ends. No program text is named. -/
import Derived.Test.YtlkdclifcmohlaaDoorBMa
namespace Go.Proofs.YtlkdclifcmohlaaDoor.M

/-! ### sums over the first n -/
def sumN (f : Nat → Int) : Nat → Int
  | 0 => 0
  | n + 1 => sumN f n + f n
theorem sumN_congr {f g : Nat → Int} {n : Nat} (h : ∀ i, i < n → f i = g i) : sumN f n = sumN g n := by
  induction n with
  | zero => rfl
  | succ n ih => simp only [sumN]; rw [ih (fun i hi => h i (by omega)), h n (by omega)]
/-- one summand differs by d -/
theorem sumN_one {f g : Nat → Int} {n k : Nat} {d : Int} (hk : k < n) (h : ∀ i, i < n → i ≠ k → f i = g i) (hd : f k = g k + d) : sumN f n = sumN g n + d := by
  induction n with
  | zero => omega
  | succ n ih =>
    simp only [sumN]
    by_cases e : k = n
    · subst e
      rw [sumN_congr (g := g) (fun i hi => h i (by omega) (by omega)), hd]; omega
    · rw [ih (by omega) (fun i hi he => h i (by omega) he), h n (by omega) (by omega)]; omega
theorem sumN_nonneg {f : Nat → Int} {n : Nat} (h : ∀ i, i < n → 0 ≤ f i) : 0 ≤ sumN f n := by
  induction n with
  | zero => exact Int.le_refl _
  | succ n ih => simp only [sumN]; have := ih (fun i hi => h i (by omega)); have := h n (by omega); omega
def sum2 (f : Nat → Nat → Int) (n : Nat) : Int := sumN (fun a => sumN (f a) n) n
theorem sum2_congr {f g : Nat → Nat → Int} {n : Nat} (h : ∀ a b, a < n → b < n → f a b = g a b) : sum2 f n = sum2 g n :=
  sumN_congr fun a ha => sumN_congr fun b hb => h a b ha hb
theorem sum2_one {f g : Nat → Nat → Int} {n p q : Nat} {d : Int} (hp : p < n) (hq : q < n) (h : ∀ a b, a < n → b < n → ¬ (a = p ∧ b = q) → f a b = g a b) (hd : f p q = g p q + d) : sum2 f n = sum2 g n + d :=
  sumN_one hp (fun a ha hne => sumN_congr fun b hb => h a b ha hb (fun e => hne e.1)) (sumN_one hq (fun b hb hne => h p b hp hb (fun e => hne e.2)) hd)

/-! ### banks -/
structure Bk where
  mo : Nat → Int
  wy : Nat → Nat → List Int
  no : Nat → Int
  he : Nat → Nat → Bool
  ca : Nat → Nat → Int
  be : Bool
def upd1 {α : Type} (f : Nat → α) (i : Nat) (v : α) : Nat → α := fun j => if j = i then v else f j
def upd2 {α : Type} (f : Nat → Nat → α) (i k : Nat) (v : α) : Nat → Nat → α := fun a b => if a = i ∧ b = k then v else f a b
theorem upd1_same {α : Type} (f : Nat → α) (i : Nat) (v : α) : upd1 f i v i = v := if_pos rfl
theorem upd1_other {α : Type} (f : Nat → α) {i j : Nat} (v : α) (h : j ≠ i) : upd1 f i v j = f j := if_neg h
theorem upd2_same {α : Type} (f : Nat → Nat → α) (i k : Nat) (v : α) : upd2 f i k v i k = v := if_pos ⟨rfl, rfl⟩
theorem upd2_other {α : Type} (f : Nat → Nat → α) {i k a b : Nat} (v : α) (h : ¬ (a = i ∧ b = k)) : upd2 f i k v a b = f a b := if_neg h
/-- a process notes: how much it has, and a mark on each of its ways -/
def noteB (n : Nat) (b : Bk) (p : Nat) : Bk := { b with be := true, no := upd1 b.no p (b.mo p), wy := fun a c => if a = p ∧ c ≠ p ∧ c < n then b.wy a c ++ [-1] else b.wy a c }
/-- a sum is paid -/
def payB (b : Bk) (p q : Nat) (s : Int) : Bk := { b with mo := upd1 b.mo p (b.mo p - s), wy := upd2 b.wy p q (b.wy p q ++ [s]) }
/-- a sum comes -/
def sumB (b : Bk) (p q : Nat) (x : Int) (r : List Int) : Bk := { b with mo := upd1 b.mo q (b.mo q + x), wy := upd2 b.wy p q r, ca := if 0 ≤ b.no q ∧ b.he q p = false then upd2 b.ca q p (b.ca q p + x) else b.ca }
/-- a mark comes -/
def popB (b : Bk) (p q : Nat) (r : List Int) : Bk := { b with wy := upd2 b.wy p q r }
def hearB (b : Bk) (p q : Nat) : Bk := { b with he := upd2 b.he q p true }
def markB (n : Nat) (b : Bk) (p q : Nat) (r : List Int) : Bk := hearB (if b.no q = -1 then noteB n (popB b p q r) q else popB b p q r) p q
/-- a move: the bank behind it, and what is wrong -/
def mvB (n : Nat) (b : Bk) (k f t s : Int) : Bk × Nat :=
  if ¬ (0 ≤ k ∧ k ≤ 2) ∨ ¬ (0 ≤ f ∧ f < n) then (b, 1)
  else if k = 2 then (if b.be = true then (b, 7) else (noteB n b f.toNat, 0))
  else if ¬ (0 ≤ t ∧ t < n) then (b, 1)
  else if f = t then (b, 6)
  else if k = 0 then
    (if ¬ (0 ≤ s ∧ s ≤ 1000) then (b, 1) else if b.mo f.toNat < s then (b, 5) else if 8 ≤ (b.wy f.toNat t.toNat).length then (b, 4) else (payB b f.toNat t.toNat s, 0))
  else match b.wy f.toNat t.toNat with
    | [] => (b, 5)
    | x :: r => if x = -1 then (markB n b f.toNat t.toNat r, 0) else (sumB b f.toNat t.toNat x r, 0)
/-- all sums of a way -/
def posS : List Int → Int
  | [] => 0
  | x :: l => (if 0 < x then x else 0) + posS l
theorem posS_app (l m : List Int) : posS (l ++ m) = posS l + posS m := by
  induction l with
  | nil => simp [posS]
  | cons x l ih => simp only [List.cons_append, posS, ih]; omega
/-- the sums of a way ahead of its mark -/
def ahd : List Int → Int
  | [] => 0
  | x :: l => if x = -1 then 0 else x + ahd l
theorem ahd_app {l : List Int} (h : ∀ x, x ∈ l → x ≠ -1) (m : List Int) : ahd (l ++ m) = ahd l + ahd m := by
  induction l with
  | nil => simp [ahd]
  | cons x l ih =>
    simp only [List.cons_append, ahd]
    rw [if_neg (h x (List.mem_cons_self ..)), if_neg (h x (List.mem_cons_self ..)), ih (fun y hy => h y (List.mem_cons_of_mem _ hy))]; omega
theorem ahd_mark {l : List Int} (h : -1 ∈ l) (m : List Int) : ahd (l ++ m) = ahd l := by
  induction l with
  | nil => cases h
  | cons x l ih =>
    simp only [List.cons_append, ahd]
    by_cases e : x = -1
    · rw [if_pos e, if_pos e]
    · rw [if_neg e, if_neg e, ih (by rcases List.mem_cons.1 h with h | h; exact absurd h.symm e; exact h)]
/-- what always holds of a bank of n processes -/
structure BOk (n : Nat) (b : Bk) : Prop where
  mo0 : ∀ p, p < n → 0 ≤ b.mo p
  wy0 : ∀ p q, p < n → q < n → ∀ x, x ∈ b.wy p q → x = -1 ∨ 0 ≤ x
  wyd : ∀ p, p < n → b.wy p p = []
  no0 : ∀ p, p < n → b.no p = -1 ∨ 0 ≤ b.no p
  mrk : ∀ p q, p < n → q < n → p ≠ q → ((b.wy p q).count (-1) = if 0 ≤ b.no p ∧ b.he q p = false then 1 else 0)
  hea : ∀ p q, p < n → q < n → b.he q p = true → 0 ≤ b.no p ∧ 0 ≤ b.no q ∧ p ≠ q
  beg : ∀ p, p < n → 0 ≤ b.no p → b.be = true
  ca0 : ∀ p q, p < n → q < n → 0 ≤ b.ca q p
  cad : ∀ p, p < n → b.ca p p = 0
  len : ∀ p q, p < n → q < n → (b.wy p q).length ≤ 8 + (b.wy p q).count (-1)
theorem BOk.nomark {n : Nat} {b : Bk} (h : BOk n b) {p q : Nat} (hp : p < n) (hq : q < n) (hpq : p ≠ q) (hn : ¬ (0 ≤ b.no p ∧ b.he q p = false)) : ∀ x, x ∈ b.wy p q → x ≠ -1 := fun x hx e => by
  have := h.mrk p q hp hq hpq
  rw [if_neg hn, List.count_eq_zero] at this
  exact this (e ▸ hx)
theorem BOk.mark {n : Nat} {b : Bk} (h : BOk n b) {p q : Nat} (hp : p < n) (hq : q < n) (hpq : p ≠ q) (hn : 0 ≤ b.no p ∧ b.he q p = false) : -1 ∈ b.wy p q := by
  have := h.mrk p q hp hq hpq
  rw [if_pos hn] at this
  exact List.count_pos_iff.1 (by omega)

/-! ### all money -/
def tot (n : Nat) (b : Bk) : Int := sumN b.mo n + sum2 (fun p q => posS (b.wy p q)) n
theorem tot_note {n : Nat} (b : Bk) {p : Nat} : tot n (noteB n b p) = tot n b := by
  unfold tot
  congr 1
  refine sum2_congr fun a c _ _ => ?_
  show posS (if a = p ∧ c ≠ p ∧ c < n then b.wy a c ++ [-1] else b.wy a c) = _
  split
  · rw [posS_app]; simp [posS]
  · rfl
theorem tot_pay {n : Nat} (b : Bk) {p q : Nat} {s : Int} (hp : p < n) (hq : q < n) (hs : 0 ≤ s) : tot n (payB b p q s) = tot n b := by
  unfold tot
  have h1 : sumN (payB b p q s).mo n = sumN b.mo n + (-s) := sumN_one hp (fun i _ hi => upd1_other _ _ hi) (by show upd1 _ _ _ _ = _; rw [upd1_same]; omega)
  have h2 : sum2 (fun a c => posS ((payB b p q s).wy a c)) n = sum2 (fun a c => posS (b.wy a c)) n + s := sum2_one hp hq (fun a c _ _ hne => by show posS (upd2 _ _ _ _ _ _) = _; rw [upd2_other _ _ hne]) (by
    show posS (upd2 _ _ _ _ _ _) = _
    rw [upd2_same, posS_app]
    simp only [posS]
    split <;> omega)
  rw [h1, h2]; omega
theorem tot_sum {n : Nat} (b : Bk) {p q : Nat} {x : Int} {r : List Int} (hp : p < n) (hq : q < n) (hw : b.wy p q = x :: r) (hx : 0 ≤ x) : tot n (sumB b p q x r) = tot n b := by
  unfold tot
  have h1 : sumN (sumB b p q x r).mo n = sumN b.mo n + x := sumN_one hq (fun i _ hi => upd1_other _ _ hi) (by show upd1 _ _ _ _ = _; rw [upd1_same])
  have h2 : sum2 (fun a c => posS ((sumB b p q x r).wy a c)) n = sum2 (fun a c => posS (b.wy a c)) n + (-x) := sum2_one hp hq (fun a c _ _ hne => by show posS (upd2 _ _ _ _ _ _) = _; rw [upd2_other _ _ hne]) (by
    show posS (upd2 _ _ _ _ _ _) = _
    rw [upd2_same, hw]
    simp only [posS]
    split <;> omega)
  rw [h1, h2]; omega
theorem tot_pop {n : Nat} (b : Bk) {p q : Nat} {r : List Int} (hw : b.wy p q = -1 :: r) : tot n (popB b p q r) = tot n b := by
  unfold tot
  congr 1
  refine sum2_congr fun a c _ _ => ?_
  show posS (upd2 _ _ _ _ _ _) = _
  by_cases e : a = p ∧ c = q
  · obtain ⟨rfl, rfl⟩ := e
    rw [upd2_same, hw]
    simp [posS]
  · rw [upd2_other _ _ e]
theorem tot_hear {n : Nat} (b : Bk) (p q : Nat) : tot n (hearB b p q) = tot n b := rfl
theorem tot_mark {n : Nat} (b : Bk) {p q : Nat} {r : List Int} (hw : b.wy p q = -1 :: r) : tot n (markB n b p q r) = tot n b := by
  unfold markB
  rw [tot_hear]
  split
  · rw [tot_note, tot_pop b hw]
  · rw [tot_pop b hw]
end Go.Proofs.YtlkdclifcmohlaaDoor.M
