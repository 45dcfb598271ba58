/- Plain mathematics of banks, at its end: any move keeps what always holds; a new bank; what all noted; that it ends. No program text is named. -/
import Derived.Test.YtplplgpfglaajaaDoorSnq
namespace Go.Proofs.YtplplgpfglaajaaDoor.M

/-- what goes on from one bank to a later one -/
structure Lat2 (n : Nat) (b b' : Bk) : Prop where
  no : ∀ p, p < n → 0 ≤ b.no p → b'.no p = b.no p
  he : ∀ p q, b.he q p = true → b'.he q p = true
  be : b.be = true → b'.be = true
  ca : ∀ p q, p < n → q < n → b.he q p = true → b'.ca q p = b.ca q p
theorem Lat2.refl (n : Nat) (b : Bk) : Lat2 n b b := ⟨fun _ _ _ => rfl, fun _ _ h => h, fun h => h, fun _ _ _ _ _ => rfl⟩
theorem Lat2.trans {n : Nat} {a b c : Bk} (h : Lat2 n a b) (k : Lat2 n b c) : Lat2 n a c :=
  ⟨fun p hp h0 => by rw [k.no p hp (by rw [h.no p hp h0]; exact h0), h.no p hp h0], fun p q e => k.he p q (h.he p q e), fun e => k.be (h.be e), fun p q hp hq e => by rw [k.ca p q hp hq (h.he p q e), h.ca p q hp hq e]⟩
theorem lat_note {n : Nat} {b : Bk} {p : Nat} (hno : b.no p = -1) : Lat2 n b (noteB n b p) :=
  ⟨fun a _ h0 => by rw [noteB_no, if_neg (fun e => by subst e; omega)], fun _ _ h => h, fun _ => rfl, fun _ _ _ _ _ => rfl⟩
theorem lat_pop (n : Nat) (b : Bk) (p q : Nat) (r : List Int) : Lat2 n b (hearB (popB b p q r) p q) :=
  ⟨fun _ _ _ => rfl, fun a c h => by rw [hp_he]; split; rfl; exact h, fun h => h, fun _ _ _ _ _ => rfl⟩
theorem lat_pay (n : Nat) (b : Bk) (p q : Nat) (s : Int) : Lat2 n b (payB b p q s) := ⟨fun _ _ _ => rfl, fun _ _ h => h, fun h => h, fun _ _ _ _ _ => rfl⟩
theorem lat_sum (n : Nat) (b : Bk) (p q : Nat) (x : Int) (r : List Int) : Lat2 n b (sumB b p q x r) :=
  ⟨fun _ _ _ => rfl, fun _ _ h => h, fun h => h, fun a c _ _ e => by
    show (if 0 ≤ b.no q ∧ b.he q p = false then upd2 b.ca q p (b.ca q p + x) else b.ca) c a = _
    split
    · rename_i e2
      rw [upd2_other _ _ (fun y => by obtain ⟨rfl, rfl⟩ := y; rw [e] at e2; cases e2.2)]
    · rfl⟩
theorem lat_mark {n : Nat} {b : Bk} {p q : Nat} {r : List Int} (hpq : p ≠ q) : Lat2 n b (markB n b p q r) := by
  unfold markB
  split
  · rename_i e
    rw [note_pop hpq]
    exact (lat_note e).trans (lat_pop n _ p q r)
  · exact lat_pop n b p q r
/-- any move keeps what always holds -/
theorem mv_all {n : Nat} {b : Bk} (h : BOk n b) (k f t s : Int) : BOk n (mvB n b k f t s).1 ∧ tot n (mvB n b k f t s).1 = tot n b ∧ snp n (mvB n b k f t s).1 = snp n b ∧ Lat2 n b (mvB n b k f t s).1 := by
  have same : BOk n b ∧ tot n b = tot n b ∧ snp n b = snp n b ∧ Lat2 n b b := ⟨h, rfl, rfl, Lat2.refl n b⟩
  unfold mvB
  by_cases h1 : ¬ (0 ≤ k ∧ k ≤ 2) ∨ ¬ (0 ≤ f ∧ f < n)
  · rw [if_pos h1]; exact same
  rw [if_neg h1]
  have hf : 0 ≤ f ∧ f < n := Decidable.not_not.1 (fun e => h1 (.inr e))
  have hp : f.toNat < n := by omega
  by_cases h2 : k = 2
  · rw [if_pos h2]
    by_cases h3 : b.be = true
    · rw [if_pos h3]; exact same
    · rw [if_neg h3]
      have hno : b.no f.toNat = -1 := by
        rcases h.no0 _ hp with e | e
        · exact e
        · exact absurd (h.beg _ hp e) h3
      exact ⟨ok_note h hp hno, tot_note b, snp_note h hp hno, lat_note hno⟩
  rw [if_neg h2]
  by_cases h4 : ¬ (0 ≤ t ∧ t < n)
  · rw [if_pos h4]; exact same
  rw [if_neg h4]
  have ht : 0 ≤ t ∧ t < n := Decidable.not_not.1 h4
  have hq : t.toNat < n := by omega
  by_cases h5 : f = t
  · rw [if_pos h5]; exact same
  rw [if_neg h5]
  have hpq : f.toNat ≠ t.toNat := by omega
  by_cases h6 : k = 0
  · rw [if_pos h6]
    by_cases h7 : ¬ (0 ≤ s ∧ s ≤ 1000)
    · rw [if_pos h7]; exact same
    rw [if_neg h7]
    have hs : 0 ≤ s ∧ s ≤ 1000 := Decidable.not_not.1 h7
    by_cases h8 : b.mo f.toNat < s
    · rw [if_pos h8]; exact same
    rw [if_neg h8]
    by_cases h9 : 8 ≤ (b.wy f.toNat t.toNat).length
    · rw [if_pos h9]; exact same
    rw [if_neg h9]
    exact ⟨ok_pay h hp hpq hs.1 (by omega) (by omega), tot_pay b hp hq hs.1, snp_pay h hp hq hpq hs.1, lat_pay n b _ _ s⟩
  rw [if_neg h6]
  cases hw : b.wy f.toNat t.toNat with
  | nil => exact same
  | cons x r =>
    by_cases h7 : x = -1
    · subst h7
      simp only [if_pos]
      exact ⟨ok_mark h hp hq hpq hw, tot_mark b hw, snp_mark h hq hpq hw, lat_mark hpq⟩
    · simp only [if_neg h7]
      have hx0 : 0 ≤ x := by
        rcases h.wy0 _ _ hp hq x (by rw [hw]; exact List.mem_cons_self ..) with e | e
        · exact absurd e h7
        · exact e
      exact ⟨ok_sum h hp hq hpq hw h7, tot_sum b hp hq hw hx0, snp_sum h hp hq hw h7, lat_sum n b _ _ x r⟩
/-- a new bank -/
def newB (m : Nat → Int) : Bk := { mo := m, wy := fun _ _ => [], no := fun _ => -1, he := fun _ _ => false, ca := fun _ _ => 0, be := false }
theorem ok_new {n : Nat} {m : Nat → Int} (hm : ∀ p, p < n → 0 ≤ m p) : BOk n (newB m) :=
  ⟨hm, fun _ _ _ _ _ hx => (by cases hx), fun _ _ => rfl, fun _ _ => Or.inl rfl, fun p q _ _ _ => (if_neg (fun e => (by have : (0 : Int) ≤ -1 := e.1; omega))).symm, fun _ _ _ _ h => (by cases h), fun _ _ h => (by have : (0 : Int) ≤ -1 := h; omega), fun _ _ _ _ => Int.le_refl _, fun _ _ => rfl, fun _ _ _ _ => Nat.zero_le _⟩
theorem sumN_zero (n : Nat) : sumN (fun _ => 0) n = 0 := by
  induction n with
  | zero => rfl
  | succ n ih => simp only [sumN, ih]; rfl
theorem sum2_zero {f : Nat → Nat → Int} {n : Nat} (h : ∀ a b, a < n → b < n → f a b = 0) : sum2 f n = 0 := by
  unfold sum2
  have : sumN (fun a => sumN (f a) n) n = sumN (fun _ => 0) n := sumN_congr fun a ha => by
    rw [show sumN (f a) n = sumN (fun _ => 0) n from sumN_congr fun c hc => h a c ha hc, sumN_zero]
  rw [this, sumN_zero]
theorem tot_new (n : Nat) (m : Nat → Int) : tot n (newB m) = sumN m n := by
  unfold tot
  have : sum2 (fun p q => posS ((newB m).wy p q)) n = 0 := sum2_zero fun _ _ _ _ => rfl
  rw [this]
  show sumN m n + 0 = _
  omega
theorem snp_new (n : Nat) (m : Nat → Int) : snp n (newB m) = sumN m n := by
  unfold snp
  have h1 : sumN (rcd (newB m)) n = sumN m n := sumN_congr fun a _ => if_neg (fun e => by have : (0 : Int) ≤ -1 := e; omega)
  have h2 : sum2 (chn (newB m)) n = 0 := sum2_zero fun _ _ _ _ => rfl
  rw [h1, h2]; omega
/-- all noted, and on each way a mark came -/
def AllN (n : Nat) (b : Bk) : Prop := (∀ p, p < n → 0 ≤ b.no p) ∧ ∀ p q, p < n → q < n → p ≠ q → b.he q p = true
theorem AllN.later {n : Nat} {b b' : Bk} (h : AllN n b) (k : Lat2 n b b') : AllN n b' :=
  ⟨fun p hp => by rw [k.no p hp (h.1 p hp)]; exact h.1 p hp, fun p q hp hq e => k.he p q (h.2 p q hp hq e)⟩
theorem all_snp {n : Nat} {b : Bk} (h : BOk n b) (ha : AllN n b) : sumN b.no n + sum2 (fun p q => b.ca q p) n = snp n b := by
  unfold snp
  congr 1
  · exact sumN_congr fun p hp => (if_pos (ha.1 p hp)).symm
  · refine sum2_congr fun p q hp hq => ?_
    unfold chn
    by_cases e : p = q
    · subst e
      rw [h.wyd p hp]
      show b.ca p p = b.ca p p + if b.he p p = true then 0 else 0
      split <;> omega
    · rw [if_pos (ha.2 p q hp hq e)]; omega
/-- a way that is empty behind who noted: its mark came -/
theorem heard_of {n : Nat} {b : Bk} (h : BOk n b) {p q : Nat} (hp : p < n) (hq : q < n) (hpq : p ≠ q) (hw : b.wy p q = []) (hn : 0 ≤ b.no p) : b.he q p = true := by
  have := h.mrk p q hp hq hpq
  rw [hw] at this
  cases e : b.he q p with
  | true => rfl
  | false => rw [if_pos ⟨hn, e⟩] at this; cases this
/-- only marks are on a way -/
def Cln (b : Bk) (p q : Nat) : Prop := ∀ x, x ∈ b.wy p q → x = -1
theorem posS_cln {l : List Int} (h : ∀ x, x ∈ l → x = -1) : posS l = 0 := by
  induction l with
  | nil => rfl
  | cons x l ih =>
    simp only [posS]
    rw [ih (fun y hy => h y (List.mem_cons_of_mem _ hy)), h x (List.mem_cons_self ..)]
    rfl
/-- what comes leaves a way that only marks are on so -/
theorem cln_come {n : Nat} {b : Bk} {p q a c : Nat} {x : Int} {r : List Int} (hw : b.wy p q = x :: r) (h : Cln b a c) (hpq : p ≠ q) : Cln (if x = -1 then markB n b p q r else sumB b p q x r) a c := by
  have hr : ∀ y, y ∈ (if a = p ∧ c = q then r else b.wy a c) → y = -1 := fun y hy => by
    split at hy
    · rename_i e; obtain ⟨rfl, rfl⟩ := e
      exact h y (by rw [hw]; exact List.mem_cons_of_mem _ hy)
    · exact h y hy
  split
  · unfold markB
    split
    · rw [note_pop hpq]
      intro y hy
      rw [hp_wy, noteB_wy] at hy
      split at hy
      · rename_i e; obtain ⟨rfl, rfl⟩ := e
        exact h y (by rw [hw]; exact List.mem_cons_of_mem _ hy)
      · split at hy
        · rcases List.mem_append.1 hy with hy | hy
          · exact h y hy
          · exact List.mem_singleton.1 hy
        · exact h y hy
    · intro y hy
      rw [hp_wy] at hy
      exact hr y hy
  · intro y hy
    rw [sumB_wy] at hy
    exact hr y hy
theorem come_wy {n : Nat} {b : Bk} {p q : Nat} {x : Int} {r : List Int} (hpq : p ≠ q) : (if x = -1 then markB n b p q r else sumB b p q x r).wy p q = r := by
  split
  · unfold markB
    split
    · rw [note_pop hpq, hp_wy, if_pos ⟨rfl, rfl⟩]
    · rw [hp_wy, if_pos ⟨rfl, rfl⟩]
  · rw [sumB_wy, if_pos ⟨rfl, rfl⟩]
/-- where only marks are on all ways, all money is had -/
theorem tot_cln {n : Nat} {b : Bk} (h : ∀ p q, p < n → q < n → Cln b p q) : tot n b = sumN b.mo n := by
  unfold tot
  have : sum2 (fun p q => posS (b.wy p q)) n = 0 := sum2_zero fun a c ha hc => posS_cln (h a c ha hc)
  rw [this]; omega
end Go.Proofs.YtplplgpfglaajaaDoor.M
