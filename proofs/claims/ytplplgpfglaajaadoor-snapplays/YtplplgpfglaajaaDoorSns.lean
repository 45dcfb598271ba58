/- Plain mathematics of banks: what is had, waits and is noted is bounded; what a round of comings leaves. No program text is named. -/
import Derived.Test.YtplplgpfglaajaaDoorSnr
namespace Go.Proofs.YtplplgpfglaajaaDoor.M

theorem sumN_le {f : Nat → Int} {n k : Nat} (h : ∀ i, i < n → 0 ≤ f i) (hk : k < n) : f k ≤ sumN f n := by
  induction n with
  | zero => omega
  | succ n ih =>
    simp only [sumN]
    by_cases e : k = n
    · subst e; have := sumN_nonneg (f := f) (n := k) (fun i hi => h i (by omega)); omega
    · have := ih (fun i hi => h i (by omega)) (by omega); have := h n (by omega); omega
theorem sumN_part {f : Nat → Int} {n k : Nat} (h : ∀ i, i < n → 0 ≤ f i) (hk : k ≤ n) : sumN f k ≤ sumN f n := by
  induction n with
  | zero => obtain rfl : k = 0 := by omega
            exact Int.le_refl _
  | succ n ih =>
    by_cases e : k = n + 1
    · subst e; exact Int.le_refl _
    · simp only [sumN]
      have := ih (fun i hi => h i (by omega)) (by omega); have := h n (by omega); omega
theorem sum2_le {f : Nat → Nat → Int} {n a c : Nat} (h : ∀ i j, i < n → j < n → 0 ≤ f i j) (ha : a < n) (hc : c < n) : f a c ≤ sum2 f n := by
  have h1 : f a c ≤ sumN (f a) n := sumN_le (fun j hj => h a j ha hj) hc
  have h2 : sumN (f a) n ≤ sum2 f n := sumN_le (f := fun a => sumN (f a) n) (fun i hi => sumN_nonneg fun j hj => h i j hi hj) ha
  omega
theorem sum2_nonneg {f : Nat → Nat → Int} {n : Nat} (h : ∀ i j, i < n → j < n → 0 ≤ f i j) : 0 ≤ sum2 f n :=
  sumN_nonneg fun i hi => sumN_nonneg fun j hj => h i j hi hj
theorem sumN_add (f g : Nat → Int) (n : Nat) : sumN (fun i => f i + g i) n = sumN f n + sumN g n := by
  induction n with
  | zero => rfl
  | succ n ih => simp only [sumN, ih]; omega
theorem sum2_swap' (f : Nat → Nat → Int) (n m : Nat) : sumN (fun a => sumN (f a) m) n = sumN (fun c => sumN (fun a => f a c) n) m := by
  induction m with
  | zero => exact sumN_zero n
  | succ m ih =>
    simp only [sumN]
    rw [sumN_add, ih]
theorem sum2_swap (f : Nat → Nat → Int) (n : Nat) : sum2 f n = sum2 (fun a c => f c a) n := sum2_swap' f n n

theorem posS_nonneg (l : List Int) : 0 ≤ posS l := by
  induction l with
  | nil => exact Int.le_refl _
  | cons x l ih => simp only [posS]; split <;> omega
theorem posS_mem {l : List Int} {x : Int} (h : x ∈ l) : x ≤ posS l := by
  induction l with
  | nil => cases h
  | cons y l ih =>
    simp only [posS]
    have := posS_nonneg l
    rcases List.mem_cons.1 h with rfl | h
    · split <;> omega
    · have := ih h; split <;> omega
theorem ahd_nonneg {l : List Int} (h : ∀ x, x ∈ l → x = -1 ∨ 0 ≤ x) : 0 ≤ ahd l := by
  induction l with
  | nil => exact Int.le_refl _
  | cons y l ih =>
    simp only [ahd]
    split
    · exact Int.le_refl _
    · rename_i e
      have := ih (fun x hx => h x (List.mem_cons_of_mem _ hx))
      rcases h y (List.mem_cons_self ..) with e' | e'
      · exact absurd e' e
      · omega
/-- what always holds of a bank, with its bounds -/
structure BG (n : Nat) (b : Bk) : Prop where
  ok : BOk n b
  n5 : n ≤ 5
  n0 : 0 < n
  tt : tot n b ≤ 5000
  sn : snp n b ≤ 5000
  bg : b.be = true → ∃ p, p < n ∧ 0 ≤ b.no p
  ow : ∀ p q, ¬ (p < n ∧ q < n) → b.wy p q = [] ∧ b.he q p = false ∧ b.ca q p = 0
theorem BG.mo0 {n : Nat} {b : Bk} (h : BG n b) {p : Nat} (hp : p < n) : 0 ≤ b.mo p := h.ok.mo0 p hp
theorem BG.mo_le {n : Nat} {b : Bk} (h : BG n b) {p : Nat} (hp : p < n) : b.mo p ≤ 5000 := by
  have h1 := sumN_le (f := b.mo) h.ok.mo0 hp
  have h2 : 0 ≤ sum2 (fun p q => posS (b.wy p q)) n := sum2_nonneg fun i j _ _ => posS_nonneg _
  have h3 := h.tt
  unfold tot at h3
  omega
theorem BG.wy_le {n : Nat} {b : Bk} (h : BG n b) {p q : Nat} {x : Int} (hx : x ∈ b.wy p q) : x = -1 ∨ (0 ≤ x ∧ x ≤ 5000) := by
  by_cases hpq : p < n ∧ q < n
  · rcases h.ok.wy0 p q hpq.1 hpq.2 x hx with e | e
    · exact .inl e
    · right
      refine ⟨e, ?_⟩
      have h1 := posS_mem hx
      have h2 := sum2_le (f := fun p q => posS (b.wy p q)) (fun i j _ _ => posS_nonneg _) hpq.1 hpq.2
      have h4 := sumN_nonneg (f := b.mo) (n := n) h.ok.mo0
      have h3 := h.tt
      unfold tot at h3
      omega
  · rw [(h.ow p q hpq).1] at hx; cases hx
theorem BG.rcd0 {n : Nat} {b : Bk} (h : BG n b) {p : Nat} (hp : p < n) : 0 ≤ rcd b p := by
  unfold rcd; split
  · assumption
  · exact h.ok.mo0 p hp
theorem BG.chn0 {n : Nat} {b : Bk} (h : BG n b) {p q : Nat} (hp : p < n) (hq : q < n) : b.ca q p ≤ chn b p q := by
  unfold chn
  have := ahd_nonneg (h.ok.wy0 p q hp hq)
  split <;> omega
theorem BG.ca0 {n : Nat} {b : Bk} (h : BG n b) (p q : Nat) : 0 ≤ b.ca q p := by
  by_cases hpq : p < n ∧ q < n
  · exact h.ok.ca0 p q hpq.1 hpq.2
  · rw [(h.ow p q hpq).2.2]; exact Int.le_refl _
theorem BG.ca_le {n : Nat} {b : Bk} (h : BG n b) (p q : Nat) : b.ca q p ≤ 5000 := by
  by_cases hpq : p < n ∧ q < n
  · have h0 := h.chn0 hpq.1 hpq.2
    have h1 := sum2_le (f := chn b) (fun i j hi hj => Int.le_trans (h.ok.ca0 i j hi hj) (h.chn0 hi hj)) hpq.1 hpq.2
    have h2 := sumN_nonneg (f := rcd b) (n := n) (fun i hi => h.rcd0 hi)
    have h3 := h.sn
    unfold snp at h3
    omega
  · rw [(h.ow p q hpq).2.2]; omega
theorem BG.no_le {n : Nat} {b : Bk} (h : BG n b) {p : Nat} (hp : p < n) : b.no p ≤ 5000 := by
  have h1 := sumN_le (f := rcd b) (fun i hi => h.rcd0 hi) hp
  have h2 := sum2_nonneg (f := chn b) (n := n) (fun i j hi hj => Int.le_trans (h.ok.ca0 i j hi hj) (h.chn0 hi hj))
  have h3 := h.sn
  unfold snp at h3
  by_cases e : 0 ≤ b.no p
  · have h4 : (if 0 ≤ b.no p then b.no p else b.mo p) ≤ sumN (rcd b) n := sumN_le (f := rcd b) (fun i hi => h.rcd0 hi) hp
    rw [if_pos e] at h4
    omega
  · omega
theorem BG.cnt {n : Nat} {b : Bk} (h : BG n b) (p q : Nat) : (b.wy p q).length ≤ 9 := by
  by_cases hpq : p < n ∧ q < n
  · by_cases e : p = q
    · subst e; rw [h.ok.wyd p hpq.1]; simp
    · have h1 := h.ok.len p q hpq.1 hpq.2
      have h2 := h.ok.mrk p q hpq.1 hpq.2 e
      have h3 : (b.wy p q).count (-1) ≤ 1 := by rw [h2]; split <;> omega
      omega
  · rw [(h.ow p q hpq).1]; simp
theorem BG.no_neg {n : Nat} {b : Bk} (h : BG n b) {p : Nat} (hp : p < n) (h0 : ¬ 0 ≤ b.no p) : b.no p = -1 := by
  rcases h.ok.no0 p hp with e | e
  · exact e
  · exact absurd e h0
theorem note_ow {n : Nat} {b : Bk} (h : ∀ p q, ¬ (p < n ∧ q < n) → b.wy p q = [] ∧ b.he q p = false ∧ b.ca q p = 0) {t : Nat} (ht : t < n) : ∀ p q, ¬ (p < n ∧ q < n) → (noteB n b t).wy p q = [] ∧ (noteB n b t).he q p = false ∧ (noteB n b t).ca q p = 0 := fun p q e => by
  refine ⟨?_, (h p q e).2⟩
  rw [noteB_wy, if_neg (fun x => e ⟨by omega, x.2.2⟩)]
  exact (h p q e).1
/-- any move keeps all that -/
theorem BG.mv {n : Nat} {b : Bk} (h : BG n b) (k f t s : Int) : BG n (mvB n b k f t s).1 := by
  obtain ⟨m1, m2, m3, m4⟩ := mv_all h.ok k f t s
  suffices H : ((mvB n b k f t s).1.be = true → b.be = true ∨ ∃ p, p < n ∧ 0 ≤ (mvB n b k f t s).1.no p) ∧ (∀ p q, ¬ (p < n ∧ q < n) → (mvB n b k f t s).1.wy p q = [] ∧ (mvB n b k f t s).1.he q p = false ∧ (mvB n b k f t s).1.ca q p = 0) by
    refine ⟨m1, h.n5, h.n0, by rw [m2]; exact h.tt, by rw [m3]; exact h.sn, fun e => ?_, H.2⟩
    rcases H.1 e with e | e
    · obtain ⟨p, hp, h0⟩ := h.bg e
      exact ⟨p, hp, by rw [m4.no p hp h0]; exact h0⟩
    · exact e
  have same : (b.be = true → b.be = true ∨ ∃ p, p < n ∧ 0 ≤ b.no p) ∧ (∀ p q, ¬ (p < n ∧ q < n) → b.wy p q = [] ∧ b.he q p = false ∧ b.ca q p = 0) := ⟨Or.inl, h.ow⟩
  clear m1 m2 m3 m4
  unfold mvB
  by_cases h1 : ¬ (0 ≤ k ∧ k ≤ 2) ∨ ¬ (0 ≤ f ∧ f < n)
  · rw [if_pos h1]; exact same
  rw [if_neg h1]
  have hf : 0 ≤ f ∧ f < n := Decidable.not_not.1 (fun e => h1 (.inr e))
  have hp : f.toNat < n := by omega
  by_cases h2 : k = 2
  · rw [if_pos h2]
    by_cases h3 : b.be = true
    · rw [if_pos h3]; exact same
    · rw [if_neg h3]
      exact ⟨fun _ => .inr ⟨f.toNat, hp, by rw [noteB_no, if_pos rfl]; exact h.ok.mo0 _ hp⟩, note_ow h.ow hp⟩
  rw [if_neg h2]
  by_cases h4 : ¬ (0 ≤ t ∧ t < n)
  · rw [if_pos h4]; exact same
  rw [if_neg h4]
  have ht : 0 ≤ t ∧ t < n := Decidable.not_not.1 h4
  have hq : t.toNat < n := by omega
  by_cases h5 : f = t
  · rw [if_pos h5]; exact same
  rw [if_neg h5]
  have hpq : f.toNat ≠ t.toNat := by omega
  by_cases h6 : k = 0
  · rw [if_pos h6]
    by_cases h7 : ¬ (0 ≤ s ∧ s ≤ 1000)
    · rw [if_pos h7]; exact same
    rw [if_neg h7]
    by_cases h8 : b.mo f.toNat < s
    · rw [if_pos h8]; exact same
    rw [if_neg h8]
    by_cases h9 : 8 ≤ (b.wy f.toNat t.toNat).length
    · rw [if_pos h9]; exact same
    rw [if_neg h9]
    refine ⟨Or.inl, fun p q e => ⟨?_, (h.ow p q e).2⟩⟩
    rw [payB_wy, if_neg (fun x => e ⟨by omega, by omega⟩)]
    exact (h.ow p q e).1
  rw [if_neg h6]
  cases hw : b.wy f.toNat t.toNat with
  | nil => exact same
  | cons x r =>
    have popow : ∀ (c : Bk), (∀ p q, ¬ (p < n ∧ q < n) → c.wy p q = [] ∧ c.he q p = false ∧ c.ca q p = 0) → ∀ p q, ¬ (p < n ∧ q < n) → (hearB (popB c f.toNat t.toNat r) f.toNat t.toNat).wy p q = [] ∧ (hearB (popB c f.toNat t.toNat r) f.toNat t.toNat).he q p = false ∧ (hearB (popB c f.toNat t.toNat r) f.toNat t.toNat).ca q p = 0 := fun c hc p q e => by
      refine ⟨?_, ?_, (hc p q e).2.2⟩
      · rw [hp_wy, if_neg (fun x => e ⟨by omega, by omega⟩)]; exact (hc p q e).1
      · rw [hp_he, if_neg (fun x => e ⟨by omega, by omega⟩)]; exact (hc p q e).2.1
    by_cases h7 : x = -1
    · subst h7
      simp only [if_pos]
      unfold markB
      by_cases h8 : b.no t.toNat = -1
      · rw [if_pos h8, note_pop hpq]
        exact ⟨fun _ => .inr ⟨t.toNat, hq, by show 0 ≤ (noteB n b t.toNat).no t.toNat; rw [noteB_no, if_pos rfl]; exact h.ok.mo0 _ hq⟩, popow _ (note_ow h.ow hq)⟩
      · rw [if_neg h8]
        exact ⟨Or.inl, popow _ h.ow⟩
    · simp only [if_neg h7]
      refine ⟨Or.inl, fun p q e => ⟨?_, (h.ow p q e).2.1, ?_⟩⟩
      · rw [sumB_wy, if_neg (fun x => e ⟨by omega, by omega⟩)]; exact (h.ow p q e).1
      · show (if 0 ≤ b.no t.toNat ∧ b.he t.toNat f.toNat = false then upd2 b.ca t.toNat f.toNat (b.ca t.toNat f.toNat + x) else b.ca) q p = 0
        split
        · rw [upd2_other _ _ (fun y => e ⟨by omega, by omega⟩)]; exact (h.ow p q e).2.2
        · exact (h.ow p q e).2.2
theorem sumN_bound {f : Nat → Int} {n : Nat} {c : Int} (h : ∀ i, i < n → f i ≤ c) : sumN f n ≤ n * c := by
  induction n with
  | zero => simp [sumN]
  | succ n ih =>
    simp only [sumN]
    have := ih (fun i hi => h i (by omega)); have := h n (by omega)
    have e : ((n + 1 : Nat) : Int) * c = n * c + c := by rw [Int.natCast_add, Int.add_mul]; simp
    omega
theorem BG.new {n : Nat} {m : Nat → Int} (h0 : 0 < n) (h5 : n ≤ 5) (hm : ∀ p, p < n → 0 ≤ m p ∧ m p ≤ 1000) : BG n (newB m) := by
  have hb : sumN m n ≤ 5000 := by
    have := sumN_bound (f := m) (c := 1000) (fun i hi => (hm i hi).2)
    have : (n : Int) * 1000 ≤ 5000 := by omega
    omega
  exact ⟨ok_new fun p hp => (hm p hp).1, h5, h0, by rw [tot_new]; exact hb, by rw [snp_new]; exact hb, fun e => absurd e Bool.noConfusion, fun _ _ _ => ⟨rfl, rfl, rfl⟩⟩

/-! ### it ends -/
/-- N ways were gone over, one behind the other, again and again -/
structure EI (n s N : Nat) (b : Bk) : Prop where
  bg : BG n b
  ns : 0 ≤ b.no s
  cl : ∀ a c, a < n → c < n → a * n + c < N → Cln b a c
  nt : ∀ c, c < n → s * n + c < N → 0 ≤ b.no c
  hd : ∀ a c, a < n → c < n → a ≠ c → n * n + a * n + c < N → b.he c a = true
/-- what comes on a way goes on from a bank so -/
structure Cms (n : Nat) (b b' : Bk) : Prop where
  bg : BG n b'
  lat : Lat2 n b b'
  cl : ∀ a c, Cln b a c → Cln b' a c
  tt : tot n b' = tot n b
theorem Cms.refl {n : Nat} {b : Bk} (h : BG n b) : Cms n b b := ⟨h, Lat2.refl n b, fun _ _ h => h, rfl⟩
theorem mv_come {n : Nat} {b : Bk} {p q : Nat} {x : Int} {r : List Int} (hp : p < n) (hq : q < n) (hpq : p ≠ q) (hw : b.wy p q = x :: r) (z : Int) : mvB n b 1 (p : Int) (q : Int) z = (if x = -1 then markB n b p q r else sumB b p q x r, 0) := by
  unfold mvB
  rw [if_neg (by omega), if_neg (by omega), if_neg (by omega), if_neg (by omega), if_neg (by omega)]
  simp only [Int.toNat_natCast, hw]
  split <;> rfl
theorem Cms.step {n : Nat} {b b' : Bk} (h : Cms n b b') {p q : Nat} {x : Int} {r : List Int} (hp : p < n) (hq : q < n) (hpq : p ≠ q) (hw : b'.wy p q = x :: r) (z : Int) : Cms n b (mvB n b' 1 (p : Int) (q : Int) z).1 ∧ (mvB n b' 1 (p : Int) (q : Int) z).1.wy p q = r ∧ (mvB n b' 1 (p : Int) (q : Int) z).2 = 0 := by
  have e := mv_come hp hq hpq hw z
  have hm := mv_all h.bg.ok 1 (p : Int) (q : Int) z
  refine ⟨⟨h.bg.mv 1 (p : Int) (q : Int) z, h.lat.trans hm.2.2.2, fun a c hc => ?_, by rw [hm.2.1, h.tt]⟩, ?_, by rw [e]⟩
  · rw [e]; exact cln_come hw (h.cl a c hc) hpq
  · rw [e]; exact come_wy hpq
theorem EI.step {n s N r p q : Nat} {b b' : Bk} (h : EI n s N b) (hs : s < n) (hp : p < n) (hq : q < n) (hN : N = r * (n * n) + p * n + q) (k : Cms n b b') (hw : p ≠ q → b'.wy p q = []) : EI n s (N + 1) b' := by
  have hw' : b'.wy p q = [] := by
    by_cases e : p = q
    · subst e; exact k.bg.ok.wyd p hp
    · exact hw e
  have hns : 0 ≤ b'.no s := by rw [k.lat.no s hs h.ns]; exact h.ns
  have key : ∀ a c, a < n → c < n → a * n + c = p * n + q → a = p ∧ c = q := fun a c ha hc e => by
    have h1 : (a * n + c) / n = a := by rw [Nat.mul_comm, Nat.mul_add_div (by omega), Nat.div_eq_of_lt hc]; rfl
    have h2 : (p * n + q) / n = p := by rw [Nat.mul_comm, Nat.mul_add_div (by omega), Nat.div_eq_of_lt hq]; rfl
    have h3 : a = p := by rw [← h1, ← h2, e]
    subst h3
    exact ⟨rfl, by omega⟩
  have lim : ∀ a c, a < n → c < n → a * n + c < n * n := fun a c ha hc => by
    have : a * n + n ≤ n * n := by rw [← Nat.succ_mul]; exact Nat.mul_le_mul_right _ ha
    omega
  have hl := lim p q hp hq
  refine ⟨k.bg, hns, fun a c ha hc hlt => ?_, fun c hc hlt => ?_, fun a c ha hc hac hlt => ?_⟩
  · by_cases e : a * n + c < N
    · exact k.cl a c (h.cl a c ha hc e)
    · have hla := lim a c ha hc
      have hr : r = 0 := by
        rcases r with _ | r
        · rfl
        · have : (r + 1) * (n * n) ≥ n * n := by rw [Nat.succ_mul]; omega
          omega
      subst hr
      obtain ⟨rfl, rfl⟩ := key a c ha hc (by omega)
      intro x hx
      rw [hw'] at hx; cases hx
  · by_cases e : s * n + c < N
    · rw [k.lat.no c hc (h.nt c hc e)]; exact h.nt c hc e
    · have hla := lim s c hs hc
      have hr : r = 0 := by
        rcases r with _ | r
        · rfl
        · have : (r + 1) * (n * n) ≥ n * n := by rw [Nat.succ_mul]; omega
          omega
      subst hr
      obtain ⟨rfl, rfl⟩ := key s c hs hc (by omega)
      by_cases e : s = c
      · subst e; exact hns
      · exact (k.bg.ok.hea s c hs hc (heard_of k.bg.ok hs hc e hw' hns)).2.1
  · by_cases e : n * n + a * n + c < N
    · exact k.lat.he a c (h.hd a c ha hc hac e)
    · have hla := lim a c ha hc
      have hr : r = 1 := by
        rcases r with _ | _ | r
        · omega
        · rfl
        · have : (r + 1 + 1) * (n * n) ≥ n * n + n * n := by rw [Nat.succ_mul, Nat.succ_mul]; omega
          omega
      subst hr
      obtain ⟨rfl, rfl⟩ := key a c ha hc (by omega)
      have hna : 0 ≤ b'.no a := by
        have hn := h.nt a ha (by have := lim s a hs ha; omega)
        rw [k.lat.no a ha hn]; exact hn
      exact heard_of k.bg.ok ha hc hac hw' hna
theorem EI.end_ {n s : Nat} {b : Bk} (h : EI n s (5 * (n * n)) b) (hs : s < n) : AllN n b ∧ tot n b = sumN b.mo n := by
  have lim : ∀ a c, a < n → c < n → a * n + c < n * n := fun a c ha hc => by
    have : a * n + n ≤ n * n := by rw [← Nat.succ_mul]; exact Nat.mul_le_mul_right _ ha
    omega
  exact ⟨⟨fun p hp => h.nt p hp (by have := lim s p hs hp; omega), fun p q hp hq e => h.hd p q hp hq e (by have := lim p q hp hq; omega)⟩,
    tot_cln fun p q hp hq => h.cl p q hp hq (by have := lim p q hp hq; omega)⟩
theorem EI.begin {n s : Nat} {b : Bk} (h : BG n b) (hn : 0 ≤ b.no s) : EI n s 0 b :=
  ⟨h, hn, fun _ _ _ _ h => absurd h (Nat.not_lt_zero _), fun _ _ h => absurd h (Nat.not_lt_zero _), fun _ _ _ _ _ h => absurd h (Nat.not_lt_zero _)⟩
/-- behind a mark of process 0 somebody noted -/
theorem mv_begun {n : Nat} {b : Bk} (h : BG n b) (t z : Int) : ∃ s, s < n ∧ 0 ≤ (mvB n b 2 0 t z).1.no s := by
  have h0 := h.n0
  have e : (mvB n b 2 0 t z).1 = if b.be = true then b else noteB n b 0 := by
    unfold mvB
    rw [if_neg (by omega), if_pos rfl]
    split <;> rfl
  rw [e]
  split
  · rename_i hb; exact h.bg hb
  · exact ⟨0, h0, by rw [noteB_no, if_pos rfl]; exact h.ok.mo0 0 h0⟩
end Go.Proofs.YtplplgpfglaajaaDoor.M
