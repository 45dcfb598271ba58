/- Plain mathematics of banks, further: what always holds of them goes on to hold, and what is noted adds up. No program text is named. -/
import Derived.Test.YtplplgpfglaajaaDoorSnp
namespace Go.Proofs.YtplplgpfglaajaaDoor.M

/-! ### what always holds -/
theorem noteB_wy (n : Nat) (b : Bk) (p a c : Nat) : (noteB n b p).wy a c = if a = p ∧ c ≠ p ∧ c < n then b.wy a c ++ [-1] else b.wy a c := rfl
theorem noteB_no (n : Nat) (b : Bk) (p a : Nat) : (noteB n b p).no a = if a = p then b.mo p else b.no a := rfl
theorem ok_note {n : Nat} {b : Bk} {p : Nat} (h : BOk n b) (hp : p < n) (hno : b.no p = -1) : BOk n (noteB n b p) := by
  have hhe : ∀ c, c < n → b.he c p = false := fun c hc => by
    cases e : b.he c p with
    | false => rfl
    | true => have := (h.hea p c hp hc e).1; omega
  have hhe2 : ∀ a, a < n → b.he p a = false := fun a ha => by
    cases e : b.he p a with
    | false => rfl
    | true => have := (h.hea a p ha hp e).2.1; omega
  refine ⟨h.mo0, fun a c ha hc x hx => ?_, fun a ha => ?_, fun a ha => ?_, fun a c ha hc hac => ?_, fun a c ha hc he => ?_, fun _ _ _ => rfl, h.ca0, h.cad, fun a c ha hc => ?_⟩
  · rw [noteB_wy] at hx
    split at hx
    · rcases List.mem_append.1 hx with hx | hx
      · exact h.wy0 a c ha hc x hx
      · exact .inl (List.mem_singleton.1 hx)
    · exact h.wy0 a c ha hc x hx
  · rw [noteB_wy, if_neg (fun e => e.2.1 e.1)]; exact h.wyd a ha
  · rw [noteB_no]
    split
    · exact .inr (h.mo0 p hp)
    · exact h.no0 a ha
  · rw [noteB_wy, noteB_no]
    have hm := h.mrk a c ha hc hac
    by_cases e : a = p
    · subst e
      rw [if_pos ⟨rfl, fun e => hac e.symm, hc⟩, if_pos rfl, List.count_append, hm, if_neg (by rw [hno]; omega), if_pos ⟨h.mo0 a ha, hhe c hc⟩]
      simp
    · rw [if_neg (fun x => e x.1), if_neg e, hm]; rfl
  · have hh := h.hea a c ha hc he
    have ea : a ≠ p := fun e => by subst e; have := hhe c hc; rw [show b.he c a = true from he] at this; cases this
    have ec : c ≠ p := fun e => by subst e; have := hhe2 a ha; rw [show b.he c a = true from he] at this; cases this
    rw [noteB_no, noteB_no, if_neg ea, if_neg ec]
    exact hh
  · rw [noteB_wy]
    have := h.len a c ha hc
    split
    · rw [List.length_append, List.count_append]; simp; omega
    · exact this
theorem payB_wy (b : Bk) (p q : Nat) (s : Int) (a c : Nat) : (payB b p q s).wy a c = if a = p ∧ c = q then b.wy p q ++ [s] else b.wy a c := rfl
theorem ok_pay {n : Nat} {b : Bk} {p q : Nat} {s : Int} (h : BOk n b) (hp : p < n) (hpq : p ≠ q) (hs : 0 ≤ s) (hm : s ≤ b.mo p) (hl : (b.wy p q).length < 8) : BOk n (payB b p q s) := by
  have hcnt : ∀ a c, ((payB b p q s).wy a c).count (-1) = (b.wy a c).count (-1) := fun a c => by
    rw [payB_wy]
    split
    · rename_i e; obtain ⟨rfl, rfl⟩ := e
      rw [List.count_append, List.count_eq_zero.2 (by simp; omega : (-1 : Int) ∉ [s])]; rfl
    · rfl
  refine ⟨fun a ha => ?_, fun a c ha hc x hx => ?_, fun a ha => ?_, h.no0, fun a c ha hc hac => by rw [hcnt]; exact h.mrk a c ha hc hac, h.hea, h.beg, h.ca0, h.cad, fun a c ha hc => ?_⟩
  · show 0 ≤ upd1 b.mo p (b.mo p - s) a
    unfold upd1
    split
    · omega
    · exact h.mo0 a ha
  · rw [payB_wy] at hx
    split at hx
    · rename_i e; obtain ⟨rfl, rfl⟩ := e
      rcases List.mem_append.1 hx with hx | hx
      · exact h.wy0 a c ha hc x hx
      · exact .inr (by rw [List.mem_singleton.1 hx]; exact hs)
    · exact h.wy0 a c ha hc x hx
  · rw [payB_wy, if_neg (fun e => hpq (e.1.symm.trans e.2))]; exact h.wyd a ha
  · rw [hcnt, payB_wy]
    split
    · rename_i e; obtain ⟨rfl, rfl⟩ := e
      rw [List.length_append]; simp; omega
    · exact h.len a c ha hc
theorem sumB_wy (b : Bk) (p q : Nat) (x : Int) (r : List Int) (a c : Nat) : (sumB b p q x r).wy a c = if a = p ∧ c = q then r else b.wy a c := rfl
theorem ok_sum {n : Nat} {b : Bk} {p q : Nat} {x : Int} {r : List Int} (h : BOk n b) (hp : p < n) (hq : q < n) (hpq : p ≠ q) (hw : b.wy p q = x :: r) (hx : x ≠ -1) : BOk n (sumB b p q x r) := by
  have hx0 : 0 ≤ x := by
    rcases h.wy0 p q hp hq x (by rw [hw]; exact List.mem_cons_self ..) with e | e
    · exact absurd e hx
    · exact e
  have hcnt : ∀ a c, ((sumB b p q x r).wy a c).count (-1) = (b.wy a c).count (-1) := fun a c => by
    rw [sumB_wy]
    split
    · rename_i e; obtain ⟨rfl, rfl⟩ := e
      rw [hw, List.count_cons_of_ne hx]
    · rfl
  have hca : ∀ a c, (sumB b p q x r).ca c a = b.ca c a ∨ (c = q ∧ a = p ∧ (sumB b p q x r).ca c a = b.ca q p + x) := fun a c => by
    show (if 0 ≤ b.no q ∧ b.he q p = false then upd2 b.ca q p (b.ca q p + x) else b.ca) c a = _ ∨ _
    split
    · unfold upd2
      split
      · rename_i e1 e2; exact .inr ⟨e2.1, e2.2, by show (if _ then _ else _ : Nat → Nat → Int) c a = _; rw [if_pos e1]; unfold upd2; rw [if_pos e2]⟩
      · exact .inl rfl
    · exact .inl rfl
  refine ⟨fun a ha => ?_, fun a c ha hc y hy => ?_, fun a ha => ?_, h.no0, fun a c ha hc hac => by rw [hcnt]; exact h.mrk a c ha hc hac, h.hea, h.beg, fun a c ha hc => ?_, fun a ha => ?_, fun a c ha hc => ?_⟩
  · show 0 ≤ upd1 b.mo q (b.mo q + x) a
    unfold upd1
    split
    · have := h.mo0 q hq; omega
    · exact h.mo0 a ha
  · rw [sumB_wy] at hy
    split at hy
    · rename_i e; obtain ⟨rfl, rfl⟩ := e
      exact h.wy0 a c ha hc y (by rw [hw]; exact List.mem_cons_of_mem _ hy)
    · exact h.wy0 a c ha hc y hy
  · rw [sumB_wy, if_neg (fun e => hpq (e.1.symm.trans e.2))]; exact h.wyd a ha
  · rcases hca a c with e | ⟨rfl, rfl, e⟩
    · rw [e]; exact h.ca0 a c ha hc
    · rw [e]; have := h.ca0 a c ha hc; omega
  · rcases hca a a with e | ⟨rfl, e, _⟩
    · rw [e]; exact h.cad a ha
    · exact absurd e.symm hpq
  · rw [hcnt, sumB_wy]
    split
    · rename_i e; obtain ⟨rfl, rfl⟩ := e
      have := h.len a c ha hc
      rw [hw, List.length_cons, List.count_cons_of_ne hx] at this
      rw [hw, List.count_cons_of_ne hx]; omega
    · exact h.len a c ha hc
theorem note_pop {n : Nat} {b : Bk} {p q : Nat} {r : List Int} (hpq : p ≠ q) : noteB n (popB b p q r) q = popB (noteB n b q) p q r := by
  unfold noteB popB
  congr 1
  funext a c
  show (if a = q ∧ c ≠ q ∧ c < n then upd2 b.wy p q r a c ++ [-1] else upd2 b.wy p q r a c) = upd2 (fun a c => if a = q ∧ c ≠ q ∧ c < n then b.wy a c ++ [-1] else b.wy a c) p q r a c
  by_cases e : a = p ∧ c = q
  · obtain ⟨rfl, rfl⟩ := e
    rw [if_neg (fun x => hpq x.1), upd2_same, upd2_same]
  · rw [upd2_other _ _ e, upd2_other _ _ e]
theorem hp_wy (b : Bk) (p q : Nat) (r : List Int) (a c : Nat) : (hearB (popB b p q r) p q).wy a c = if a = p ∧ c = q then r else b.wy a c := rfl
theorem hp_he (b : Bk) (p q : Nat) (r : List Int) (a c : Nat) : (hearB (popB b p q r) p q).he c a = if c = q ∧ a = p then true else b.he c a := rfl
theorem mark_head {n : Nat} {b : Bk} {p q : Nat} {r : List Int} (h : BOk n b) (hp : p < n) (hq : q < n) (hpq : p ≠ q) (hw : b.wy p q = -1 :: r) : 0 ≤ b.no p ∧ b.he q p = false ∧ r.count (-1) = 0 := by
  have hm := h.mrk p q hp hq hpq
  rw [hw, List.count_cons_self] at hm
  split at hm
  · rename_i e; exact ⟨e.1, e.2, by omega⟩
  · omega
theorem ok_pop {n : Nat} {b : Bk} {p q : Nat} {r : List Int} (h : BOk n b) (hp : p < n) (hq : q < n) (hpq : p ≠ q) (hw : b.wy p q = -1 :: r) (hq0 : 0 ≤ b.no q) : BOk n (hearB (popB b p q r) p q) := by
  obtain ⟨m1, m2, m3⟩ := mark_head h hp hq hpq hw
  refine ⟨h.mo0, fun a c ha hc x hx => ?_, fun a ha => ?_, h.no0, fun a c ha hc hac => ?_, fun a c ha hc he => ?_, h.beg, h.ca0, h.cad, fun a c ha hc => ?_⟩
  · rw [hp_wy] at hx
    split at hx
    · rename_i e; obtain ⟨rfl, rfl⟩ := e
      exact h.wy0 a c ha hc x (by rw [hw]; exact List.mem_cons_of_mem _ hx)
    · exact h.wy0 a c ha hc x hx
  · rw [hp_wy, if_neg (fun e => hpq (e.1.symm.trans e.2))]; exact h.wyd a ha
  · rw [hp_wy]
    have hh := hp_he b p q r a c
    by_cases e : a = p ∧ c = q
    · rw [if_pos e, m3]
      exact (if_neg (fun x => by rw [hh, if_pos ⟨e.2, e.1⟩] at x; cases x.2)).symm
    · rw [if_neg (fun x => e ⟨x.2, x.1⟩)] at hh
      rw [if_neg e, hh]
      exact h.mrk a c ha hc hac
  · rw [hp_he] at he
    by_cases e : c = q ∧ a = p
    · obtain ⟨rfl, rfl⟩ := e
      exact ⟨m1, hq0, hpq⟩
    · rw [if_neg e] at he
      exact h.hea a c ha hc he
  · rw [hp_wy]
    split
    · rename_i e; obtain ⟨rfl, rfl⟩ := e
      have := h.len a c ha hc
      rw [hw, List.length_cons, List.count_cons_self] at this
      omega
    · exact h.len a c ha hc
theorem ok_mark {n : Nat} {b : Bk} {p q : Nat} {r : List Int} (h : BOk n b) (hp : p < n) (hq : q < n) (hpq : p ≠ q) (hw : b.wy p q = -1 :: r) : BOk n (markB n b p q r) := by
  unfold markB
  split
  · rename_i e
    rw [note_pop hpq]
    exact ok_pop (ok_note h hq e) hp hq hpq (by rw [noteB_wy, if_neg (fun x => hpq x.1)]; exact hw) (by rw [noteB_no, if_pos rfl]; exact h.mo0 q hq)
  · rename_i e
    exact ok_pop h hp hq hpq hw (by rcases h.no0 q hq with x | x; exact absurd x e; exact x)

/-! ### what is noted adds up -/
/-- what a process noted, or has still -/
def rcd (b : Bk) (p : Nat) : Int := if 0 ≤ b.no p then b.no p else b.mo p
/-- what of a way belongs to what is noted: what was noted of it, and what waits ahead of its mark -/
def chn (b : Bk) (p q : Nat) : Int := b.ca q p + if b.he q p = true then 0 else ahd (b.wy p q)
def snp (n : Nat) (b : Bk) : Int := sumN (rcd b) n + sum2 (chn b) n
theorem snp_note {n : Nat} {b : Bk} {p : Nat} (h : BOk n b) (hp : p < n) (hno : b.no p = -1) : snp n (noteB n b p) = snp n b := by
  unfold snp
  congr 1
  · refine sumN_congr fun a ha => ?_
    unfold rcd
    rw [noteB_no]
    by_cases e : a = p
    · subst e; rw [if_pos rfl, if_pos (h.mo0 a ha), if_neg (by omega)]
    · rw [if_neg e]; rfl
  · refine sum2_congr fun a c ha hc => ?_
    have ew : ahd ((noteB n b p).wy a c) = ahd (b.wy a c) := by
      rw [noteB_wy]
      split
      · rename_i e
        obtain ⟨rfl, e2, _⟩ := e
        rw [ahd_app (h.nomark ha hc (fun x => e2 x.symm) (by omega))]
        simp [ahd]
      · rfl
    unfold chn
    rw [ew]
    rfl
theorem snp_pay {n : Nat} {b : Bk} {p q : Nat} {s : Int} (h : BOk n b) (hp : p < n) (hq : q < n) (hpq : p ≠ q) (hs : 0 ≤ s) : snp n (payB b p q s) = snp n b := by
  unfold snp
  by_cases hn : 0 ≤ b.no p
  · congr 1
    · refine sumN_congr fun a ha => ?_
      unfold rcd
      show (if 0 ≤ b.no a then b.no a else upd1 b.mo p (b.mo p - s) a) = _
      by_cases e : a = p
      · subst e; rw [if_pos hn, if_pos hn]
      · rw [upd1_other _ _ e]
    · refine sum2_congr fun a c ha hc => ?_
      unfold chn
      show b.ca c a + (if b.he c a = true then 0 else ahd ((payB b p q s).wy a c)) = _
      by_cases hh : b.he c a = true
      · rw [if_pos hh, if_pos hh]
      · rw [if_neg hh, if_neg hh]
        have ew : ahd ((payB b p q s).wy a c) = ahd (b.wy a c) := by
          rw [payB_wy]
          split
          · rename_i e
            obtain ⟨rfl, rfl⟩ := e
            rw [ahd_mark (h.mark ha hc hpq ⟨hn, by simpa using hh⟩)]
          · rfl
        rw [ew]
  · have h1 : sumN (rcd (payB b p q s)) n = sumN (rcd b) n + (-s) := sumN_one hp (fun a _ e => by
      unfold rcd
      show (if 0 ≤ b.no a then b.no a else upd1 b.mo p (b.mo p - s) a) = _
      rw [upd1_other _ _ e]) (by
      unfold rcd
      show (if 0 ≤ b.no p then b.no p else upd1 b.mo p (b.mo p - s) p) = _
      rw [if_neg hn, if_neg hn, upd1_same]; omega)
    have h2 : sum2 (chn (payB b p q s)) n = sum2 (chn b) n + s := sum2_one hp hq (fun a c _ _ e => by
      have ew : (payB b p q s).wy a c = b.wy a c := by rw [payB_wy, if_neg e]
      unfold chn
      rw [ew]; rfl) (by
      have ew : (payB b p q s).wy p q = b.wy p q ++ [s] := by rw [payB_wy, if_pos ⟨rfl, rfl⟩]
      unfold chn
      rw [ew]
      have hh : b.he q p = false := by
        cases e : b.he q p with
        | false => rfl
        | true => exact absurd (h.hea p q hp hq e).1 hn
      show b.ca q p + (if b.he q p = true then 0 else _) = _
      rw [hh, if_neg (by simp), if_neg (by simp), ahd_app (h.nomark hp hq hpq (fun x => hn x.1))]
      simp only [ahd]
      rw [if_neg (by omega)]; omega)
    rw [h1, h2]; omega
theorem snp_sum {n : Nat} {b : Bk} {p q : Nat} {x : Int} {r : List Int} (h : BOk n b) (hp : p < n) (hq : q < n) (hw : b.wy p q = x :: r) (hx : x ≠ -1) : snp n (sumB b p q x r) = snp n b := by
  unfold snp
  have hah : ahd (b.wy p q) = x + ahd r := by rw [hw]; simp only [ahd]; rw [if_neg hx]
  have hoth : ∀ a c, ¬ (a = p ∧ c = q) → chn (sumB b p q x r) a c = chn b a c := fun a c e => by
    have ew : (sumB b p q x r).wy a c = b.wy a c := by rw [sumB_wy, if_neg e]
    unfold chn
    rw [ew]
    show (if 0 ≤ b.no q ∧ b.he q p = false then upd2 b.ca q p (b.ca q p + x) else b.ca) c a + _ = _
    split
    · rw [upd2_other _ _ (fun y => e ⟨y.2, y.1⟩)]; rfl
    · rfl
  have hat : chn (sumB b p q x r) p q = (if 0 ≤ b.no q ∧ b.he q p = false then b.ca q p + x else b.ca q p) + if b.he q p = true then 0 else ahd r := by
    have ew : (sumB b p q x r).wy p q = r := by rw [sumB_wy, if_pos ⟨rfl, rfl⟩]
    unfold chn
    rw [ew]
    show (if 0 ≤ b.no q ∧ b.he q p = false then upd2 b.ca q p (b.ca q p + x) else b.ca) q p + _ = _
    split
    · rw [upd2_same]; rfl
    · rfl
  have hb : chn b p q = b.ca q p + if b.he q p = true then 0 else x + ahd r := by unfold chn; rw [hah]
  by_cases hn : 0 ≤ b.no q
  · congr 1
    · refine sumN_congr fun a ha => ?_
      unfold rcd
      show (if 0 ≤ b.no a then b.no a else upd1 b.mo q (b.mo q + x) a) = _
      by_cases e : a = q
      · subst e; rw [if_pos hn, if_pos hn]
      · rw [upd1_other _ _ e]
    · refine sum2_congr fun a c _ _ => ?_
      by_cases e : a = p ∧ c = q
      · obtain ⟨rfl, rfl⟩ := e
        rw [hat, hb]
        cases hh : b.he c a with
        | true => rw [if_neg (fun y => by cases y.2), if_pos rfl, if_pos rfl]
        | false => rw [if_pos ⟨hn, rfl⟩, if_neg (by simp), if_neg (by simp)]; omega
      · exact hoth a c e
  · have hh : b.he q p = false := by
      cases e : b.he q p with
      | false => rfl
      | true => exact absurd (h.hea p q hp hq e).2.1 hn
    have h1 : sumN (rcd (sumB b p q x r)) n = sumN (rcd b) n + x := sumN_one hq (fun a _ e => by
      unfold rcd
      show (if 0 ≤ b.no a then b.no a else upd1 b.mo q (b.mo q + x) a) = _
      rw [upd1_other _ _ e]) (by
      unfold rcd
      show (if 0 ≤ b.no q then b.no q else upd1 b.mo q (b.mo q + x) q) = _
      rw [if_neg hn, if_neg hn, upd1_same])
    have h2 : sum2 (chn (sumB b p q x r)) n = sum2 (chn b) n + (-x) := sum2_one hp hq (fun a c _ _ e => hoth a c e) (by
      rw [hat, hb, hh, if_neg (fun y => hn y.1), if_neg (by simp), if_neg (by simp)]; omega)
    rw [h1, h2]; omega
theorem snp_pop {n : Nat} {b : Bk} {p q : Nat} {r : List Int} (hw : b.wy p q = -1 :: r) : snp n (hearB (popB b p q r) p q) = snp n b := by
  unfold snp
  congr 1
  refine sum2_congr fun a c _ _ => ?_
  have e1 := hp_wy b p q r a c
  have e2 := hp_he b p q r a c
  by_cases e : a = p ∧ c = q
  · obtain ⟨rfl, rfl⟩ := e
    rw [if_pos ⟨rfl, rfl⟩] at e1 e2
    unfold chn
    rw [e1, e2, hw]
    show b.ca c a + _ = _
    simp [ahd]
  · rw [if_neg e] at e1
    rw [if_neg (fun x => e ⟨x.2, x.1⟩)] at e2
    unfold chn
    rw [e1, e2]
    rfl
theorem snp_mark {n : Nat} {b : Bk} {p q : Nat} {r : List Int} (h : BOk n b) (hq : q < n) (hpq : p ≠ q) (hw : b.wy p q = -1 :: r) : snp n (markB n b p q r) = snp n b := by
  unfold markB
  split
  · rename_i e
    rw [note_pop hpq, snp_pop (by rw [noteB_wy, if_neg (fun x => hpq x.1)]; exact hw), snp_note h hq e]
  · exact snp_pop hw
end Go.Proofs.YtplplgpfglaajaaDoor.M
