/- What deeds leave at a store of views, well or not; the mathematics of the laws ViewFirst and ViewRow. No walk. -/
import Derived.Test.YtajiichehffaaaaDoorVm3
namespace Go.Proofs.YtajiichehffaaaaDoor
open Go.RowKit
theorem vwz_cases (s : M.Vw) (k t o x : Int) :
    ((vwZ s k t o x).2.2 ≠ 0 ∧ ((vwZ s k t o x).1 = s ∨ ∃ u : Nat, u < 5 ∧ s.dg u = 1 ∧ (vwZ s k t o x).1 = M.vStop s u)) ∨
    ∃ u : Nat, t = (u : Int) ∧ u < 5 ∧
      ((k = 4 ∧ s.dg u = 0 ∧ vwZ s k t o x = (M.vBeg s u, -1, 0)) ∨
       (k = 5 ∧ s.dg u = 1 ∧ M.clashB s u = false ∧ vwZ s k t o x = (M.vCom s u, -1, 0)) ∨
       (k = 3 ∧ s.dg u = 1 ∧ ∃ i : Nat, o = (i : Int) ∧ i < 4 ∧
         ((x = 1 ∧ vwZ s k t o x = (M.vWr s u i, -1, 0)) ∨
          (x = 0 ∧ (s.wr u).testBit i = true ∧ vwZ s k t o x = (s, ((u : Nat) : Int), 0)) ∨
          (x = 0 ∧ (s.wr u).testBit i = false ∧ vwZ s k t o x = (M.vRd s u i, M.lastW s i (s.se u), 0))))) := by
  cases e : vdIn k t o x with
  | false => rw [vwZ_bad e]; exact .inl ⟨by simp, .inl rfl⟩
  | true =>
    have e1 : vwZ s k t o x = M.vwDo s k.toNat t.toNat o.toNat x.toNat := if_pos e
    obtain ⟨⟨k3, k5⟩, ⟨t0, t5⟩, ho⟩ := vdIn_true e
    obtain ⟨k, rfl⟩ : ∃ n : Nat, k = n := ⟨k.toNat, by omega⟩
    obtain ⟨t, rfl⟩ : ∃ n : Nat, t = n := ⟨t.toNat, by omega⟩
    rw [Int.toNat_natCast, Int.toNat_natCast] at e1
    have ht : t < 5 := by omega
    by_cases hs : s.dg t ≠ (if k = 4 then 0 else 1)
    · rw [e1, vw_state hs]; exact .inl ⟨by simp, .inl rfl⟩
    · have hs' := Classical.not_not.1 hs
      have hk : k = 3 ∨ k = 4 ∨ k = 5 := by omega
      rcases hk with rfl | rfl | rfl
      · obtain ⟨⟨o0, o4⟩, x0, x2⟩ := ho rfl
        obtain ⟨o, rfl⟩ : ∃ n : Nat, o = n := ⟨o.toNat, by omega⟩
        rw [Int.toNat_natCast] at e1
        rw [if_neg (by decide)] at hs'
        have hx : x = 0 ∨ x = 1 := by omega
        rcases hx with rfl | rfl
        · cases hb : (s.wr t).testBit o with
          | true => rw [e1, show (0 : Int).toNat = 0 from rfl, vw_own hs' hb]; exact .inr ⟨t, rfl, ht, .inr (.inr ⟨rfl, hs', o, rfl, by omega, .inr (.inl ⟨rfl, hb, rfl⟩)⟩)⟩
          | false => rw [e1, show (0 : Int).toNat = 0 from rfl, vw_rd hs' hb]; exact .inr ⟨t, rfl, ht, .inr (.inr ⟨rfl, hs', o, rfl, by omega, .inr (.inr ⟨rfl, hb, rfl⟩)⟩)⟩
        · rw [e1, show (1 : Int).toNat = 1 from rfl, vw_wr hs']; exact .inr ⟨t, rfl, ht, .inr (.inr ⟨rfl, hs', o, rfl, by omega, .inl ⟨rfl, rfl⟩⟩)⟩
      · rw [if_pos rfl] at hs'
        rw [e1, vw_beg hs']; exact .inr ⟨t, rfl, ht, .inl ⟨rfl, hs', rfl⟩⟩
      · rw [if_neg (by decide)] at hs'
        rw [e1, vw_com hs']
        unfold M.cmDo
        cases hc : M.clashB s t with
        | true => rw [if_pos rfl]; exact .inl ⟨by simp, .inr ⟨t, ht, hs', rfl⟩⟩
        | false => rw [if_neg (by simp)]; exact .inr ⟨t, rfl, ht, .inr (.inl ⟨rfl, hs', hc, rfl⟩)⟩
namespace M
/-- a row of five numbers -/
def r5 (f : Nat → Nat) : List Nat := (List.range 5).map f
theorem r5_len (f : Nat → Nat) : (r5 f).length = 5 := by simp [r5]
theorem r5_row (f : Nat → Nat) {t : Nat} (h : t < 5) : row (r5 f) t = f t := by unfold r5; rw [map5_row, if_pos h]
theorem r5_set (f : Nat → Nat) {t v : Nat} (h : t < 5) : (r5 f).set t v = r5 (up1 f t v) := by
  have : t = 0 ∨ t = 1 ∨ t = 2 ∨ t = 3 ∨ t = 4 := by omega
  rcases this with rfl | rfl | rfl | rfl | rfl <;> rfl
/-- when each began and ended, beside what always holds -/
structure FQ (s : Vw) (bg en : Nat → Nat) (i : Nat) : Prop where
  vi : VI s
  ord : ∀ a b, a ∈ s.ro → s.dg b ≠ 0 → s.ro.idxOf a < s.se b → en a < bg b
  lt : ∀ a, a ∈ s.ro → en a < i
theorem FQ.zero : FQ vw0 (fun _ => 0) (fun _ => 0) 0 := ⟨VI.zero, fun _ _ h => absurd h (List.not_mem_nil), fun _ h => absurd h (List.not_mem_nil)⟩
theorem FQ.up {s : Vw} {bg en : Nat → Nat} {i j : Nat} (h : FQ s bg en i) (hj : i ≤ j) : FQ s bg en j := ⟨h.vi, h.ord, fun a ha => Nat.lt_of_lt_of_le (h.lt a ha) hj⟩
theorem FQ.stop {s : Vw} {bg en : Nat → Nat} {i t : Nat} (h : FQ s bg en i) (ht : t < 5) (h1 : s.dg t = 1) : FQ (vStop s t) bg en i := ⟨h.vi.stop ht h1, fun a b ha hb hlt => h.ord a b ha (fun e => hb (by
  have hb' : up1 s.dg t 3 b ≠ 0 := hb
  have : b ≠ t := fun e2 => by subst e2; omega
  show up1 s.dg t 3 b = 0
  rw [up1_other _ _ this]; exact e)) hlt, h.lt⟩
theorem FQ.beg {s : Vw} {bg en : Nat → Nat} {i t : Nat} (h : FQ s bg en i) (ht : t < 5) (h0 : s.dg t = 0) : FQ (vBeg s t) (up1 bg t i) en (i + 1) :=
  ⟨h.vi.beg ht h0, fun a b ha hb hlt => by
    have ha' : a ∈ s.ro := ha
    by_cases e : b = t
    · subst e; rw [up1_same]; exact h.lt a ha'
    · rw [up1_other _ _ e]
      have hb' : up1 s.dg t 1 b ≠ 0 := hb
      rw [up1_other _ _ e] at hb'
      have hlt' : s.ro.idxOf a < up1 s.se t s.ro.length b := hlt
      rw [up1_other _ _ e] at hlt'
      exact h.ord a b ha' hb' hlt', fun a ha => by have := h.lt a ha; omega⟩
theorem FQ.com {s : Vw} {bg en : Nat → Nat} {i t : Nat} (h : FQ s bg en i) (ht : t < 5) (h1 : s.dg t = 1) (hc : clashB s t = false) : FQ (vCom s t) bg (up1 en t i) (i + 1) := by
  have nt : t ∉ s.ro := fun e => by have := (h.vi.ro t).1 e; omega
  have idt : (s.ro ++ [t]).idxOf t = s.ro.length := by rw [idx_not nt]; simp
  refine ⟨h.vi.com ht h1 hc, fun a b ha hb hlt => ?_, fun a ha => ?_⟩
  · have hlt' : (s.ro ++ [t]).idxOf a < s.se b := hlt
    have hb0 : s.dg b ≠ 0 := fun e => hb (by
      show up1 s.dg t 2 b = 0
      have : b ≠ t := fun e2 => by subst e2; omega
      rw [up1_other _ _ this]; exact e)
    rcases List.mem_append.1 (show a ∈ s.ro ++ [t] from ha) with e | e
    · rw [idx_app e] at hlt'
      rw [up1_other _ _ (fun e2 => by subst e2; exact nt e)]
      exact h.ord a b e hb0 hlt'
    · rw [List.mem_singleton] at e; subst e
      rw [idt] at hlt'
      have := h.vi.se b; omega
  · rcases List.mem_append.1 (show a ∈ s.ro ++ [t] from ha) with e | e
    · rw [up1_other _ _ (fun e2 => by subst e2; exact nt e)]
      have := h.lt a e; omega
    · rw [List.mem_singleton] at e; subst e
      rw [up1_same]; omega
theorem FQ.wrt {s : Vw} {bg en : Nat → Nat} {i t o : Nat} (h : FQ s bg en i) (ho : o < 4) (h1 : s.dg t = 1) : FQ (vWr s t o) bg en i := ⟨h.vi.wrt ho h1, h.ord, h.lt⟩
theorem FQ.red {s : Vw} {bg en : Nat → Nat} {i t o : Nat} (h : FQ s bg en i) (ho : o < 4) (h1 : s.dg t = 1) : FQ (vRd s t o) bg en i := ⟨h.vi.red ho h1, h.ord, h.lt⟩
/-- of two that committed one ended ahead of the other's beginning, if they wrote one item -/
theorem FQ.fin {s : Vw} {bg en : Nat → Nat} {i a b : Nat} (h : FQ s bg en i) (ha : a ∈ s.ro) (hb : b ∈ s.ro) (hne : a ≠ b) (hw : (s.wr a &&& s.wr b) ≠ 0) : en a < bg b ∨ en b < bg a := by
  have d : ∀ c, c ∈ s.ro → s.dg c ≠ 0 := fun c hc => by rw [(h.vi.ro c).1 hc]; decide
  have hi : s.ro.idxOf a ≠ s.ro.idxOf b := fun e => hne (idx_inj ha hb e)
  rcases Nat.lt_or_ge (s.ro.idxOf a) (s.ro.idxOf b) with c | c
  · exact .inl (h.ord a b ha (d b hb) (h.vi.fst a b ha hb c hw))
  · exact .inr (h.ord b a hb (d a ha) (h.vi.fst b a hb ha (by omega) (by rw [Nat.and_comm]; exact hw)))
/-! ### what was read stays so -/
theorem lastW_same {s s' : Vw} {o : Nat} (hr : ∀ k, k < s.ro.length → row s'.ro k = row s.ro k) (hw : ∀ a, a ∈ s.ro → s'.wr a = s.wr a) : ∀ {n : Nat}, n ≤ s.ro.length → lastW s' o n = lastW s o n
  | 0, _ => rfl
  | n + 1, hn => by
    unfold lastW
    rw [hr n (by omega), hw _ (row_memV (by omega)), lastW_same hr hw (by omega)]
/-- what was read: by whom, of what, of whose writing -/
structure RQ (s : Vw) (L : List (Nat × Nat × Int)) : Prop where
  vi : VI s
  rd : ∀ r, r ∈ L → r.1 < 5 ∧ r.2.1 < 4 ∧ (s.rd r.1).testBit r.2.1 = true ∧ r.2.2 = lastW s r.2.1 (s.se r.1)
theorem RQ.zero : RQ vw0 [] := ⟨VI.zero, fun _ h => absurd h (List.not_mem_nil)⟩
theorem RQ.keep {s s' : Vw} {L : List (Nat × Nat × Int)} (h : RQ s L) (hv : VI s') (h1 : ∀ t o, (s.rd t).testBit o = true → (s'.rd t).testBit o = true ∧ s'.se t = s.se t) (hr : ∀ k, k < s.ro.length → row s'.ro k = row s.ro k) (hw : ∀ a, a ∈ s.ro → s'.wr a = s.wr a) : RQ s' L :=
  ⟨hv, fun r hm => by
    obtain ⟨a, b, c, d⟩ := h.rd r hm
    obtain ⟨e, f⟩ := h1 _ _ c
    exact ⟨a, b, e, by rw [f, lastW_same hr hw (h.vi.se _)]; exact d⟩⟩
theorem RQ.stop {s : Vw} {L : List (Nat × Nat × Int)} {t : Nat} (h : RQ s L) (ht : t < 5) (h1 : s.dg t = 1) : RQ (vStop s t) L := h.keep (h.vi.stop ht h1) (fun _ _ e => ⟨e, rfl⟩) (fun _ _ => rfl) (fun _ _ => rfl)
theorem RQ.beg {s : Vw} {L : List (Nat × Nat × Int)} {t : Nat} (h : RQ s L) (ht : t < 5) (h0 : s.dg t = 0) : RQ (vBeg s t) L := h.keep (h.vi.beg ht h0) (fun a o e => ⟨e, by
  show up1 s.se t s.ro.length a = s.se a
  refine up1_other _ _ (fun e2 => ?_)
  subst e2
  rw [(h.vi.zs a h0).2.1, Nat.zero_testBit] at e
  cases e⟩) (fun _ _ => rfl) (fun _ _ => rfl)
theorem RQ.com {s : Vw} {L : List (Nat × Nat × Int)} {t : Nat} (h : RQ s L) (ht : t < 5) (h1 : s.dg t = 1) (hc : clashB s t = false) : RQ (vCom s t) L := h.keep (h.vi.com ht h1 hc) (fun _ _ e => ⟨e, rfl⟩) (fun k hk => by
  show row (s.ro ++ [t]) k = row s.ro k
  unfold row; rw [List.getElem?_append_left hk]) (fun _ _ => rfl)
theorem RQ.wrt {s : Vw} {L : List (Nat × Nat × Int)} {t o : Nat} (h : RQ s L) (ho : o < 4) (h1 : s.dg t = 1) : RQ (vWr s t o) L := h.keep (h.vi.wrt ho h1) (fun _ _ e => ⟨e, rfl⟩) (fun _ _ => rfl) (fun a ha => up1_other _ _ (fun e => by subst e; have := (h.vi.ro a).1 ha; omega))
theorem RQ.red {s : Vw} {L : List (Nat × Nat × Int)} {t o : Nat} (h : RQ s L) (ht : t < 5) (ho : o < 4) (h1 : s.dg t = 1) : RQ (vRd s t o) (L ++ [(t, o, lastW s o (s.se t))]) := by
  have hk : RQ (vRd s t o) L := h.keep (h.vi.red ho h1) (fun a i e => ⟨by
    show (up1 s.rd t (s.rd t ||| 1 <<< o) a).testBit i = true
    by_cases c : a = t
    · subst c; rw [up1_same, Nat.testBit_or, e]; rfl
    · rw [up1_other _ _ c]; exact e, rfl⟩) (fun _ _ => rfl) (fun _ _ => rfl)
  refine ⟨hk.vi, fun r hm => ?_⟩
  rcases List.mem_append.1 hm with e | e
  · exact hk.rd r e
  · rw [List.mem_singleton] at e; subst e
    refine ⟨ht, ho, ?_, ?_⟩
    · show (up1 s.rd t (s.rd t ||| 1 <<< o) t).testBit o = true
      rw [up1_same, Nat.testBit_or, oneBit]; simp
    · exact (lastW_same (s := s) (s' := vRd s t o) (fun _ _ => rfl) (fun _ _ => rfl) (h.vi.se t)).symm
end M
end Go.Proofs.YtajiichehffaaaaDoor
