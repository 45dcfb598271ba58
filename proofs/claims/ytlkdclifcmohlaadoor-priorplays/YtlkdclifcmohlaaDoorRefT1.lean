/- Lists of the document's own tables (package whensteadref2): one with a number set anew (with), in memory of the call's own; what lay in memory lies as it lay. -/
import Derived.Test.YtlkdclifcmohlaaDoorFrm
import Derived.Test.YtlkdclifcmohlaaDoorSnp
import Derived.Test.YtlkdclifcmohlaaDoorTbp
import Derived.Test.YtlkdclifcmohlaaDoorRefTrc
import Derived.Test.YtlkdclifcmohlaaDoorAppAny
namespace Go.Proofs.YtlkdclifcmohlaaDoor
open Go.RowKit

theorem infoZT : (Tryd.prog.info? 3).map (fun i => (i.zero, i.size, i.bytes)) = some (some (.int .i64 0), 1, 8) := by kernel_rfl
/-- The slice's address p leads to n cells that hold f, in a block of G. -/
def FI (G : Nat → Prop) (n : Nat) (f : Nat → Value) (p : Option Addr) (w : World) : Prop := ∀ j, j < n → ∃ b off, p = some ⟨b, off, none⟩ ∧ b < w.heap.size ∧ G b ∧ w.cell? ⟨b, off + j, none⟩ = some (f j)
theorem FI.later {G : Nat → Prop} {n : Nat} {f : Nat → Value} {p : Option Addr} {w w' : World} (h : FI G n f p w) (hb : Below w.heap.size w w') : FI G n f p w' := fun j hj => by
  obtain ⟨b, off, h1, h2, h3, h4⟩ := h j hj
  exact ⟨b, off, h1, by have := hb.size; omega, h3, (hb.cell (p := ⟨b, off + j, none⟩) h2).trans h4⟩
theorem FI.mono {G G' : Nat → Prop} {n : Nat} {f : Nat → Value} {p : Option Addr} {w : World} (h : FI G n f p w) (e : ∀ k, k < w.heap.size → G k → G' k) : FI G' n f p w := fun j hj => by
  obtain ⟨b, off, h1, h2, h3, h4⟩ := h j hj
  exact ⟨b, off, h1, h2, e b h2 h3, h4⟩
theorem FI.frm {G O : Nat → Prop} {n : Nat} {f : Nat → Value} {p : Option Addr} {w w' : World} (h : FI G n f p w) (hf : Frm O w w') (e : ∀ k, G k → ¬ O k) : FI G n f p w' := fun j hj => by
  obtain ⟨b, off, h1, h2, h3, h4⟩ := h j hj
  exact ⟨b, off, h1, by have := hf.size; omega, h3, (hf.cell (p := ⟨b, off + j, none⟩) h2 (e b h3)).trans h4⟩
theorem FI.congr {G : Nat → Prop} {n : Nat} {f g : Nat → Value} {p : Option Addr} {w : World} (h : FI G n f p w) (e : ∀ j, j < n → f j = g j) : FI G n g p w := fun j hj => by
  obtain ⟨b, off, h1, h2, h3, h4⟩ := h j hj
  exact ⟨b, off, h1, h2, h3, by rw [h4, e j hj]⟩
/-- at one address -/
theorem FI.at_ {G : Nat → Prop} {n : Nat} {f : Nat → Value} {p : Option Addr} {w : World} (h : FI G n f p w) (hn : 0 < n) : ∃ b off, p = some ⟨b, off, none⟩ ∧ b < w.heap.size ∧ G b ∧ ∀ j, j < n → w.cell? ⟨b, off + j, none⟩ = some (f j) := by
  obtain ⟨b, off, h1, h2, h3, _⟩ := h 0 hn
  refine ⟨b, off, h1, h2, h3, fun j hj => ?_⟩
  obtain ⟨b', off', e1, _, _, e4⟩ := h j hj
  rw [h1] at e1
  cases e1
  exact e4
theorem FI.hasI {G : Nat → Prop} {n : Nat} {f : Nat → Value} {p : Option Addr} {w : World} {l : List Int} (h : FI G n f p w) (hl : l.length = n) (e : ∀ j, j < n → f j = .int .i64 (l[j]?.getD 0)) : HasI l p w := fun j hj => by
  obtain ⟨b, off, h1, h2, _, h4⟩ := h j (by omega)
  exact ⟨b, off, h1, h2, by rw [h4, e j (by omega)]⟩
/-- cells as a list -/
def fcl (f : Nat → Value) (n : Nat) : List Value := (List.range n).map f
theorem fcl_length (f : Nat → Value) (n : Nat) : (fcl f n).length = n := by simp [fcl]
theorem fcl_at (f : Nat → Value) {n j : Nat} (h : j < n) : (fcl f n)[j]? = some (f j) := by simp [fcl, h]
theorem fcl_inv {f : Nat → Value} {n j : Nat} {u : Value} (h : (fcl f n)[j]? = some u) : j < n ∧ u = f j := by
  have hj : j < n := by have := (List.getElem?_eq_some_iff.1 h).1; rwa [fcl_length] at this
  rw [fcl_at f hj] at h
  exact ⟨hj, (Option.some.inj h).symm⟩
theorem fcl_set (f : Nat → Value) (n i : Nat) (u : Value) : (fcl f n).set i u = fcl (M.upd1 f i u) n := by
  apply List.ext_getElem?
  intro j
  rw [List.getElem?_set]
  by_cases hj : j < n
  · rw [fcl_at _ hj, fcl_at _ hj, fcl_length]
    by_cases e : i = j
    · subst e; rw [if_pos rfl, if_pos hj, M.upd1_same]
    · rw [if_neg e, M.upd1_other _ _ (Ne.symm e)]
  · rw [List.getElem?_eq_none (l := fcl (M.upd1 f i u) n) (by rw [fcl_length]; omega), List.getElem?_eq_none (l := fcl f n) (by rw [fcl_length]; omega), fcl_length]
    split
    · rw [if_neg (by omega)]
    · rfl
theorem fcl_one {f : Nat → Value} {n : Nat} (h : ∀ j, j < n → (f j).oneCell' = true) : ∀ u ∈ fcl f n, u.oneCell' = true := fun u hu => by
  obtain ⟨j, hj, rfl⟩ := List.mem_map.1 hu
  exact h j (List.mem_range.1 hj)
theorem owns_FI {w : World} {base n c : Nat} {t : TypeId} {p : Option Addr} {f : Nat → Value} (h : w.ownsRow base t 1 (.slice p n c) n (fcl f n)) : FI (fun k => base ≤ k) n f p w := by
  rcases h.2 with ⟨e, rfl⟩ | ⟨g, cap, cur, e, hb, hg, h1, h2, h3, h4⟩
  · exact fun j hj => by omega
  · cases e
    refine fun j hj => ⟨g, 0, rfl, (Array.getElem?_eq_some_iff.1 hg).1, hb, ?_⟩
    rw [Nat.zero_add, h.cellAt j (by omega), fcl_at f hj]
theorem owns_cap {w : World} {base n c : Nat} {t : TypeId} {p : Option Addr} {xs : List Value} (h : w.ownsRow base t 1 (.slice p n c) n xs) : n ≤ c ∧ c ≤ maxLen := by
  rcases h.2 with ⟨e, rfl⟩ | ⟨g, cap, cur, e, hb, hg, h1, h2, h3, h4⟩
  · cases e; exact ⟨Nat.le_refl _, Nat.zero_le _⟩
  · cases e; exact ⟨h1, h2⟩
/-- natural numbers as cells -/
abbrev nF (f : Nat → Nat) : Nat → Value := fun j => .int .i64 ((f j : Nat) : Int)
end Go.Proofs.YtlkdclifcmohlaaDoor
