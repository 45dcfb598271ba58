/- Lists of the document's own tables (package whensteadref2): one with a number set anew (with), in memory of the call's own; what lay in memory lies as it lay. -/
import Derived.Test.YtelonimdpeenaaaDoorFrm
import Derived.Test.YtelonimdpeenaaaDoorSnp
import Derived.Test.YtelonimdpeenaaaDoorTbp
import Derived.Test.YtelonimdpeenaaaDoorRefTrc
import Derived.Test.YtelonimdpeenaaaDoorAppAny
namespace Go.Proofs.YtelonimdpeenaaaDoor
open Go.RowKit

theorem infoZT : (Tryd.prog.info? 3).map (fun i => (i.zero, i.size, i.bytes)) = some (some (.int .i64 0), 1, 8) := by kernel_rfl
/-- The slice's address p leads to n cells that hold f, in a block of G. -/
def FI (G : Nat → Prop) (n : Nat) (f : Nat → Value) (p : Option Addr) (w : World) : Prop := ∀ j, j < n → ∃ b off, p = some ⟨b, off, none⟩ ∧ b < w.heap.size ∧ G b ∧ w.cell? ⟨b, off + j, none⟩ = some (f j)
theorem FI.later {G : Nat → Prop} {n : Nat} {f : Nat → Value} {p : Option Addr} {w w' : World} (h : FI G n f p w) (hb : Below w.heap.size w w') : FI G n f p w' := fun j hj => by
  obtain ⟨b, off, h1, h2, h3, h4⟩ := h j hj
  exact ⟨b, off, h1, by have := hb.size; omega, h3, (hb.cell (p := ⟨b, off + j, none⟩) h2).trans h4⟩
theorem FI.mono {G G' : Nat → Prop} {n : Nat} {f : Nat → Value} {p : Option Addr} {w : World} (h : FI G n f p w) (e : ∀ k, k < w.heap.size → G k → G' k) : FI G' n f p w := fun j hj => by
  obtain ⟨b, off, h1, h2, h3, h4⟩ := h j hj
  exact ⟨b, off, h1, h2, e b h2 h3, h4⟩
theorem FI.frm {G O : Nat → Prop} {n : Nat} {f : Nat → Value} {p : Option Addr} {w w' : World} (h : FI G n f p w) (hf : Frm O w w') (e : ∀ k, G k → ¬ O k) : FI G n f p w' := fun j hj => by
  obtain ⟨b, off, h1, h2, h3, h4⟩ := h j hj
  exact ⟨b, off, h1, by have := hf.size; omega, h3, (hf.cell (p := ⟨b, off + j, none⟩) h2 (e b h3)).trans h4⟩
theorem FI.congr {G : Nat → Prop} {n : Nat} {f g : Nat → Value} {p : Option Addr} {w : World} (h : FI G n f p w) (e : ∀ j, j < n → f j = g j) : FI G n g p w := fun j hj => by
  obtain ⟨b, off, h1, h2, h3, h4⟩ := h j hj
  exact ⟨b, off, h1, h2, h3, by rw [h4, e j hj]⟩
/-- at one address -/
theorem FI.at_ {G : Nat → Prop} {n : Nat} {f : Nat → Value} {p : Option Addr} {w : World} (h : FI G n f p w) (hn : 0 < n) : ∃ b off, p = some ⟨b, off, none⟩ ∧ b < w.heap.size ∧ G b ∧ ∀ j, j < n → w.cell? ⟨b, off + j, none⟩ = some (f j) := by
  obtain ⟨b, off, h1, h2, h3, _⟩ := h 0 hn
  refine ⟨b, off, h1, h2, h3, fun j hj => ?_⟩
  obtain ⟨b', off', e1, _, _, e4⟩ := h j hj
  rw [h1] at e1
  cases e1
  exact e4
theorem FI.hasI {G : Nat → Prop} {n : Nat} {f : Nat → Value} {p : Option Addr} {w : World} {l : List Int} (h : FI G n f p w) (hl : l.length = n) (e : ∀ j, j < n → f j = .int .i64 (l[j]?.getD 0)) : HasI l p w := fun j hj => by
  obtain ⟨b, off, h1, h2, _, h4⟩ := h j (by omega)
  exact ⟨b, off, h1, h2, by rw [h4, e j (by omega)]⟩
/-- cells as a list -/
def fcl (f : Nat → Value) (n : Nat) : List Value := (List.range n).map f
theorem fcl_length (f : Nat → Value) (n : Nat) : (fcl f n).length = n := by simp [fcl]
theorem fcl_at (f : Nat → Value) {n j : Nat} (h : j < n) : (fcl f n)[j]? = some (f j) := by simp [fcl, h]
theorem fcl_inv {f : Nat → Value} {n j : Nat} {u : Value} (h : (fcl f n)[j]? = some u) : j < n ∧ u = f j := by
  have hj : j < n := by have := (List.getElem?_eq_some_iff.1 h).1; rwa [fcl_length] at this
  rw [fcl_at f hj] at h
  exact ⟨hj, (Option.some.inj h).symm⟩
theorem fcl_set (f : Nat → Value) (n i : Nat) (u : Value) : (fcl f n).set i u = fcl (M.upd1 f i u) n := by
  apply List.ext_getElem?
  intro j
  rw [List.getElem?_set]
  by_cases hj : j < n
  · rw [fcl_at _ hj, fcl_at _ hj, fcl_length]
    by_cases e : i = j
    · subst e; rw [if_pos rfl, if_pos hj, M.upd1_same]
    · rw [if_neg e, M.upd1_other _ _ (Ne.symm e)]
  · rw [List.getElem?_eq_none (l := fcl (M.upd1 f i u) n) (by rw [fcl_length]; omega), List.getElem?_eq_none (l := fcl f n) (by rw [fcl_length]; omega), fcl_length]
    split
    · rw [if_neg (by omega)]
    · rfl
theorem fcl_one {f : Nat → Value} {n : Nat} (h : ∀ j, j < n → (f j).oneCell' = true) : ∀ u ∈ fcl f n, u.oneCell' = true := fun u hu => by
  obtain ⟨j, hj, rfl⟩ := List.mem_map.1 hu
  exact h j (List.mem_range.1 hj)
theorem owns_FI {w : World} {base n c : Nat} {t : TypeId} {p : Option Addr} {f : Nat → Value} (h : w.ownsRow base t 1 (.slice p n c) n (fcl f n)) : FI (fun k => base ≤ k) n f p w := by
  rcases h.2 with ⟨e, rfl⟩ | ⟨g, cap, cur, e, hb, hg, h1, h2, h3, h4⟩
  · exact fun j hj => by omega
  · cases e
    refine fun j hj => ⟨g, 0, rfl, (Array.getElem?_eq_some_iff.1 hg).1, hb, ?_⟩
    rw [Nat.zero_add, h.cellAt j (by omega), fcl_at f hj]
theorem owns_cap {w : World} {base n c : Nat} {t : TypeId} {p : Option Addr} {xs : List Value} (h : w.ownsRow base t 1 (.slice p n c) n xs) : n ≤ c ∧ c ≤ maxLen := by
  rcases h.2 with ⟨e, rfl⟩ | ⟨g, cap, cur, e, hb, hg, h1, h2, h3, h4⟩
  · cases e; exact ⟨Nat.le_refl _, Nat.zero_le _⟩
  · cases e; exact ⟨h1, h2⟩
set_option maxHeartbeats 1000000 in
theorem with_ok {G : Nat → Prop} (f : Nat → Int) (n i : Nat) (z : Int) (p : Option Addr) (c : Nat) (w : World) (hn : n ≤ 200) (hi : i < n) (hf : FI G n (fun j => .int .i64 (f j)) p w) :
    Calls Tryd.prog 15 #[.slice p n c, .int .i64 i, .int .i64 z] w fun e w' => ∃ p' c', e = .returned (.slice p' n c') ∧ n ≤ c' ∧ c' ≤ maxLen ∧ FI (fun k => w.heap.size ≤ k) n (fun j => .int .i64 (M.upd1 f i z j)) p' w' ∧ Below w.heap.size w w' := by
  obtain ⟨i0, hi0, hz0, hz1, hz2⟩ := info_parts infoZT
  obtain ⟨b, off, rfl, hb, _, hc⟩ := hf.at_ (by omega)
  have HC : Hid (∀ j, j < n → w.cell? ⟨b, off + j, none⟩ = some (.int .i64 (f j))) := hc
  have hii : (i : Int) < n := by omega
  clear hf hc
  go_enter Tryd.func15, Tryd.ntmps15
  go_wp2_with (at_builtin; refine wpList_append_lies _ rfl _ _ 29 rfl w.heap.size 3 i0 (.int .i64 0) 1 8 Tryd.underlying29 hi0 hz0 hz1 hz2 rfl (by decide) (.slice none 0 0) 0 [] rfl (World.ownsRow_nil _ _ _ _) ⟨b, off, none⟩ n c (fcl (fun j => .int .i64 (f j)) n) rfl (by rw [fcl_length, Nat.mul_one]) (fun j u hu => by obtain ⟨h1, rfl⟩ := fcl_inv hu; rw [addr_add]; exact HC.out j h1) (fcl_one (fun _ _ => rfl)) (by omega) (by unfold maxLen; omega) (by omega) (Nat.le_refl _) w.heap.size rfl ?_)
  intro g cap w1 own gr at1 lt1
  have hg : g = w.heap.size := by
    rcases at1 with e | e
    · cases e
    · exact e
  have hcg := own.cellAt i (by omega)
  rw [fcl_at _ hi] at hcg
  have hfg := own.frozenAt i
  obtain ⟨st1, st2⟩ := own.stored i (.int .i64 z)
  rw [fcl_set] at st1
  have FIN : Hid (FI (fun k => w.heap.size ≤ k) n (fun j => .int .i64 (M.upd1 f i z j)) (some ⟨g, 0, none⟩) (w1.setCell ⟨g, i, none⟩ (.int .i64 z))) := (owns_FI st1).congr (fun j _ => by
    by_cases e : j = i
    · subst e; rw [M.upd1_same, M.upd1_same]
    · rw [M.upd1_other _ _ e, M.upd1_other _ _ e])
  obtain ⟨k1, k2⟩ := owns_cap own
  have FB : Hid (Below w.heap.size w (w1.setCell ⟨g, i, none⟩ (.int .i64 z))) := ((Below.refl _ w).grown gr (Nat.le_refl _) (fun k e => by cases e)).setCell (p := ⟨g, i, none⟩) (by show w.heap.size ≤ g; omega) _
  clear own gr at1 st1 st2 hg HC
  go_wp2_with fail
  go_ret
  exact ⟨_, cap, rfl, k1, k2, FIN.out, FB.out⟩
/-- natural numbers as cells -/
abbrev nF (f : Nat → Nat) : Nat → Value := fun j => .int .i64 ((f j : Nat) : Int)
set_option maxHeartbeats 1000000 in
theorem withN_ok {G : Nat → Prop} (f : Nat → Nat) (n i z : Nat) (p : Option Addr) (c : Nat) (w : World) (hn : n ≤ 200) (hi : i < n) (hf : FI G n (nF f) p w) :
    Calls Tryd.prog 15 #[.slice p n c, .int .i64 i, .int .i64 (z : Nat)] w fun e w' => ∃ p' c', e = .returned (.slice p' n c') ∧ FI (fun k => w.heap.size ≤ k) n (nF (M.upN f i z)) p' w' ∧ Below w.heap.size w w' := by
  refine (with_ok (fun j => ((f j : Nat) : Int)) n i (z : Int) p c w hn hi hf).mono ?_
  rintro e w' ⟨p', c', rfl, _, _, hF, hB⟩
  refine ⟨p', c', rfl, hF.congr (fun j _ => ?_), hB⟩
  unfold M.upd1 nF M.upN
  by_cases e : j = i
  · rw [if_pos e, if_pos e]
  · rw [if_neg e, if_neg e]
end Go.Proofs.YtelonimdpeenaaaDoor
