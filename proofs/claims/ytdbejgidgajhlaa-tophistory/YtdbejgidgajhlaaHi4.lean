/- The search for a row in memory (package hist, search): its own block, the row so far, from where no row goes on; nothing more is found from somewhere (giveUp). -/
import Derived.Test.YtdbejgidgajhlaaHi2
import Derived.Test.YtdbejgidgajhlaaHi3
import Derived.Deep.RegionLaw
import Derived.Deep.AppendLies
import Derived.WalkMore
namespace Go.Proofs.Ytdbejgidgajhlaa
open Go.RowKit

def Blk (W : World) (A : Nat) (cs : Array Value) (t : TypeId) : Prop := W.heap[A]? = some (.cells cs t (0, 0))
theorem Blk.lt {W : World} {A : Nat} {cs : Array Value} {t : TypeId} (h : Blk W A cs t) : A < W.heap.size := (Array.getElem?_eq_some_iff.1 h).1
theorem Blk.new (W : World) (cs : Array Value) (t : TypeId) : Blk (W.alloc (.cells cs t)) W.heap.size cs t := World.alloc_heap_new W _
theorem Blk.alloc {W : World} {A : Nat} {cs : Array Value} {t : TypeId} (h : Blk W A cs t) (o : Obj) : Blk (W.alloc o) A cs t := ((World.grownBy_alloc W o none).block A h.lt (by simp)).trans h
theorem Blk.below {W W' : World} {A N : Nat} {cs : Array Value} {t : TypeId} (h : Blk W A cs t) (hb : Below N W W') (hA : A < N) : Blk W' A cs t := (hb.block A hA).trans h
theorem Blk.other {W : World} {A : Nat} {cs : Array Value} {t : TypeId} (h : Blk W A cs t) {a : Addr} (ha : A ≠ a.block) (v : Value) : Blk (W.setCell a v) A cs t := (Below.heap_setCell W a v A ha).trans h
theorem Blk.cell {W : World} {A : Nat} {cs : Array Value} {t : TypeId} (h : Blk W A cs t) (k : Nat) : W.cell? ⟨A, k, none⟩ = cs[k]? := by
  simp [World.cell?, show W.heap[A]? = _ from h]
theorem Blk.frozen {W : World} {A : Nat} {cs : Array Value} {t : TypeId} (h : Blk W A cs t) (k : Nat) : W.frozen? ⟨A, k, none⟩ = false := by
  simp [World.frozen?, show W.heap[A]? = _ from h]
theorem Blk.own {β : Type} (A : Nat) (f : β → Array Value) (t : TypeId) : Own (fun s W => Blk W A (f s) t) := fun s X Y row hs hg hrow =>
  (hg.block A hs.lt (fun e' => by obtain ⟨o, ho, hc⟩ := hrow A e'.symm; rw [show X.heap[A]? = _ from hs] at ho; cases ho; cases hc)).trans hs
theorem Blk.set {W : World} {A : Nat} {cs : Array Value} {t : TypeId} (h : Blk W A cs t) (i : Nat) (v : Value) : Blk (W.setCell ⟨A, i, none⟩ v) A (cs.setIfInBounds i v) t := by
  obtain ⟨hlt, hk⟩ := Array.getElem?_eq_some_iff.1 h
  show (W.heap.modify A _)[A]? = _
  rw [Array.getElem?_eq_getElem (by rw [Array.size_modify]; exact hlt), Array.getElem_modify_self, hk]
  simp
/-- A search: its block S, the row so far in v, the map of maps in block Mb, ib tells whose sets. -/
structure Sr (O : Nat → Prop) (S : Nat) (hv fv : Value) (t : List Nat) (L : Nat → List (List Nat)) (c : Nat) (v : Value) (Mb : Nat) (ib : Nat → Option Nat) (w : World) : Prop where
  blk : Blk w S #[hv, fv, v, .map (some Mb)] 46
  row : w.ownsRow 0 3 1 v t.length (icells t)
  om : Om ib c Mb w
  kv : ∀ d B, ib d = some B → Kv (L d) c B w
  kn : ∀ d, ib d = none → L d = []
  inj : ∀ d e B, ib d = some B → ib e = some B → d = e
  nM : ∀ d B, ib d = some B → B ≠ Mb
  oS : O S
  oM : O Mb
  oR : ∀ g, v.ownBlock = some g → O g
  oB : ∀ d B, ib d = some B → O B
def SV (O : Nat → Prop) (S : Nat) (hv fv : Value) (t : List Nat) (L : Nat → List (List Nat)) (c : Nat) (w : World) : Prop := ∃ v Mb ib, Sr O S hv fv t L c v Mb ib w
section
variable {O : Nat → Prop} {S c Mb : Nat} {hv fv v : Value} {t : List Nat} {L : Nat → List (List Nat)} {ib : Nat → Option Nat} {w w' : World}
theorem Sr.neSM (h : Sr O S hv fv t L c v Mb ib w) : S ≠ Mb := by
  obtain ⟨es, cl, hb⟩ := h.om.map
  rintro rfl
  have := h.blk
  unfold Blk at this
  rw [hb] at this
  cases this
theorem Sr.neSB (h : Sr O S hv fv t L c v Mb ib w) {d B : Nat} (hd : ib d = some B) : S ≠ B := by
  obtain ⟨es, cl, hb⟩ := (h.kv d B hd).map
  rintro rfl
  have := h.blk
  unfold Blk at this
  rw [hb] at this
  cases this
theorem Sr.neSR (h : Sr O S hv fv t L c v Mb ib w) : v.ownBlock ≠ some S := fun e => by
  obtain ⟨cs, hc⟩ := owns_cells h.row e
  have := h.blk
  unfold Blk at this
  rw [hc] at this
  cases this
theorem Sr.neMR (h : Sr O S hv fv t L c v Mb ib w) : v.ownBlock ≠ some Mb := fun e => by
  obtain ⟨cs, hc⟩ := owns_cells h.row e
  obtain ⟨es, cl, hb⟩ := h.om.map
  rw [hc] at hb
  cases hb
theorem Sr.neBR (h : Sr O S hv fv t L c v Mb ib w) {d B : Nat} (hd : ib d = some B) : v.ownBlock ≠ some B := fun e => by
  obtain ⟨cs, hc⟩ := owns_cells h.row e
  obtain ⟨es, cl, hb⟩ := (h.kv d B hd).map
  rw [hc] at hb
  cases hb
theorem Sr.ltR (h : Sr O S hv fv t L c v Mb ib w) {g : Nat} (hg : v.ownBlock = some g) : g < w.heap.size := (h.row.lt g hg).2
/-- the search's blocks lie as they lay -/
theorem Sr.at_ (h : Sr O S hv fv t L c v Mb ib w) (hb : ∀ k, k < w.heap.size → (k = S ∨ k = Mb ∨ v.ownBlock = some k ∨ ∃ d, ib d = some k) → w'.heap[k]? = w.heap[k]?) : Sr O S hv fv t L c v Mb ib w' :=
  ⟨(hb S h.blk.lt (.inl rfl)).trans h.blk, owns_blk h.row (fun g hg => hb g (h.ltR hg) (.inr (.inr (.inl hg)))), h.om.at_ (hb Mb h.om.lt (.inr (.inl rfl))), fun d B hd => (h.kv d B hd).at_ (hb B (h.kv d B hd).lt (.inr (.inr (.inr ⟨d, hd⟩)))),
    h.kn, h.inj, h.nM, h.oS, h.oM, h.oR, h.oB⟩
theorem Sr.later (h : Sr O S hv fv t L c v Mb ib w) (hb : Below w.heap.size w w') : Sr O S hv fv t L c v Mb ib w' := h.at_ (fun k hk _ => hb.block k hk)
theorem SV.later (h : SV O S hv fv t L c w) (hb : Below w.heap.size w w') : SV O S hv fv t L c w' := by
  obtain ⟨v, Mb, ib, h⟩ := h
  exact ⟨v, Mb, ib, h.later hb⟩
theorem Sr.mono (h : Sr O S hv fv t L c v Mb ib w) {c' : Nat} (hc : c ≤ c') : Sr O S hv fv t L c' v Mb ib w :=
  ⟨h.blk, h.row, h.om.mono hc, fun d B hd => (h.kv d B hd).mono hc, h.kn, h.inj, h.nM, h.oS, h.oM, h.oR, h.oB⟩
theorem Sr.own (h : Sr O S hv fv t L c v Mb ib w) {O' : Nat → Prop} (ho : ∀ k, k < w.heap.size → O k → O' k) : Sr O' S hv fv t L c v Mb ib w :=
  ⟨h.blk, h.row, h.om, h.kv, h.kn, h.inj, h.nM, ho _ h.blk.lt h.oS, ho _ h.om.lt h.oM, fun g hg => ho g (h.ltR hg) (h.oR g hg), fun d B hd => ho B (h.kv d B hd).lt (h.oB d B hd)⟩
theorem SV.own (h : SV O S hv fv t L c w) {O' : Nat → Prop} (ho : ∀ k, k < w.heap.size → O k → O' k) : SV O' S hv fv t L c w := by
  obtain ⟨v, Mb, ib, h⟩ := h
  exact ⟨v, Mb, ib, h.own ho⟩
/-- one more set: empty -/
theorem Sr.open {w2 : World} (h : Sr O S hv fv t L c v Mb ib w) {d N : Nat} (hd : ib d = none) (hN : w.heap.size ≤ N) (hNO : O N) (hom : Om (fun e => if e = d then some N else ib e) (c + 1) Mb w2) (hkv : Kv [] c N w2)
    (hb : ∀ k, k < w.heap.size → k ≠ Mb → w2.heap[k]? = w.heap[k]?) : Sr O S hv fv t L (c + 1) v Mb (fun e => if e = d then some N else ib e) w2 := by
  refine ⟨(hb S h.blk.lt h.neSM).trans h.blk, owns_blk h.row (fun g hg => hb g (h.ltR hg) (fun e => h.neMR (e ▸ hg))), hom, fun e B he => ?_, fun e he => ?_, fun e e' B he he' => ?_, fun e B he => ?_, h.oS, h.oM, h.oR, fun e B he => ?_⟩
  · by_cases x : e = d
    · subst x
      rw [if_pos rfl] at he
      cases he
      rw [h.kn e hd]
      exact hkv.mono (Nat.le_succ _)
    · rw [if_neg x] at he
      have k := h.kv e B he
      exact ((k.at_ (hb B k.lt (h.nM e B he)))).mono (Nat.le_succ _)
  · by_cases x : e = d
    · rw [if_pos x] at he; cases he
    · rw [if_neg x] at he; exact h.kn e he
  · by_cases x : e = d
    · rw [if_pos x] at he
      cases he
      by_cases y : e' = d
      · rw [x, y]
      · rw [if_neg y] at he'
        have := (h.kv e' _ he').lt
        omega
    · rw [if_neg x] at he
      by_cases y : e' = d
      · rw [if_pos y] at he'
        cases he'
        have := (h.kv e _ he).lt
        omega
      · rw [if_neg y] at he'
        exact h.inj e e' B he he'
  · by_cases x : e = d
    · rw [if_pos x] at he
      cases he
      have := h.om.lt
      omega
    · rw [if_neg x] at he; exact h.nM e B he
  · by_cases x : e = d
    · rw [if_pos x] at he
      cases he
      exact hNO
    · rw [if_neg x] at he; exact h.oB e B he
end
/-- one more from where no row goes on -/
def moreL (L : Nat → List (List Nat)) (d : Nat) (x : List Nat) : Nat → List (List Nat) := fun e => if e = d then L e ++ [x] else L e
section
variable {O : Nat → Prop} {S c Mb : Nat} {hv fv v : Value} {t : List Nat} {L : Nat → List (List Nat)} {ib : Nat → Option Nat} {w w' : World}
theorem Sr.add {w2 : World} (h : Sr O S hv fv t L c v Mb ib w) {d N : Nat} {x : List Nat} (hd : ib d = some N) (hkv : Kv (L d ++ [x]) (c + 1) N w2) (hb : ∀ k, k < w.heap.size → k ≠ N → w2.heap[k]? = w.heap[k]?) : Sr O S hv fv t (moreL L d x) (c + 1) v Mb ib w2 := by
  refine ⟨(hb S h.blk.lt (h.neSB hd)).trans h.blk, owns_blk h.row (fun g hg => hb g (h.ltR hg) (fun e => h.neBR hd (e ▸ hg))), (h.om.at_ (hb Mb h.om.lt (fun e => h.nM d N hd e.symm))).mono (Nat.le_succ _), fun e B he => ?_, fun e he => ?_, h.inj, h.nM, h.oS, h.oM, h.oR, h.oB⟩
  · unfold moreL
    by_cases y : e = d
    · subst y
      rw [hd] at he
      cases he
      rw [if_pos rfl]
      exact hkv
    · rw [if_neg y]
      have k := h.kv e B he
      exact (k.at_ (hb B k.lt (fun z => by subst z; exact y (h.inj _ _ _ he hd)))).mono (Nat.le_succ _)
  · unfold moreL
    by_cases y : e = d
    · subst y; rw [hd] at he; cases he
    · rw [if_neg y]; exact h.kn e he
end
end Go.Proofs.Ytdbejgidgajhlaa
