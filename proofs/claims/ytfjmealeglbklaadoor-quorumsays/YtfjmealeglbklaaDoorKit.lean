/- Small lemmas on memory: a row of sets in a block of its own, a slice that is read, and the marks that ranges over functions leave among the deferred calls; no program text is named. -/
import Derived.RangeFuncNested
import Derived.RangeFuncLeaves
import Derived.Deep.OwnRows
import Derived.WalkKit
import Derived.Laws.CopyOwn
import Derived.StillTailTactics
import Derived.OrdersIn
import Derived.Test.YtfjmealeglbklaaDoorMath
namespace Go.Proofs.YtfjmealeglbklaaDoor
open Go.RowKit

/-- Sets as cells. -/
def arr (m : List Nat) : Array Value := (m.map fun x => Value.int .i64 ((x : Nat) : Int)).toArray
theorem arr_size (m : List Nat) : (arr m).size = m.length := by simp [arr]
theorem arr_get (m : List Nat) (k : Nat) (h : k < m.length) : (arr m)[k]? = some (.int .i64 (M.row m k : Nat)) := by
  simp [arr, M.row, h]
theorem arr_set (m : List Nat) (i x : Nat) : (arr m).setIfInBounds i (.int .i64 (x : Nat)) = arr (m.set i x) := by
  simp [arr, List.map_set]
/-- Block A holds the sets m, in cells of int, none frozen. -/
def RowAt (t : TypeId) (W : World) (A : Nat) (m : List Nat) : Prop := W.heap[A]? = some (.cells (arr m) t (0, 0))
theorem RowAt.lt {t : TypeId} {W : World} {A : Nat} {m : List Nat} (h : RowAt t W A m) : A < W.heap.size := (Array.getElem?_eq_some_iff.1 h).1
theorem RowAt.cell {t : TypeId} {W : World} {A : Nat} {m : List Nat} (h : RowAt t W A m) {k : Nat} (hk : k < m.length) : W.cell? ⟨A, k, none⟩ = some (.int .i64 (M.row m k : Nat)) := by
  simp [World.cell?, show W.heap[A]? = _ from h, arr_get m k hk]
theorem RowAt.frozen {t : TypeId} {W : World} {A : Nat} {m : List Nat} (h : RowAt t W A m) (k : Nat) : W.frozen? ⟨A, k, none⟩ = false := by
  simp [World.frozen?, show W.heap[A]? = _ from h]
theorem RowAt.kept {t : TypeId} {W W' : World} {row : Option Nat} {A : Nat} {m : List Nat} (h : RowAt t W A m) (hg : W.grownBy W' row) (hne : some A ≠ row) : RowAt t W' A m := (hg.block A h.lt hne).trans h
theorem RowAt.alloc {t : TypeId} {W : World} {A : Nat} {m : List Nat} (h : RowAt t W A m) (o : Obj) : RowAt t (W.alloc o) A m := h.kept (World.grownBy_alloc W o none) (by simp)
theorem RowAt.drew {t : TypeId} {W : World} {A : Nat} {m : List Nat} (h : RowAt t W A m) : RowAt t W.drew A m := h
theorem RowAt.below {t : TypeId} {W W' : World} {A B : Nat} {m : List Nat} (h : RowAt t W A m) (hb : Below B W W') (hA : A < B) : RowAt t W' A m := (hb.block A hA).trans h
theorem RowAt.set {t : TypeId} {W : World} {A : Nat} {m : List Nat} (h : RowAt t W A m) (i x : Nat) : RowAt t (W.setCell ⟨A, i, none⟩ (.int .i64 (x : Nat))) A (m.set i x) := by
  obtain ⟨hlt, hk⟩ := Array.getElem?_eq_some_iff.1 h
  show (W.heap.modify A _)[A]? = _
  rw [Array.getElem?_eq_getElem (by rw [Array.size_modify]; exact hlt), Array.getElem_modify_self, hk]
  simp [arr_set]
theorem RowAt.other {t : TypeId} {W : World} {A : Nat} {m : List Nat} (h : RowAt t W A m) {a : Addr} (ha : A ≠ a.block) (v : Value) : RowAt t (W.setCell a v) A m :=
  (Below.heap_setCell W a v A ha).trans h
theorem rowAt_own {β : Type} (t : TypeId) (A : Nat) (f : β → List Nat) : Own (fun s W => RowAt t W A (f s)) := fun s X Y row hs hg hrow =>
  hs.kept hg (fun e' => by obtain ⟨o, ho, hc⟩ := hrow A e'.symm; rw [show X.heap[A]? = _ from hs] at ho; cases ho; cases hc)
theorem boxed_below {W W' : World} {B n : Nat} {t : TypeId} {v : Value} (h : Boxed W B t v) (hb : Below n W W') (hB : B < n) : Boxed W' B t v := (hb.block B hB).trans h
theorem boxed_drew {W : World} {B : Nat} {t : TypeId} {v : Value} (h : Boxed W B t v) : Boxed W.drew B t v := h
theorem boxed_otherAt {W : World} {B : Nat} {t : TypeId} {v : Value} (h : Boxed W B t v) {a : Addr} (ha : B ≠ a.block) (u : Value) : Boxed (W.setCell a u) B t v := (Below.heap_setCell W a u B ha).trans h

/-- A slice value that holds the numbers zs, in a block below n₀. -/
def Ints (n₀ : Nat) (W : World) (v : Value) (zs : List Int) : Prop := ∃ p cap, v = .slice p zs.length cap ∧
  ∀ j, j < zs.length → ∃ b off, p = some ⟨b, off, none⟩ ∧ b < n₀ ∧ W.cell? ⟨b, off + j, none⟩ = some (.int .i64 (zs[j]?.getD 0))
theorem Ints.below {n₀ : Nat} {A B : World} {v : Value} {zs : List Int} (h : Ints n₀ A v zs) (hb : Below n₀ A B) : Ints n₀ B v zs := by
  obtain ⟨p, cap, e, hc⟩ := h
  exact ⟨p, cap, e, fun j hj => by obtain ⟨b, off, e1, h1, h2⟩ := hc j hj; exact ⟨b, off, e1, h1, (hb.cell (p := ⟨b, off + j, none⟩) h1).trans h2⟩⟩
theorem Ints.mono {n₀ n₁ : Nat} {A : World} {v : Value} {zs : List Int} (h : Ints n₀ A v zs) (hn : n₀ ≤ n₁) : Ints n₁ A v zs := by
  obtain ⟨p, cap, e, hc⟩ := h
  exact ⟨p, cap, e, fun j hj => by obtain ⟨b, off, e1, h1, h2⟩ := hc j hj; exact ⟨b, off, e1, by omega, h2⟩⟩
/-- Sets as numbers. -/
def ints (m : List Nat) : List Int := m.map fun x => ((x : Nat) : Int)
theorem ints_length (m : List Nat) : (ints m).length = m.length := by simp [ints]
theorem ints_get (m : List Nat) (k : Nat) : (ints m)[k]?.getD 0 = ((M.row m k : Nat) : Int) := by
  unfold ints M.row
  rw [List.getElem?_map]
  cases m[k]? <;> simp

/-- 'copy' into a row of the call's own, filled whole. -/
theorem run_copy_whole {P : Program} (w : World) (dT sT ty elem : TypeId) (hu : P.underlying dT = some (.slice elem)) (hsz : (P.info? elem).map (·.size) = some 1)
    (n : Nat) (sp : Option Addr) (sCap : Nat) (g : Nat) (cur : Array Value) (t : TypeId) (hg : w.heap[g]? = some (.cells cur t (0, 0))) (hsize : cur.size = n) (cs : List Value) (hn : cs.length = n)
    (hpos : 0 < n → ∃ ad, sp = some ad ∧ ∀ j v, cs[j]? = some v → w.cell? (ad.add j) = some v) (h1 : ∀ v ∈ cs, v.oneCell' = true) :
    ∃ w', (Builtin.copy_ #[dT, sT] ty #[.slice (some ⟨g, 0, none⟩) n n, .slice sp n sCap]).run P w = .ok (.int .i64 (n : Int)) w' ∧ w'.heap[g]? = some (.cells cs.toArray t (0, 0)) ∧ w.grownBy w' (some g) := by
  by_cases h0 : n = 0
  · subst h0
    obtain rfl : cs = [] := List.eq_nil_of_length_eq_zero hn
    obtain rfl : cur = #[] := Array.eq_empty_of_size_eq_zero hsize
    exact ⟨w, run_copy_none (P := P) w dT sT ty elem _ sp 0 0 0 sCap hu hsz (by simp), hg, ⟨rfl, rfl, rfl, Nat.le_refl _, fun _ _ _ => rfl⟩⟩
  · obtain ⟨ad, rfl, hsrc⟩ := hpos (by omega)
    have hrun := run_copy_row (P := P) w dT sT ty elem g 0 n n ad n sCap cur t cs hu hsz hg (by simp [hn]) hsrc (by omega) h1
    rw [hn] at hrun
    refine ⟨_, hrun, ?_, ⟨rfl, rfl, rfl, by simp [World.setRow], fun k _ hk => setRow_other w g k _ (fun e => hk (by rw [e]))⟩⟩
    have e : cur.toList.take 0 ++ cs ++ cur.toList.drop (0 + n) = cs := by
      rw [List.drop_eq_nil_of_le (by simp [hsize])]; simp
    rw [e]
    exact setRow_heap w g _ _ t _ hg

theorem addr_add (b off j : Nat) : (⟨b, off, none⟩ : Addr).add j = ⟨b, off + j, none⟩ := by
  unfold Addr.add
  split
  · rename_i h; simp_all
  · rfl

/-! ### marks -/
/-- The deferred calls are marks of blocks from base on, each below the one ahead of it, all below hi. -/
def Marks (base : Nat) (W : World) : Nat → List Deferred → Prop
  | _, [] => True
  | hi, d :: ds => ∃ D, base ≤ D ∧ D < hi ∧ d = { target := .collected D, args := #[] } ∧ W.heap[D]? = some (.deferred (some [])) ∧ Marks base W D ds
theorem Marks.hi {base : Nat} {W : World} {h h' : Nat} {ds : List Deferred} (m : Marks base W h ds) (hh : h ≤ h') : Marks base W h' ds := by
  cases ds with
  | nil => trivial
  | cons d ds => obtain ⟨D, h1, h2, h3, h4, h5⟩ := m; exact ⟨D, h1, by omega, h3, h4, h5⟩
theorem Marks.move {base : Nat} {W W' : World} {ds : List Deferred} : ∀ {hi : Nat}, Marks base W hi ds → (∀ D, base ≤ D → D < hi → W.heap[D]? = some (.deferred (some [])) → W'.heap[D]? = some (.deferred (some []))) → Marks base W' hi ds := by
  induction ds with
  | nil => intros; trivial
  | cons d ds ih =>
    intro hi m hk
    obtain ⟨D, h1, h2, h3, h4, h5⟩ := m
    exact ⟨D, h1, h2, h3, hk D h1 h2 h4, ih h5 (fun E e1 e2 => hk E e1 (by omega))⟩
theorem Marks.others {base : Nat} {W W' : World} {hi : Nat} {ds : List Deferred} (m : Marks base W hi ds) (k : KeepsOthers W W') : Marks base W' hi ds :=
  m.move (fun D _ _ h => k.same D _ h rfl)
theorem marks_own {β : Type} (base hi : Nat) (ds : List Deferred) : OwnFrom hi (fun (_ : β) W => Marks base W hi ds) := fun _ X Y row hs hg hr =>
  hs.move (fun D _ h2 h => (hg.block D (Array.getElem?_eq_some_iff.1 h).1 (fun e => by have := (hr D e.symm).1; omega)).trans h)
/-- What the taking of all marks leaves: all cells lie as they lay, and all below base. -/
structure Taken (base : Nat) (W W' : World) : Prop where
  below : Below base W W'
  cells : ∀ (k : Nat) (o : Obj), W.heap[k]? = some o → o.isCells = true → W'.heap[k]? = some o
theorem Taken.refl (base : Nat) (W : World) : Taken base W W := ⟨Below.refl _ _, fun _ _ h _ => h⟩
theorem Taken.row {base : Nat} {W W' : World} (h : Taken base W W') {t : TypeId} {A : Nat} {m : List Nat} (hr : RowAt t W A m) : RowAt t W' A m := h.cells A _ hr rfl
theorem leaves_marks {F : Fence} {n : Nat} {P : Program} {fn : Func} {tmps : Array Value} {R : Ending → World → Prop} {base : Nat} (ds : List Deferred) : ∀ (hi : Nat) (W : World), base ≤ W.heap.size → Marks base W hi ds →
    (∀ W', Taken base W W' → LeavesIn F n P fn tmps R [] .returning W') → LeavesInM F n P fn tmps R ds .returning W := by
  induction ds with
  | nil => intro hi W _ _ h; exact h W (Taken.refl _ _)
  | cons d ds ih =>
    intro hi W hb m h
    obtain ⟨D, h1, h2, rfl, h4, h5⟩ := m
    refine ⟨by simp, .inl ⟨D, _, rfl, run_takeDeferred h4, ?_⟩⟩
    have hlt := (Array.getElem?_eq_some_iff.1 h4).1
    refine ih D _ (by rw [World.putObj_size]; exact hb) (h5.move (fun E _ e2 e3 => (World.putObj_heap_other (by omega)).trans e3)) (fun W' ht => h W' ⟨?_, ?_⟩)
    · exact ((Below.refl base W).grown (grownBy_putObj' W D (.deferred none)) hb (fun k e => by cases e; exact h1)).trans ht.below
    · intro k o hk ho
      refine ht.cells k o ((World.putObj_heap_other ?_).trans hk) ho
      rintro rfl
      rw [h4] at hk; cases hk; cases ho

/-! ### a region that draws its order, within a round of a range over a function: all reads first, then what must come last -/
theorem oper_in {l n : Nat} {P : Program} {o : Oper} {a : Act} {w : World} {K : Act → World → Prop} {Q : Exit → Act → World → Prop} (hd : ∀ c, o.op ≠ .defer c) (h : o.wp P a w K Q) : o.wpIn (Fence.wide.inRound l) n P a w K Q := by
  unfold Oper.wp at h
  unfold Oper.wpIn
  refine ⟨fun _ _ => trivial, ?_⟩
  have e : Oper.semAt (Fence.wide.inRound l).round a.eval o = execOp a.eval o := Oper.semAt_some l a.eval o hd
  rw [e]
  generalize (execOp a.eval o).run P w = r at *
  cases r with
  | ok x w' =>
    cases x <;> simp only [Oper.upon, Oper.uponIn] at h ⊢
    case value => exact h
    case skip => exact h
    case defer => exact h
    case enter => exact ⟨(fun h => by cases h), CallsIn.inRound l (callsIn_wide.2 h)⟩
    case row =>
      refine ⟨(fun h => by cases h), fun c cs _ => ?_⟩
      obtain ⟨v, w'', r, s⟩ := h c cs
      exact ⟨v, w'', r, stepsIn_wide.2 s⟩
  | halt x w' => cases x <;> simp only [Oper.upon, Oper.uponIn] at h ⊢ <;> exact h
theorem wpAnyIn_of {l n : Nat} {P : Program} {md : Region.Mode} {ops : Array Oper} {Q : Exit → Act → World → Prop} (hno : ∀ a w, ¬ Q .outgrown a w) (hd : ∀ (i : Nat) (o : Oper) (c : Call), ops[i]? = some o → o.op ≠ .defer c) :
    ∀ (fuel : Nat) (listed : Array Bool) (a : Act) (w : World), wpAny P md ops Q fuel listed a w → wpAnyIn (Fence.wide.inRound l) n P md ops Q fuel listed a w
  | 0, _, _, _, h => h
  | fuel + 1, listed, a, w, h => by
    refine ⟨h.1, fun i hi => ?_⟩
    have h1 := h.2 i hi
    refine wpOpIn_mono (K := wpAny P md ops Q fuel (listed.setIfInBounds i true)) (fun a' w' h' => wpAnyIn_of hno hd fuel _ a' w' h') ?_
    unfold wpOp at h1
    unfold wpOpIn
    cases ho : ops[i]? with
    | none => rw [ho] at h1; exact h1
    | some o =>
      rw [ho] at h1
      simp only at h1 ⊢
      split
      · rename_i hw
        rw [if_pos hw] at h1
        rcases h1 with h1 | ⟨_, a0, w0, h2⟩
        · exact oper_in (fun c => hd i o c ho) h1
        · exact absurd h2 (hno _ _)
      · rename_i hw
        rw [if_neg hw] at h1
        exact ⟨fun _ _ => trivial, h1⟩
def noDefer : Op → Bool
  | .defer _ => false
  | _ => true
theorem noDefer_spec {o : Op} (h : noDefer o = true) (c : Call) : o ≠ .defer c := by rintro rfl; cases h
theorem wpIn_region_still_tail {l₀ m : Nat} {P : Program} {id : Nat} {Q : Exit → Act → World → Prop} {a : Act} {w : World} {l : List Oper} (n : Nat) (hm : P.follows .mixedOrders = true) (hB : Region.lexTailB .any l.toArray n = true)
    (hno : ∀ a w, ¬ Q .outgrown a w) (hd : l.all (fun o => noDefer o.op) = true)
    (h : wpStill P l.toArray w.drew (fun a' => wpList P l.toArray Q (l.drop n) a' w.drew) (l.take n) a) : (Code.region id l.toArray true).wpIn (Fence.wide.inRound l₀) m P Q a w := by
  simp only [Region.lexTailB, Bool.and_eq_true, decide_eq_true_eq] at hB
  obtain ⟨⟨⟨⟨hsel, hn⟩, hs⟩, hc⟩, hlex⟩ := hB
  have hn' : n < l.length := by simpa using hn
  have htl : (l.take n).length = n := by simp; omega
  have hdl : (l.drop n).length = l.toArray.size - n := by simp
  have inv0 : HeadInv .any l.toArray n (Array.replicate l.toArray.size false) :=
    ⟨by simp, fun j oj _ hl => (by rw [getD_replicate_false] at hl; cases hl), fun t _ ht => getD_in (by simpa using ht) (getD_replicate_false _ _)⟩
  have H := wpAnyL_lex (md := .any) (g := l.toArray.size - n) hsel hs hc hn (l.take n) 0 _ a (fun j hj => by
    have hj' : j < n := by rw [htl] at hj; exact hj
    simp [hj']) (by simpa using htl) inv0 (by rw [htl]; exact hlex) h
  refine wpIn_region_any hm (wpAnyIn_of hno (fun i o c hi => noDefer_spec (List.all_eq_true.1 hd o (List.mem_of_getElem? (by simpa using hi))) c) _ _ _ _ ?_)
  have := wpAny_of_head (Q' := Q) (g := l.toArray.size - n) (fun listed a' hL => by
    have := wpAny_of_seq (md := .any) (Q' := Q) (l.drop n) n listed a' w.drew (fun j => by simp [List.getElem?_drop]) (by rw [hdl]; exact hL.1) hL.2
    rwa [hdl] at this) _ _ _ H
  rw [htl, show n + (l.toArray.size - n) = l.toArray.size by omega] at this
  exact this
end Go.Proofs.YtfjmealeglbklaaDoor
