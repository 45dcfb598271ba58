/- A range over a function whose rounds may change what the function goes over: the function is told what the rounds keep, and tells at its end how the memory then stands to what came. No program text is named. -/
import Derived.RangeFuncNested
import Derived.RangeFuncLeaves
import Derived.Test.YtkojkiggdbffhaaDoorIter
namespace Go.Proofs.YtkojkiggdbffhaaDoor
open Go.RowKit Go.Shelf

/-- The book-keeping of a loop that began at w: its record is ready, no deferred call stands. -/
def LpRec (w : World) (r : Loop) (W : World) : Prop := W.heap[w.heap.size + 1]? = some (.loop r) ∧ W.heap[w.heap.size]? = some (.deferred (some []))
theorem LpRec.later {w W W' : World} {r : Loop} (h : LpRec w r W) (k : KeepsFrom w.heap.size W W') : LpRec w r W' :=
  ⟨k.same _ _ (Nat.le_succ _) h.1 rfl, k.same _ _ (Nat.le_refl _) h.2 rfl⟩
theorem LpRec.turn {w W : World} {r r' : Loop} (h : LpRec w r W) : LpRec w r' (W.putObj (w.heap.size + 1) (.loop r')) :=
  ⟨World.putObj_heap_same (Array.getElem?_eq_some_iff.1 h.1).1, (World.putObj_heap_other (by omega)).trans h.2⟩

theorem range_grow {α : Type} {P : Program} {n : Nat} {g : Operand} {ps : Array Tmp} {assign body : Code} {Q : Exit → Act → World → Prop} {a : Act} {w : World} {gf : Nat} {lb : Array Value}
    (hg : a.eval g = .func (.func gf) #[] lb) (eg : ∀ args w, (callFunc gf args).run P w = .ok (.enter gf args) w)
    (encs : α → Array Value) (hps : ∀ x, (encs x).size = ps.size) (I S : List α → World → Prop) (Nx : List α → α → World → Prop)
    (hI : ∀ pre W r o, W.heap[w.heap.size + 1]? = some (.loop r) → I pre W → I pre (W.putObj (w.heap.size + 1) o))
    (h0 : ∀ r, I [] ((w.alloc (.deferred (some []))).alloc (.loop r)))
    (hit : ∀ (J : List α → World → Prop), (∀ pre W, J pre W → I pre W) →
      (∀ pre x W, J pre W → Nx pre x W → YieldAt Fence.wide (n - 1 - 1) P (w.heap.size + 1) (encs x) W fun e W' => e = .returned (.bool true) ∧ J (pre ++ [x]) W') → ∀ W, J [] W →
      CallsIn Fence.wide (n - 1) P gf (#[.func (.yield (w.heap.size + 1)) #[] #[]] ++ lb) W fun e W' => (∃ v, e = .returned v) ∧ ∃ xs, J xs W' ∧ S xs W')
    (hrd : ∀ pre x W r, I pre W → Nx pre x W → LpRec w r W →
      assign.wpIn (Fence.wide.inRound (w.heap.size + 1)) (n - 1 - 1) P (Exit.then (fun a' W' => KeepsFrom w.heap.size W W' ∧ ∀ r', body.wpIn (Fence.wide.inRound (w.heap.size + 1)) (n - 1 - 1) P
          (fun e _ W3 => e = .normal ∧ KeepsFrom w.heap.size (W'.putObj (w.heap.size + 1) (.loop r')) W3 ∧ I (pre ++ [x]) W3) a' (W'.putObj (w.heap.size + 1) (.loop r'))) (fun _ _ _ => False))
        { tmps := (ps.zip (encs x)).foldl (fun t (p, v) => t.setIfInBounds p v) a.tmps, defers := [] } W)
    (hdone : ∀ (xs : List α) (W : World) (r : Loop), S xs W → I xs W → LpRec w r W → ∀ o, Q .normal { a with defers := { target := .collected w.heap.size, args := #[] } :: a.defers } (W.putObj (w.heap.size + 1) o)) :
    (Code.rangeFunc g ps assign body).wpIn Fence.wide n P Q a w := by
  refine wpIn_rangeFunc fun fn hfn => ?_
  obtain ⟨r0, hr0⟩ : ∃ r0 : Loop, r0 = { state := .ready, pending := none, fn, tmps := a.tmps, params := ps, assign, body, defers := w.heap.size } := ⟨_, rfl⟩
  obtain ⟨W1, hW1⟩ : ∃ W1, (w.alloc (.deferred (some []))).alloc (.loop r0) = W1 := ⟨_, rfl⟩
  have hst : LpRec w r0 W1 := by
    rw [← hW1]
    constructor
    · have := World.alloc_heap_new (w.alloc (.deferred (some []))) (.loop r0)
      rwa [World.size_alloc] at this
    · exact (Below.heap_alloc _ _ _ (by simp)).trans (World.alloc_heap_new w _)
  refine ⟨w.heap.size + 1, [{ target := .collected w.heap.size, args := #[] }], W1, { target := .fn (.func gf) lb, args := #[.func (.yield (w.heap.size + 1)) #[] #[]] }, W1, gf,
    #[.func (.yield (w.heap.size + 1)) #[] #[]] ++ lb, W1, ?_, ?_, (fun _ _ => trivial), ?_, (fun h => by cases h), ?_⟩
  · rw [← hW1, hr0]; exact run_enterLoop_outer _ _ _ _ _
  · simp only [resolve, hg]
    simp [go_sem]
  · simp [invoke, go_sem, eg]
  refine (hit (fun pre W => I pre W ∧ LpRec w r0 W) (fun _ _ h => h.1) ?_ W1 ⟨hW1 ▸ h0 r0, hst⟩).mono ?_
  · rintro pre x W ⟨hi, hl⟩ hx
    have hy := run_yield (P := P) (args := encs x) hl.1 (by rw [hr0]; exact hps x)
    refine ⟨r0.fn, _, r0.assign, r0.body, hy, roundIn_of_wpIn (by rw [hr0]; exact hfn) ?_⟩
    have key := hrd pre x W r0 hi hx hl
    rw [hr0]
    refine wpIn_mono key ?_
    intro e a' W' he
    cases e <;> first | exact he.elim | skip
    obtain ⟨hk, hb⟩ := he
    have hl' := hl.later hk
    refine ⟨_, run_beginRound hl'.1 (by rw [hr0]), wpIn_mono (hb _) ?_⟩
    rintro e3 a3 W3 ⟨rfl, hk3, hi3⟩
    have hl3 := (hl'.turn (r' := { r0 with state := .busy })).later hk3
    refine ⟨_, _, run_endRound none hl3.1, rfl, hI _ _ _ _ hl3.1 hi3, ?_⟩
    have := hl3.turn (r' := { { r0 with state := .busy } with state := if (none : Option Code).isNone = true then .ready else .done, pending := none })
    rw [hr0] at this ⊢
    exact this
  · rintro e W2 ⟨⟨v, rfl⟩, xs, ⟨hi, hl⟩, hS⟩
    refine ⟨_, _, run_endLoop hl.1 (by rw [hr0]; simp), ?_⟩
    rw [hr0] at hl ⊢
    exact hdone xs W2 _ hS hi hl _
end Go.Proofs.YtkojkiggdbffhaaDoor
