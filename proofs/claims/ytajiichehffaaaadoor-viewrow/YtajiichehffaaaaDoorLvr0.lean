/- In a row each reads the same (law ViewRow): the law's own rows beside the program's store. No walk. -/
import Derived.Test.YtajiichehffaaaaDoorVfc
import Derived.Test.YtajiichehffaaaaDoorBRf
import Derived.Test.YtajiichehffaaaaDoorRwy
namespace Go.Proofs.YtajiichehffaaaaDoor
open Go.RowKit
theorem infoSV : (Tryd.prog.info? 32).map (fun i => (i.zero, i.size, i.bytes)) = some (some (.slice none 0 0), 1, 24) := by kernel_rfl
/-- what was read, each in a block of its own, as cells -/
def rvc (L : List (Nat × Nat × Nat × Int)) : List Value := L.map fun r => .slice (some ⟨r.1, 0, none⟩) 3 3
theorem rvc_len (L : List (Nat × Nat × Nat × Int)) : (rvc L).length = L.length := by simp [rvc]
/-- what the store may write: its own blocks, and new ones -/
def nxV (O : Nat → Prop) (w : World) : Nat → Prop := fun j => O j ∨ w.heap.size ≤ j
structure QR (N S A : Nat) (O : Nat → Prop) (s : M.Vw) (L : List (Nat × Nat × Nat × Int)) (vR : Value) (w0 wr : World) : Prop where
  vv : VV O S s wr
  rq : M.RQ s (L.map (·.2))
  ra : RowAt 3 wr A (M.r5 s.wr)
  own : wr.ownsRow N 32 1 vR L.length (rvc L)
  each : ∀ r, r ∈ L → RowY 3 wr r.1 [(r.2.1 : Int), (r.2.2.1 : Int), r.2.2.2]
  eA : ∀ r, r ∈ L → r.1 ≠ A
  oA : ¬ O A
  oR : ∀ g, vR.ownBlock = some g → ¬ O g
  oE : ∀ r, r ∈ L → ¬ O r.1
  gA : N ≤ A
  bl : Below N w0 wr
  ns : N ≤ wr.heap.size
  ol : ∀ k, k < N → ¬ O k
  ob : ∀ k, O k → k < wr.heap.size
section
variable {N S A : Nat} {O : Nat → Prop} {s s' : M.Vw} {L : List (Nat × Nat × Nat × Int)} {vR : Value} {w0 wr w1 wa w' : World}
theorem owns_rowAt {w : World} {base n size B : Nat} {t t' : TypeId} {v : Value} {xs : List Value} {m : List Nat} (h : RowAt t w B m) (h' : w.ownsRow base t' size v n xs) (e : t ≠ t') : v.ownBlock ≠ some B := fun hk => by
  obtain ⟨cs, hcs⟩ := owns_cells h' hk
  rw [show w.heap[B]? = _ from h] at hcs
  cases hcs
  exact e rfl
theorem owns_rowY {w : World} {base n size B : Nat} {t t' : TypeId} {v : Value} {xs : List Value} {m : List Int} (h : RowY t w B m) (h' : w.ownsRow base t' size v n xs) (e : t ≠ t') : v.ownBlock ≠ some B := fun hk => by
  obtain ⟨cs, hcs⟩ := owns_cells h' hk
  rw [show w.heap[B]? = _ from h] at hcs
  cases hcs
  exact e rfl
theorem owns_at {w : World} {base n c : Nat} {t : TypeId} {p : Option Addr} {xs : List Value} (h : w.ownsRow base t 1 (.slice p n c) n xs) {j : Nat} (hj : j < n) {u : Value} (hx : xs[j]? = some u) : ∃ g, p = some ⟨g, 0, none⟩ ∧ g < w.heap.size ∧ w.cell? ⟨g, j, none⟩ = some u := by
  rcases h.2 with ⟨e, rfl⟩ | ⟨g, cap, cur, e, hb, hg, h1, h2, h3, h4⟩
  · exact absurd hj (Nat.not_lt_zero _)
  · cases e
    have hc := h.cellAt j (by omega)
    exact ⟨g, rfl, (Array.getElem?_eq_some_iff.1 hg).1, by rw [hc, hx]⟩
theorem QR.later (h : QR N S A O s L vR w0 wr) (hb : Below wr.heap.size wr w1) : QR N S A O s L vR w0 w1 :=
  ⟨h.vv.below hb, h.rq, h.ra.below hb h.ra.lt, owns_below h.own hb, fun r hr => (h.each r hr).below hb (h.each r hr).lt, h.eA, h.oA, h.oR, h.oE, h.gA, h.bl.trans (hb.mono h.ns), by have := hb.size; have := h.ns; omega, h.ol, fun k hk => by have := h.ob k hk; have := hb.size; omega⟩
/-- how the law's own rows lie behind a deed, the store being s' -/
structure QD (N S A : Nat) (O : Nat → Prop) (s s' : M.Vw) (L : List (Nat × Nat × Nat × Int)) (vR : Value) (w0 wr : World) : Prop where
  vv : VV O S s' wr
  ra : RowAt 3 wr A (M.r5 s.wr)
  own : wr.ownsRow N 32 1 vR L.length (rvc L)
  each : ∀ r, r ∈ L → RowY 3 wr r.1 [(r.2.1 : Int), (r.2.2.1 : Int), r.2.2.2]
  eA : ∀ r, r ∈ L → r.1 ≠ A
  oA : ¬ O A
  oR : ∀ g, vR.ownBlock = some g → ¬ O g
  oE : ∀ r, r ∈ L → ¬ O r.1
  gA : N ≤ A
  bl : Below N w0 wr
  ns : N ≤ wr.heap.size
  ol : ∀ k, k < N → ¬ O k
  ob : ∀ k, O k → k < wr.heap.size
theorem QD.keep (h : QD N S A O s s' L vR w0 wr) (hw : s'.wr = s.wr) (hq : M.RQ s' (L.map (·.2))) : QR N S A O s' L vR w0 wr :=
  ⟨h.vv, hq, by rw [hw]; exact h.ra, h.own, h.each, h.eA, h.oA, h.oR, h.oE, h.gA, h.bl, h.ns, h.ol, h.ob⟩
theorem VV.setV {B j : Nat} (h : VV O S s wr) (hB : ¬ O B) (v : Value) : VV O S s (wr.setCell ⟨B, j, none⟩ v) :=
  h.frm (O' := fun k => k = B) ((Frm.refl (fun k => k = B) wr).set (p := ⟨B, j, none⟩) rfl _) (fun k ho e => hB (by rw [← e]; exact ho))
theorem QD.wrC {u v : Nat} (h : QD N S A O s s' L vR w0 w') (hw : s'.wr = M.up1 s.wr u v) (hu : u < 5) (hq : M.RQ s' (L.map (·.2))) : QR N S A O s' L vR w0 (w'.setCell ⟨A, u, none⟩ (.int .i64 (v : Nat))) := by
  have sz : (w'.setCell ⟨A, u, none⟩ (.int .i64 (v : Nat))).heap.size = w'.heap.size := by simp [World.setCell]
  exact ⟨h.vv.setV h.oA _, hq, by rw [hw, ← M.r5_set _ hu]; exact h.ra.set u v, owns_blk h.own (fun g e => Below.heap_setCell _ _ _ _ (fun x => owns_rowAt h.ra h.own (by decide) (by rw [e]; exact congrArg some x))),
    fun r hr => (h.each r hr).other (a := ⟨A, u, none⟩) (h.eA r hr) _, h.eA, h.oA, h.oR, h.oE, h.gA, h.bl.setCell (p := ⟨A, u, none⟩) h.gA _, by rw [sz]; exact h.ns, h.ol, fun k hk => by rw [sz]; exact h.ob k hk⟩
/-- the program's deed, the law's own copy of it in a new block -/
theorem QR.deed (h : QR N S A O s L vR w0 wr) (k t o x : Int) :
    Calls Tryd.prog 9 #[.pointer (some ⟨S, 0, none⟩), dvV k t o x] (wr.alloc (.cells #[.int .i64 k, .int .i64 t, .int .i64 o, .int .i64 x] 31)) fun e w' => e = .returned (.tuple #[.int .i64 (vwZ s k t o x).2.1, terr (vwZ s k t o x).2.2]) ∧
      Hid (QD N S A (fun j => nxV O (wr.alloc (.cells #[.int .i64 k, .int .i64 t, .int .i64 o, .int .i64 x] 31)) j ∧ j < w'.heap.size) s (vwZ s k t o x).1 L vR w0 w' ∧ DeAt ⟨k, t, o, x⟩ wr.heap.size 0 w') := by
  have hd := deAt_new wr ⟨k, t, o, x⟩
  have hb : Below wr.heap.size wr (wr.alloc (.cells #[.int .i64 k, .int .i64 t, .int .i64 o, .int .i64 x] 31)) := bel_al (Below.refl _ _) _
  have hsz : (wr.alloc (.cells #[.int .i64 k, .int .i64 t, .int .i64 o, .int .i64 x] 31)).heap.size = wr.heap.size + 1 := by simp
  simp only at hd
  obtain ⟨wa, hwa⟩ : ∃ wa, wr.alloc (.cells #[.int .i64 k, .int .i64 t, .int .i64 o, .int .i64 x] 31) = wa := ⟨_, rfl⟩
  rw [hwa] at hd hb hsz ⊢
  have h2 := h.later hb
  refine (vdo_ok (O := nxV O wa) k t o x wa (h2.vv.mono (fun j hj e => .inl e)) (fun j hj => .inr hj) h.rq.vi).mono ?_
  rintro e w' ⟨rfl, h3, h4⟩
  have no : ∀ g, g < wa.heap.size → ¬ O g → ¬ nxV O wa g := fun g h1 h2 h3 => by
    rcases h3 with h3 | h3
    · exact h2 h3
    · omega
  have keepB : ∀ g, g < wa.heap.size → ¬ O g → w'.heap[g]? = wa.heap[g]? := fun g h1 hO => h4.block g h1 (no g h1 hO)
  refine ⟨rfl, ⟨h3.mono (fun k hk ho => ⟨ho, hk⟩), (keepB A h2.ra.lt h2.oA).trans h2.ra, owns_blk h2.own (fun g e => keepB g (h2.own.lt g e).2 (h2.oR g e)), fun r hr => (keepB r.1 (h2.each r hr).lt (h2.oE r hr)).trans (h2.each r hr), h2.eA, fun e => no A h2.ra.lt h2.oA e.1, fun g e x => no g (h2.own.lt g e).2 (h2.oR g e) x.1, fun r hr x => no r.1 (h2.each r hr).lt (h2.oE r hr) x.1, h2.gA, ?_, by have := h4.size; have := h2.ns; omega, ?_, fun k hk => hk.2⟩, ?_⟩
  · exact h2.bl.trans (h4.below h2.ns (fun k hk x => by
      rcases x with x | x
      · exact h2.ol k hk x
      · have := h2.ns; omega))
  · intro k hk x
    rcases x.1 with x | x
    · exact h2.ol k hk x
    · have := h2.ns; omega
  · have hnB : ¬ nxV O wa wr.heap.size := no _ hd.lt (fun e => by have := h.ob _ e; omega)
    have hb := h4.block wr.heap.size hd.lt hnB
    exact ⟨by have := h4.size; have := hd.lt; omega, (World.cell?_of_block (a := ⟨wr.heap.size, 0, none⟩) hb).trans hd.c0, (World.cell?_of_block (a := ⟨wr.heap.size, 1, none⟩) hb).trans hd.c1, (World.cell?_of_block (a := ⟨wr.heap.size, 2, none⟩) hb).trans hd.c2, (World.cell?_of_block (a := ⟨wr.heap.size, 3, none⟩) hb).trans hd.c3⟩
theorem rowY_new (w : World) (a b c : Int) : RowY 3 (w.alloc (.cells #[.int .i64 a, .int .i64 b, .int .i64 c] 3)) w.heap.size [a, b, c] := by
  unfold RowY
  rw [World.alloc_heap_new]
  rfl
/-- what is read is appended -/
theorem QR.app {t o g c : Nat} {z : Int} {x : Obj} {w5 : World} {C : Nat} (h : QR N S A O s L vR w0 wr) (hq : M.RQ s (L.map (·.2) ++ [(t, o, z)])) (hC : C = wr.heap.size)
    (hown : w5.ownsRow N 32 1 (.slice (some ⟨g, 0, none⟩) (L.length + 1) c) (L.length + 1) (rvc L ++ [.slice (some ⟨C, 0, none⟩) 3 3]))
    (hg : ((wr.alloc (.cells #[.int .i64 (t : Nat), .int .i64 (o : Nat), .int .i64 z] 3)).alloc x).grownBy w5 vR.ownBlock) (hat : vR.ownBlock = some g ∨ g = wr.heap.size + 1 + 1) :
    QR N S A O s (L ++ [(C, t, o, z)]) (.slice (some ⟨g, 0, none⟩) (L.length + 1) c) w0 w5 := by
  subst hC
  have hN := rowY_new wr (t : Nat) (o : Nat) z
  have B1 : Below wr.heap.size wr (wr.alloc (.cells #[.int .i64 (t : Nat), .int .i64 (o : Nat), .int .i64 z] 3)) := bel_al (Below.refl _ _) _
  obtain ⟨wb, hwb⟩ : ∃ wb, wr.alloc (.cells #[.int .i64 (t : Nat), .int .i64 (o : Nat), .int .i64 z] 3) = wb := ⟨_, rfl⟩
  have sb : wb.heap.size = wr.heap.size + 1 := by rw [← hwb]; simp
  rw [hwb] at hg hN B1
  have h2 := h.later B1
  have hk : ∀ k, k < wb.heap.size → vR.ownBlock ≠ some k → w5.heap[k]? = wb.heap[k]? := fun k hk hne => (hg.block k (Nat.lt_of_lt_of_le hk (by simp)) (Ne.symm hne)).trans (Below.heap_alloc wb _ k hk)
  have hs : wb.heap.size + 1 ≤ w5.heap.size := by have := hg.size; simpa using this
  have no : ∀ k, (Value.slice (some ⟨g, 0, none⟩) (L.length + 1) c).ownBlock = some k → vR.ownBlock = some k ∨ k = wr.heap.size + 1 + 1 := fun k e => by
    obtain rfl : g = k := by simpa [Value.ownBlock] using e
    exact hat
  refine ⟨h2.vv.frm (O' := fun k => vR.ownBlock = some k) ((((Frm.refl (fun k => vR.ownBlock = some k) wb).alloc x)).grown hg (fun k e => e)) (fun k ho e => h2.oR k e ho), by rw [List.map_append]; exact hq, (hk A h2.ra.lt (owns_rowAt h2.ra h2.own (by decide))).trans h2.ra, ?_, fun r hr => ?_, fun r hr => ?_, h2.oA, fun k e ho => ?_, fun r hr => ?_, h2.gA, ?_, by have := h2.ns; omega, h2.ol, fun k e => by have := h2.ob k e; omega⟩
  · rw [List.length_append]; unfold rvc; rw [List.map_append]; exact hown
  · rcases List.mem_append.1 hr with e | e
    · exact (hk r.1 (h2.each r e).lt (owns_rowY (h2.each r e) h2.own (by decide))).trans (h2.each r e)
    · rw [List.mem_singleton] at e; subst e
      exact (hk _ hN.lt (owns_rowY hN h2.own (by decide))).trans hN
  · rcases List.mem_append.1 hr with e | e
    · exact h2.eA r e
    · rw [List.mem_singleton] at e; subst e
      have := h.ra.lt
      show wr.heap.size ≠ A
      omega
  · rcases no k e with e3 | e3
    · exact h2.oR k e3 ho
    · have := h.ob k ho; omega
  · rcases List.mem_append.1 hr with e | e
    · exact h2.oE r e
    · rw [List.mem_singleton] at e; subst e
      exact fun ho => by have := h.ob _ ho; omega
  · exact (h2.bl.alloc h2.ns x).grown hg (by have := h2.ns; simp; omega) (fun k e => (h2.own.lt k e).1)
theorem QR.start {w w1 : World} (hN : w.heap.size = N) (hv : VV (fun k => k = S) S M.vw0 w1) (hS : N ≤ S) (hb : Below N w w1) :
    QR N S w1.heap.size (fun k => k = S) M.vw0 [] (.slice none 0 0) w (w1.alloc (.cells (madeCells #[.int .i64 0] 5) 3)) := by
  have row : RowAt 3 (w1.alloc (.cells (madeCells #[.int .i64 0] 5) 3)) w1.heap.size (List.replicate 5 0) := by
    unfold RowAt
    rw [World.alloc_heap_new, made_arr]
  have B1 : Below w1.heap.size w1 (w1.alloc (.cells (madeCells #[.int .i64 0] 5) 3)) := bel_al (Below.refl _ _) _
  have hn := hb.size
  rw [hN] at hn
  have hl := hv.lt
  have s2 : (w1.alloc (.cells (madeCells #[.int .i64 0] 5) 3)).heap.size = w1.heap.size + 1 := by simp
  exact ⟨hv.below B1, M.RQ.zero, row, World.ownsRow_nil _ _ _ _, fun _ h => absurd h (List.not_mem_nil), fun _ h => absurd h (List.not_mem_nil), fun (e : w1.heap.size = S) => by omega, fun g e => (by cases e), fun _ h => absurd h (List.not_mem_nil), hn, hb.trans (B1.mono hn), by omega, fun k hk (e : k = S) => by omega, fun k (e : k = S) => by omega⟩
end
end Go.Proofs.YtajiichehffaaaaDoor
