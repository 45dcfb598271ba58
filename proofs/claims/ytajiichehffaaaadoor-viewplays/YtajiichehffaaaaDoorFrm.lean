/- Memory in which all is as it was but for some blocks, and new ones; rows of whole numbers; no program text is named. -/
import Derived.Test.YtajiichehffaaaaDoorBOi
import Derived.Deep.OwnRows
import Derived.Deep.AppendLies
namespace Go.Proofs.YtajiichehffaaaaDoor
open Go.RowKit

/-- All is as it was but for the blocks of O, and new ones. -/
structure Frm (O : Nat → Prop) (w w' : World) : Prop where
  os : w'.os = w.os
  tape : w'.tape = w.tape
  output : w'.output = w.output
  size : w.heap.size ≤ w'.heap.size
  block : ∀ k, k < w.heap.size → ¬ O k → w'.heap[k]? = w.heap[k]?
theorem Frm.refl (O : Nat → Prop) (w : World) : Frm O w w := ⟨rfl, rfl, rfl, Nat.le_refl _, fun _ _ _ => rfl⟩
theorem Frm.trans {O : Nat → Prop} {a b c : World} (h : Frm O a b) (k : Frm O b c) : Frm O a c :=
  ⟨k.os.trans h.os, k.tape.trans h.tape, k.output.trans h.output, Nat.le_trans h.size k.size, fun i hi ho => (k.block i (Nat.lt_of_lt_of_le hi h.size) ho).trans (h.block i hi ho)⟩
theorem Frm.mono {O O' : Nat → Prop} {a b : World} (h : Frm O a b) (e : ∀ k, k < a.heap.size → O k → O' k) : Frm O' a b :=
  ⟨h.os, h.tape, h.output, h.size, fun i hi ho => h.block i hi (fun x => ho (e i hi x))⟩
theorem Frm.of_below {O : Nat → Prop} {a b : World} (h : Below a.heap.size a b) : Frm O a b := ⟨h.os, h.tape, h.output, h.size, fun i hi _ => h.block i hi⟩
theorem Frm.below {O : Nat → Prop} {a b : World} {N : Nat} (h : Frm O a b) (hN : N ≤ a.heap.size) (hO : ∀ k, k < N → ¬ O k) : Below N a b :=
  ⟨h.os, h.tape, h.output, h.size, fun k hk => h.block k (by omega) (hO k hk)⟩
theorem Frm.drew {O : Nat → Prop} {a b : World} (h : Frm O a b) : Frm O a b.drew := ⟨h.os, h.tape, h.output, h.size, h.block⟩
theorem Frm.alloc {O : Nat → Prop} {a b : World} (h : Frm O a b) (o : Obj) : Frm O a (b.alloc o) :=
  h.trans (Frm.of_below (bel_al (Below.refl _ _) o))
theorem Frm.set {O : Nat → Prop} {a b : World} (h : Frm O a b) {p : Addr} (hp : O p.block) (v : Value) : Frm O a (b.setCell p v) :=
  h.trans ⟨rfl, rfl, rfl, by simp [World.setCell], fun k _ hk => Below.heap_setCell _ _ _ _ (fun e => hk (e ▸ hp))⟩
theorem Frm.grown {O : Nat → Prop} {a b c : World} {row : Option Nat} (h : Frm O a b) (hg : b.grownBy c row) (hr : ∀ k, row = some k → O k) : Frm O a c :=
  h.trans ⟨hg.os, hg.tape, hg.output, hg.size, fun k hk ho => hg.block k hk (fun e => ho (hr k e.symm))⟩
theorem Frm.cell {O : Nat → Prop} {a b : World} (h : Frm O a b) {p : Addr} (hp : p.block < a.heap.size) (ho : ¬ O p.block) : b.cell? p = a.cell? p := World.cell?_of_block (h.block p.block hp ho)

/-- Whole numbers as cells. -/
def zc (l : List Int) : List Value := l.map fun x => Value.int .i64 x
theorem zc_length (l : List Int) : (zc l).length = l.length := by simp [zc]
theorem zc_snoc (l : List Int) (x : Int) : zc (l ++ [x]) = zc l ++ [.int .i64 x] := by simp [zc]
theorem zc_at {l : List Int} {j : Nat} (h : j < l.length) : (zc l)[j]? = some (.int .i64 (l[j]?.getD 0)) := by simp [zc, h]
theorem zc_one (l : List Int) : ∀ u ∈ zc l, u.oneCell' = true := fun u hu => by
  obtain ⟨x, _, rfl⟩ := List.mem_map.1 hu
  rfl
theorem owns_blk {w w' : World} {base n size : Nat} {e : TypeId} {v : Value} {xs : List Value} (h : w.ownsRow base e size v n xs) (hb : ∀ g, v.ownBlock = some g → w'.heap[g]? = w.heap[g]?) : w'.ownsRow base e size v n xs := by
  refine ⟨h.1, ?_⟩
  rcases h.2 with h2 | ⟨g, cap, cur, rfl, h2, h3, h4⟩
  · exact .inl h2
  · exact .inr ⟨g, cap, cur, rfl, h2, (hb g rfl).trans h3, h4⟩
theorem owns_base {w : World} {base base' n size : Nat} {e : TypeId} {v : Value} {xs : List Value} (h : w.ownsRow base e size v n xs) (hb : base' ≤ base) : w.ownsRow base' e size v n xs := by
  refine ⟨h.1, ?_⟩
  rcases h.2 with h2 | ⟨g, cap, cur, rfl, h2, h3, h4⟩
  · exact .inl h2
  · exact .inr ⟨g, cap, cur, rfl, by omega, h3, h4⟩
theorem owns_cells {w : World} {base n size : Nat} {e : TypeId} {v : Value} {xs : List Value} (h : w.ownsRow base e size v n xs) {k : Nat} (hk : v.ownBlock = some k) : ∃ cs, w.heap[k]? = some (.cells cs e (0, 0)) := by
  rcases h.2 with ⟨rfl, _⟩ | ⟨g, cap, cur, rfl, _, hg, _⟩
  · cases hk
  · obtain rfl : g = k := by simpa [Value.ownBlock] using hk
    exact ⟨cur, hg⟩
/-- what an owned row of whole numbers holds -/
theorem owns_hasI {w : World} {base n cap : Nat} {p : Option Addr} {l : List Int} (hm : l.length = n) {t : TypeId} (h : w.ownsRow base t 1 (.slice p n cap) n (zc l)) : HasI l p w := by
  rcases h.2 with ⟨e, rfl⟩ | ⟨g, cap, cur, e, hb, hg, h1, h2, h3, h4⟩
  · exact fun j hj => by omega
  · cases e
    refine fun j hj => ⟨g, 0, rfl, (Array.getElem?_eq_some_iff.1 hg).1, ?_⟩
    have hc := h.cellAt j (by omega)
    rw [Nat.zero_add, hc, zc_at hj]
theorem rowIs_ne {w : World} {b b' : Nat} {t t' : TypeId} {n n' : Nat} {f f' : Nat → Value} (h : w.rowIs b t n f) (h' : w.rowIs b' t' n' f') (e : t ≠ t') : b ≠ b' := by
  rintro rfl
  obtain ⟨c, hc, _⟩ := h
  obtain ⟨c', hc', _⟩ := h'
  rw [hc] at hc'
  cases hc'
  exact e rfl
theorem rowIs_owns {w : World} {b base m size : Nat} {t t' : TypeId} {n : Nat} {f : Nat → Value} {v : Value} {xs : List Value} (h : w.rowIs b t n f) (h' : w.ownsRow base t' size v m xs) (e : t ≠ t') : v.ownBlock ≠ some b := fun hk => by
  obtain ⟨cs, hcs⟩ := owns_cells h' hk
  obtain ⟨c, hc, _⟩ := h
  rw [hc] at hcs
  cases hcs
  exact e rfl
theorem Frm.heap {O : Nat → Prop} {a b c : World} (h : Frm O a b) (e : c.heap = b.heap) (e1 : c.os = b.os) (e2 : c.tape = b.tape) (e3 : c.output = b.output) : Frm O a c :=
  ⟨e1.trans h.os, e2.trans h.tape, e3.trans h.output, by rw [e]; exact h.size, fun k hk hO => by rw [e]; exact h.block k hk hO⟩
theorem Frm.drN {O : Nat → Prop} {a b : World} (h : Frm O a b) (n : Nat) : Frm O a (b.drewN n) := h.trans (Frm.of_below (bel_drN (Below.refl _ _) n))
end Go.Proofs.YtajiichehffaaaaDoor
