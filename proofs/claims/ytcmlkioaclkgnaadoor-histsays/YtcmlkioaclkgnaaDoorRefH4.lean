/- What the document's tries keep (whensteadref3, rest). No walk. -/
import Derived.Test.YtcmlkioaclkgnaaDoorRefH3
import Derived.Test.YtcmlkioaclkgnaaDoorRefWit
import Derived.Test.YtcmlkioaclkgnaaDoorRefSet
import Derived.Test.YtcmlkioaclkgnaaDoorHi7
import Derived.Test.YtcmlkioaclkgnaaDoorAppAny
namespace Go.Proofs.YtcmlkioaclkgnaaDoor
open Go.RowKit

/-- A slice of numbers that lies in no block of O. -/
def HasN (O : Nat → Prop) (zs : List Int) (p : Option Addr) (w : World) : Prop := ∀ j, j < zs.length → ∃ b off, p = some ⟨b, off, none⟩ ∧ b < w.heap.size ∧ ¬ O b ∧ w.cell? ⟨b, off + j, none⟩ = some (.int .i64 (zs[j]?.getD 0))
theorem HasN.a {O : Nat → Prop} {zs : List Int} {p : Option Addr} {w : World} (h : HasN O zs p w) : HasI zs p w := fun j hj => by
  obtain ⟨b, off, h1, h2, _, h4⟩ := h j hj
  exact ⟨b, off, h1, h2, h4⟩
theorem HasN.frm {O : Nat → Prop} {zs : List Int} {p : Option Addr} {w w' : World} (h : HasN O zs p w) (hf : Frm O w w') : HasN O zs p w' := fun j hj => by
  obtain ⟨b, off, h1, h2, h3, h4⟩ := h j hj
  exact ⟨b, off, h1, by have := hf.size; omega, h3, (hf.cell (p := ⟨b, off + j, none⟩) h2 h3).trans h4⟩
/-- A slice of numbers below N. -/
def HasL (N : Nat) (zs : List Int) (p : Option Addr) (w : World) : Prop := ∀ j, j < zs.length → ∃ b off, p = some ⟨b, off, none⟩ ∧ b < N ∧ b < w.heap.size ∧ w.cell? ⟨b, off + j, none⟩ = some (.int .i64 (zs[j]?.getD 0))
theorem HasL.later {N : Nat} {zs : List Int} {p : Option Addr} {w w' : World} (h : HasL N zs p w) (hb : Below N w w') : HasL N zs p w' := fun j hj => by
  obtain ⟨b, off, h1, h2, h3, h4⟩ := h j hj
  exact ⟨b, off, h1, h2, by have := hb.size; omega, (hb.cell (p := ⟨b, off + j, none⟩) h2).trans h4⟩
theorem HasL.a {N : Nat} {zs : List Int} {p : Option Addr} {w : World} (h : HasL N zs p w) : HasI zs p w := fun j hj => by
  obtain ⟨b, off, h1, h2, h3, h4⟩ := h j hj
  exact ⟨b, off, h1, h3, h4⟩
theorem HasI.l {zs : List Int} {p : Option Addr} {w : World} (h : HasI zs p w) : HasL w.heap.size zs p w := fun j hj => by
  obtain ⟨b, off, h1, h2, h3⟩ := h j hj
  exact ⟨b, off, h1, h2, h2, h3⟩
theorem HasL.mono {N N' : Nat} {zs : List Int} {p : Option Addr} {w : World} (h : HasL N zs p w) (hN : N ≤ N') : HasL N' zs p w := fun j hj => by
  obtain ⟨b, off, h1, h2, h3, h4⟩ := h j hj
  exact ⟨b, off, h1, by omega, h3, h4⟩
/-- what must stand ahead of each op -/
def preL (all : Bool) (h : List M.HOp) : List Nat := (List.range h.length).map fun i => M.preS all h i
theorem preL_len (all : Bool) (h : List M.HOp) : (preL all h).length = h.length := by simp [preL]
theorem preL_at (all : Bool) (h : List M.HOp) {i : Nat} (hi : i < h.length) : M.row (preL all h) i = M.preS all h i := by
  unfold preL M.row
  simp [hi]
theorem preS_lt (all : Bool) (h : List M.HOp) (i : Nat) : M.preS all h i < 2 ^ h.length := by
  apply Nat.lt_pow_two_of_testBit
  intro j hj
  cases e : (M.preS all h i).testBit j with
  | false => rfl
  | true => have := ((M.preS_bit all h i j).1 e).1; omega
/-- the blocks where one was stuck, but for one of a call's own -/
def O9 (O : Nat → Prop) (N : Nat) : Nat → Prop := fun b => O b ∧ b ≠ N
/-- what holds when op i is looked at -/
structure FR (all : Bool) (h : List M.HOp) (O : Nat → Prop) (X N : Nat) (c k d x y z : Nat) (w : World) (i : Nat) (wr : World) : Prop where
  ex : ∃ L' c', SX (O9 O w.heap.size) X N L' c' wr ∧ M.Memo all h (fun e l => l ∈ L' e) ∧ c' ≤ c + i * tryT k
  frm : Frm O w wr
  b11 : Blk wr w.heap.size (tvC x y z) 46
  no : ∀ j, j < i → M.goB all h d (M.vf [x, y, z]) j = true → M.best all h k (d ||| 2 ^ j) (M.setv (M.vf [x, y, z]) (M.hop h j).ob (M.hop h j).va) = none
section
variable {all : Bool} {h : List M.HOp} {O : Nat → Prop} {X N : Nat} {c k d x y z : Nat} {w : World} {i : Nat} {wr wr' : World}
theorem FR.later (f : FR all h O X N c k d x y z w i wr) (hb : Below wr.heap.size wr wr') : FR all h O X N c k d x y z w i wr' := by
  obtain ⟨L', c', h1, h2, h3⟩ := f.ex
  exact ⟨⟨L', c', h1.later hb, h2, h3⟩, f.frm.trans (Frm.of_below hb), f.b11.below hb f.b11.lt, f.no⟩
theorem FR.skip (f : FR all h O X N c k d x y z w i wr) (hg : M.goB all h d (M.vf [x, y, z]) i = false) : FR all h O X N c k d x y z w (i + 1) wr := by
  obtain ⟨L', c', h1, h2, h3⟩ := f.ex
  refine ⟨⟨L', c', h1, h2, by rw [Nat.add_mul]; omega⟩, f.frm, f.b11, fun j hj hgo => ?_⟩
  by_cases e : j = i
  · subst e; rw [hg] at hgo; cases hgo
  · exact f.no j (by omega) hgo
theorem FR.bel {base : Nat} (f : FR all h O X N c k d x y z w i wr) (hO : ∀ b, O b → base ≤ b) (hb : base ≤ w.heap.size) : Below base w wr := f.frm.below hb (fun k hk ho => by have := hO k ho; omega)
theorem FR.tried (f : FR all h O X N c k d x y z w i wr) {L' : Nat → List (List Nat)} {c' : Nat} (hs : SX (O9 O w.heap.size) X N L' c' wr') (hm : M.Memo all h (fun e l => l ∈ L' e)) (hc : c' ≤ c + i * tryT k + tryT k) (hf : Frm O w wr')
    (hf1 : Frm (O9 O w.heap.size) wr wr') (hn : M.best all h k (d ||| 2 ^ i) (M.setv (M.vf [x, y, z]) (M.hop h i).ob (M.hop h i).va) = none) : FR all h O X N c k d x y z w (i + 1) wr' := by
  refine ⟨⟨L', c', hs, hm, by rw [Nat.add_mul]; omega⟩, hf, (hf1.block _ f.b11.lt (fun e => e.2 rfl)).trans f.b11, fun j hj hgo => ?_⟩
  by_cases e : j = i
  · subst e; exact hn
  · exact f.no j (by omega) hgo
end
theorem tri_get (x y z i : Nat) (hi : i < 3) : (tvC x y z)[i]? = some (.int .i64 ((M.vf [x, y, z] i : Nat) : Int)) := by
  match i, hi with
  | 0, _ => rfl
  | 1, _ => rfl
  | 2, _ => rfl
theorem tri_set (x y z o u : Nat) (ho : o < 3) : (tvC x y z).setIfInBounds o (.int .i64 ((u : Nat) : Int)) = tvC (nv o u 0 x) (nv o u 1 y) (nv o u 2 z) := vaC_set x y z o u ho
/-- What a try of k more does, whatever was tried ahead of it. -/
def RestSpec (all : Bool) (h : List M.HOp) (p : Option Addr) (n cap : Nat) (pp : Option Addr) (capp X base k : Nat) : Prop :=
  ∀ (O : Nat → Prop) (d x y z : Nat) (t : List Nat) (q : Option Addr) (m ct : Nat) (L : Nat → List (List Nat)) (c : Nat) (w : World), SX O X (2 ^ n) L c w → (∀ b, O b → base ≤ b) → HasOb base (hz h) p w → HasL base (ints (preL all h)) pp w → HasN O (ints t) q w → (q = none → m = 0 ∧ ct = 0) → (∀ b, w.heap.size ≤ b → O b) →
    t.length = m → m + k = n → d < 2 ^ n → M.cnt n d + k = n → x < 1000001 → y < 1000001 → z < 1000001 → M.Memo all h (fun e l => l ∈ L e) → c + tryT k ≤ 4398046511104 →
    Calls Tryd.prog 16 #[.slice p n cap, .slice pp n capp, .pointer (some ⟨X, 0, none⟩), .slice q m ct, .int .i64 (d : Nat), .agg (tvC x y z)] w fun e w' => ∃ q' m' ct', e = .returned (.slice q' m' ct') ∧
      (M.told t (M.best all h k d (M.vf [x, y, z]))).length = m' ∧ HasI (ints (M.told t (M.best all h k d (M.vf [x, y, z])))) q' w' ∧
      (∃ L', SX O X (2 ^ n) L' (c + tryT k) w' ∧ M.Memo all h (fun e l => l ∈ L' e)) ∧ Frm O w w'
end Go.Proofs.YtcmlkioaclkgnaaDoor
