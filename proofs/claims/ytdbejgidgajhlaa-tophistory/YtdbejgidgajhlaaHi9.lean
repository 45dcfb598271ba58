/- What a round of a try keeps (package hist, find). No walk. -/
import Derived.Test.YtdbejgidgajhlaaHi8
namespace Go.Proofs.Ytdbejgidgajhlaa
open Go.RowKit

theorem mayCome_ok (all : Bool) (h : List M.HOp) (p : Option Addr) (n cap S Mb : Nat) (v : Value) (i d x y z : Nat) (w : World) (hl : h.length = n) (hk : HOk h) (hc : HasO (hz h) p w) (hS : Blk w S #[.slice p n cap, bfV all, v, .map (some Mb)] 46) (hi : i < n) :
    Calls Try.prog 18 #[.pointer (some ⟨S, 0, none⟩), .int .i64 (i : Nat), opsV d, vaV x y z] w fun e w' => e = .returned (.bool (M.goB all h d (M.vf [x, y, z]) i)) ∧ Below w.heap.size w w' := by
  cases all
  · exact mayCome_there h p n cap S Mb v i d x y z w hl hk hc hS hi
  · exact mayCome_over h p n cap S Mb v i d x y z w hl hk hc hS hi
theorem SV.mono {O : Nat → Prop} {S c c' : Nat} {hv fv : Value} {t : List Nat} {L : Nat → List (List Nat)} {w : World} (h : SV O S hv fv t L c w) (hc : c ≤ c') : SV O S hv fv t L c' w := by
  obtain ⟨v, Mb, ib, h⟩ := h
  exact ⟨v, Mb, ib, h.mono hc⟩
theorem blk_two (W : World) (a b : Array Value) (s u : TypeId) : Blk ((W.alloc (.cells a s)).alloc (.cells b u)).drew W.heap.size a s ∧ Blk ((W.alloc (.cells a s)).alloc (.cells b u)).drew (W.heap.size + 1) b u ∧ Below W.heap.size W ((W.alloc (.cells a s)).alloc (.cells b u)).drew := by
  refine ⟨(Blk.new W a s).alloc _, ?_, (bel_al (bel_al (Below.refl _ _) _) _).drew⟩
  have := Blk.new (W.alloc (.cells a s)) b u
  rw [show (W.alloc (.cells a s)).heap.size = W.heap.size + 1 by simp] at this
  exact this
theorem infoIh : (Try.prog.info? 3).map (fun i => (i.zero, i.size, i.bytes)) = some (some (.int .i64 0), 1, 8) := by kernel_rfl
theorem infoIh_parts {P : Program} {t : TypeId} {z : Value} {s b : Nat} (h : (P.info? t).map (fun i => (i.zero, i.size, i.bytes)) = some (some z, s, b)) : ∃ i, P.info? t = some i ∧ i.zero = some z ∧ i.size = s ∧ i.bytes = b := by
  obtain ⟨i, hi, hzz⟩ := Option.map_eq_some_iff.1 h
  simp only [Prod.mk.injEq] at hzz
  exact ⟨i, hi, hzz.1, hzz.2.1, hzz.2.2⟩
/-- the blocks of a search, but for two of a call's own -/
def O1 (O : Nat → Prop) (N : Nat) : Nat → Prop := fun b => O b ∧ b ≠ N ∧ b ≠ N + 1
/-- what holds when op i is looked at -/
structure FI (all : Bool) (h : List M.HOp) (O : Nat → Prop) (S : Nat) (hv : Value) (t : List Nat) (c k d x y z : Nat) (w : World) (i : Nat) (wr : World) : Prop where
  ex : ∃ L' c', SV (O1 O w.heap.size) S hv (bfV all) t L' c' wr ∧ M.Memo all h (fun e l => l ∈ L' e) ∧ c' ≤ c + i * tryT k
  frm : Frm O w wr
  b4 : Blk wr w.heap.size (opsC d) 49
  b5 : Blk wr (w.heap.size + 1) (vaC x y z) 51
  no : ∀ j, j < i → M.goB all h d (M.vf [x, y, z]) j = true → M.best all h k (d ||| 2 ^ j) (M.setv (M.vf [x, y, z]) (M.hop h j).ob (M.hop h j).va) = none
section
variable {all : Bool} {h : List M.HOp} {O : Nat → Prop} {S : Nat} {hv : Value} {t : List Nat} {c k d x y z : Nat} {w : World} {i : Nat} {wr wr' : World}
theorem FI.later (f : FI all h O S hv t c k d x y z w i wr) (hb : Below wr.heap.size wr wr') : FI all h O S hv t c k d x y z w i wr' := by
  obtain ⟨L', c', h1, h2, h3⟩ := f.ex
  exact ⟨⟨L', c', h1.later hb, h2, h3⟩, f.frm.trans (Frm.of_below hb), f.b4.below hb f.b4.lt, f.b5.below hb f.b5.lt, f.no⟩
theorem FI.skip (f : FI all h O S hv t c k d x y z w i wr) (hg : M.goB all h d (M.vf [x, y, z]) i = false) : FI all h O S hv t c k d x y z w (i + 1) wr := by
  obtain ⟨L', c', h1, h2, h3⟩ := f.ex
  refine ⟨⟨L', c', h1, h2, by rw [Nat.add_mul]; omega⟩, f.frm, f.b4, f.b5, fun j hj hgo => ?_⟩
  by_cases e : j = i
  · subst e; rw [hg] at hgo; cases hgo
  · exact f.no j (by omega) hgo
theorem FI.has {base : Nat} {p : Option Addr} (f : FI all h O S hv t c k d x y z w i wr) (hc : HasOb base (hz h) p w) (hO : ∀ b, O b → base ≤ b) (hb : base ≤ w.heap.size) : HasOb base (hz h) p wr :=
  hc.later (f.frm.below hb (fun k hk ho => by have := hO k ho; omega)) (Nat.le_refl _)
/-- what holds behind a try that found none -/
theorem FI.tried (f : FI all h O S hv t c k d x y z w i wr) {L' : Nat → List (List Nat)} {c' : Nat} (hs : SV (O1 O w.heap.size) S hv (bfV all) t L' c' wr') (hm : M.Memo all h (fun e l => l ∈ L' e)) (hc : c' ≤ c + i * tryT k + tryT k) (hf : Frm O w wr')
    (hf1 : Frm (O1 O w.heap.size) wr wr') (hn : M.best all h k (d ||| 2 ^ i) (M.setv (M.vf [x, y, z]) (M.hop h i).ob (M.hop h i).va) = none) : FI all h O S hv t c k d x y z w (i + 1) wr' := by
  refine ⟨⟨L', c', hs, hm, by rw [Nat.add_mul]; omega⟩, hf, (hf1.block _ f.b4.lt (fun e => e.2.1 rfl)).trans f.b4, (hf1.block _ f.b5.lt (fun e => e.2.2 rfl)).trans f.b5, fun j hj hgo => ?_⟩
  by_cases e : j = i
  · subst e; exact hn
  · exact f.no j (by omega) hgo
end
end Go.Proofs.Ytdbejgidgajhlaa
