/- The document's tries (whensteadref3, rest): ends at a whole row, or where one was stuck already. -/
import Derived.Test.YtcmlkioaclkgnaaDoorRefH4
import Derived.Deep.RegionHeldLaw
import Derived.Deep.CutRange
namespace Go.Proofs.YtcmlkioaclkgnaaDoor
open Go.RowKit

set_option maxRecDepth 100000 in
set_option maxHeartbeats 4000000 in
theorem rest_zero (all : Bool) (h : List M.HOp) (p : Option Addr) (n cap : Nat) (pp : Option Addr) (capp X base : Nat) : RestSpec all h p n cap pp capp X base 0 := by
  intro O d x y z t q m ct L c w hs hOb hc hpre ht hnil hO htl hmk hd hcn hx hy hz0 hm hcb
  rw [show M.told t (M.best all h 0 d (M.vf [x, y, z])) = t by simp [M.best, M.told]]
  obtain rfl : m = n := by omega
  obtain ⟨w1, hw1⟩ : ∃ w1, w.alloc (.cells (tvC x y z) 46) = w1 := ⟨_, rfl⟩
  have hB1 : Below w.heap.size w w1 := hw1 ▸ bel_al (Below.refl _ _) _
  have HEND : Hid (HasI (ints t) q w1 ∧ (∃ L', SX O X (2 ^ m) L' (c + tryT 0) w1 ∧ M.Memo all h (fun e l => l ∈ L' e)) ∧ Frm O w w1) := ⟨ht.a.later hB1, ⟨L, hs.later hB1, hm⟩, Frm.of_below hB1⟩
  clear hs hc hpre ht hm hB1
  go_enter Tryd.func16, Tryd.ntmps16
  go_wp2_with fail
  go_ret
  exact ⟨q, m, ct, rfl, htl, HEND.out⟩
set_option maxRecDepth 100000 in
set_option maxHeartbeats 4000000 in
theorem rest_known (all : Bool) (h : List M.HOp) (p : Option Addr) (n cap : Nat) (pp : Option Addr) (capp X k : Nat) (O : Nat → Prop) (d x y z : Nat) (t : List Nat) (q : Option Addr) (m ct : Nat) (L : Nat → List (List Nat)) (c : Nat) (w : World) (hs : SX O X (2 ^ n) L c w) (hl : h.length = n) (ht : HasN O (ints t) q w)
    (htl : t.length = m) (hmk : m + (k + 1) = n) (hd : d < 2 ^ n) (hcn : M.cnt n d + (k + 1) = n) (hm : M.Memo all h (fun e l => l ∈ L e)) (hcb : c ≤ 70368744177664) (hin : [x, y, z] ∈ L d) :
    Calls Tryd.prog 16 #[.slice p n cap, .slice pp n capp, .pointer (some ⟨X, 0, none⟩), .slice q m ct, .int .i64 (d : Nat), .agg (tvC x y z)] w fun e w' => ∃ q' m' ct', e = .returned (.slice q' m' ct') ∧
      (M.told t (M.best all h (k + 1) d (M.vf [x, y, z]))).length = m' ∧ HasI (ints (M.told t (M.best all h (k + 1) d (M.vf [x, y, z])))) q' w' ∧
      (∃ L', SX O X (2 ^ n) L' (c + tryT (k + 1)) w' ∧ M.Memo all h (fun e l => l ∈ L' e)) ∧ Frm O w w' := by
  have hno : M.best all h (k + 1) d (M.vf [x, y, z]) = none := hm.use hin (by rw [hl]; exact hcn)
  rw [hno, show M.told t none = t from rfl]
  obtain ⟨w1, hw1⟩ : ∃ w1, w.alloc (.cells (tvC x y z) 46) = w1 := ⟨_, rfl⟩
  have hB1 : Below w.heap.size w w1 := hw1 ▸ bel_al (Below.refl _ _) _
  have b11 : Blk w1 w.heap.size (tvC x y z) 46 := hw1 ▸ Blk.new _ _ _
  have h1 := hs.later hB1
  have hcall := has_ok d x y z w1 h1 hd hcb
  rw [decide_eq_true hin] at hcall
  have v0 := b11.cell 0
  have v1 := b11.cell 1
  have v2 := b11.cell 2
  have hmn : ((m : Int) == (n : Int)) = false := by simp; omega
  have ht1 := ht.a.later hB1
  clear hin b11
  go_enter Tryd.func16, Tryd.ntmps16
  go_wp2_with fail
  refine hcall.mono ?_
  rintro e w2 ⟨rfl, hB2⟩
  have HEND : Hid (HasI (ints t) q w2 ∧ (∃ L', SX O X (2 ^ n) L' (c + tryT (k + 1)) w2 ∧ M.Memo all h (fun e l => l ∈ L' e)) ∧ Frm O w w2) := ⟨ht1.later hB2, ⟨L, (h1.later hB2).mono (Nat.le_add_right _ _), hm⟩, Frm.of_below (bel_on hB1 hB2)⟩
  clear hcall hB2 hB1 ht1 h1 hs hm ht v0 v1 v2
  go_wp2_with fail
  go_ret
  exact ⟨q, m, ct, rfl, htl, HEND.out⟩
end Go.Proofs.YtcmlkioaclkgnaaDoor
