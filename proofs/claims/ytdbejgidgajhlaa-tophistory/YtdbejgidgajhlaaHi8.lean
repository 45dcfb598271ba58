/- How the row goes on (package hist, find): ends at a whole row, or where it is known that no row goes on. -/
import Derived.Test.YtdbejgidgajhlaaHi7
import Derived.Deep.MidRow
namespace Go.Proofs.Ytdbejgidgajhlaa
open Go.RowKit

abbrev opsL (d : Nat) : List Value := [.bool (tb d 0), .bool (tb d 1), .bool (tb d 2), .bool (tb d 3), .bool (tb d 4), .bool (tb d 5), .bool (tb d 6), .bool (tb d 7), .bool (tb d 8), .bool (tb d 9)]
theorem ops_range {W : World} {B d : Nat} {t : TypeId} (h : Blk W B (opsC d) t) : W.rangeAt B 0 (opsL d) := fun j v hv => by
  have := h.cell j
  rw [Nat.zero_add, this]
  simpa using hv
theorem ops_info (d : Nat) : (Try.prog.info? 49).map (·.size) = some (opsL d).length := by kernel_rfl
/-- What a try of k more does, whatever was tried ahead of it. -/
def FindSpec (all : Bool) (h : List M.HOp) (p : Option Addr) (n cap S base k : Nat) : Prop :=
  ∀ (O : Nat → Prop) (d x y z : Nat) (t : List Nat) (L : Nat → List (List Nat)) (c : Nat) (w : World), SV O S (.slice p n cap) (bfV all) t L c w → (∀ b, O b → base ≤ b) → HasOb base (hz h) p w → (∀ b, w.heap.size ≤ b → O b) →
    t.length + k = n → d < 1024 → M.cnt n d + k = n → x < 1000001 → y < 1000001 → z < 1000001 → M.Memo all h (fun e l => l ∈ L e) → c + tryT k ≤ 70368744177664 →
    Calls Try.prog 15 #[.pointer (some ⟨S, 0, none⟩), opsV d, vaV x y z] w fun e w' => e = .returned (.bool (M.best all h k d (M.vf [x, y, z])).isSome) ∧
      (∃ L', SV O S (.slice p n cap) (bfV all) (M.told t (M.best all h k d (M.vf [x, y, z]))) L' (c + tryT k) w' ∧ M.Memo all h (fun e l => l ∈ L' e)) ∧ Frm O w w'
set_option maxRecDepth 100000 in
set_option maxHeartbeats 4000000 in
theorem find_zero (all : Bool) (h : List M.HOp) (p : Option Addr) (n cap S base : Nat) : FindSpec all h p n cap S base 0 := by
  intro O d x y z t L c w hs hOb hc hO ht hd hcn hx hy hz hm hcb
  rw [show M.told t (M.best all h 0 d (M.vf [x, y, z])) = t by simp [M.best, M.told]]
  obtain ⟨v, Mb, ib, h1⟩ := hs
  obtain ⟨w1, hw1⟩ : ∃ w1, (w.alloc (.cells (opsC d) 49)).alloc (.cells (vaC x y z) 51) = w1 := ⟨_, rfl⟩
  have hB1 : Below w.heap.size w w1 := hw1 ▸ bel_al (bel_al (Below.refl _ _) _) _
  have h2 := h1.later hB1
  have HEND : Hid (∀ k, (∃ L', SV O S (.slice p n cap) (bfV all) t L' (c + 0) (w1.drewN k) ∧ M.Memo all h (fun e l => l ∈ L' e)) ∧ Frm O w (w1.drewN k)) := fun k => ⟨⟨L, ⟨v, Mb, ib, h2.later (bel_drN (Below.refl _ _) k)⟩, hm⟩, Frm.of_below (bel_drN hB1 k)⟩
  obtain ⟨m, hm9⟩ : ∃ m, t.length = m := ⟨_, rfl⟩
  rw [hm9] at ht
  obtain rfl : m = n := by omega
  have hrow := h1.row
  obtain ⟨pv, cv, rfl⟩ := owns_slice hrow
  rw [hm9] at h2
  have q0 := h2.blk.cell 0
  have q2 := h2.blk.cell 2
  have hSl := h2.blk.lt
  clear h1 h2 hB1 hc hO hm hrow hOb
  go_enter Try.func15, Try.ntmps15
  go_wp2_with fail
  go_big_quiet (fail)
  go_wp2_with fail
  go_ret
  exact ⟨rfl, HEND.out _⟩
set_option maxRecDepth 100000 in
set_option maxHeartbeats 4000000 in
/-- it is known that no row goes on -/
theorem find_known (all : Bool) (h : List M.HOp) (p : Option Addr) (n cap S k : Nat) (O : Nat → Prop) (d x y z : Nat) (t : List Nat) (L : Nat → List (List Nat)) (c : Nat) (w : World) (hs : SV O S (.slice p n cap) (bfV all) t L c w)
    (hn : h.length = n) (ht : t.length + (k + 1) = n) (hd : d < 1024) (hcn : M.cnt n d + (k + 1) = n) (hx : x < 1000001) (hy : y < 1000001) (hz : z < 1000001) (hm : M.Memo all h (fun e l => l ∈ L e)) (hin : [x, y, z] ∈ L d) :
    Calls Try.prog 15 #[.pointer (some ⟨S, 0, none⟩), opsV d, vaV x y z] w fun e w' => e = .returned (.bool (M.best all h (k + 1) d (M.vf [x, y, z])).isSome) ∧
      (∃ L', SV O S (.slice p n cap) (bfV all) (M.told t (M.best all h (k + 1) d (M.vf [x, y, z]))) L' (c + tryT (k + 1)) w' ∧ M.Memo all h (fun e l => l ∈ L' e)) ∧ Frm O w w' := by
  have hno : M.best all h (k + 1) d (M.vf [x, y, z]) = none := hm.use hin (by rw [hn]; exact hcn)
  rw [hno]
  obtain ⟨v, Mb, ib, h1⟩ := hs
  obtain ⟨w1, hw1⟩ : ∃ w1, (w.alloc (.cells (opsC d) 49)).alloc (.cells (vaC x y z) 51) = w1 := ⟨_, rfl⟩
  have hB1 : Below w.heap.size w w1 := hw1 ▸ bel_al (bel_al (Below.refl _ _) _) _
  have s1 : w1.heap.size = w.heap.size + 2 := by subst hw1; simp
  have b4 : Blk w1 w.heap.size (opsC d) 49 := hw1 ▸ (Blk.new _ _ _).alloc _
  have b5 : Blk w1 (w.heap.size + 1) (vaC x y z) 51 := by
    have := Blk.new (w.alloc (.cells (opsC d) 49)) (vaC x y z) 51
    rw [hw1] at this
    simpa using this
  have h2 := h1.later hB1
  have HEND : Hid (∀ w', Below w1.heap.size w1 w' → (∃ L', SV O S (.slice p n cap) (bfV all) (M.told t none) L' (c + tryT (k + 1)) w' ∧ M.Memo all h (fun e l => l ∈ L' e)) ∧ Frm O w w') := fun w' hb => ⟨⟨L, ⟨v, Mb, ib, (h2.later hb).mono (Nat.le_add_right _ _)⟩, hm⟩, Frm.of_below (bel_on hB1 hb)⟩
  obtain ⟨m, hm9⟩ : ∃ m, t.length = m := ⟨_, rfl⟩
  rw [hm9] at ht
  have hrow := h1.row
  obtain ⟨pv, cv, rfl⟩ := owns_slice hrow
  rw [hm9] at h2
  have hib : ∃ B, ib d = some B := by
    cases e : ib d with
    | some B => exact ⟨B, rfl⟩
    | none => rw [h1.kn d e] at hin; cases hin
  obtain ⟨B, hib⟩ := hib
  have hmk : ∀ X, Below w1.heap.size w1 X → X.cell? ⟨S, 3, none⟩ = some (.map (some Mb)) ∧
      X.rangeAt w.heap.size 0 (opsL d) ∧
      (X.cell? ⟨w.heap.size + 1, 0, none⟩ = some (.int .i64 (x : Nat)) ∧ X.cell? ⟨w.heap.size + 1, 1, none⟩ = some (.int .i64 (y : Nat)) ∧ X.cell? ⟨w.heap.size + 1, 2, none⟩ = some (.int .i64 (z : Nat))) ∧
      (Instr.lookup 44 (.map (some Mb)) (.agg (opsL d).toArray) false).run Try.prog X = .ok (.map (some B)) X ∧
      (Instr.lookup 56 (.map (some B)) (vaV x y z) true).run Try.prog X = .ok (.tuple #[.agg #[], .bool true]) X := fun X hX => by
    have g4 := b4.below hX b4.lt
    have g5 := b5.below hX b5.lt
    have g := h2.later hX
    have l1 := om_look g.om hd
    have l2 := kv_look (g.kv d B hib) (x := x) (y := y) (z := z) (by omega) (by omega) (by omega)
    rw [hib] at l1
    rw [decide_eq_true hin] at l2
    exact ⟨g.blk.cell 3, ops_range g4, ⟨g5.cell 0, g5.cell 1, g5.cell 2⟩, l1, l2⟩
  have q0 := h2.blk.cell 0
  have q2 := h2.blk.cell 2
  have hSl := h2.blk.lt
  have hmn : ((m : Int) == (n : Int)) = false := by simp; omega
  have q3 := (hmk w1 (Below.refl _ _)).1
  have hou := op_under
  have hoi := ops_info d
  clear h1 h2 hB1 hm b4 b5 hrow hib
  go_enter Try.func15, Try.ntmps15
  go_wp2_with fail
  go_big_quiet (fail)
  go_wp2_with fail
  obtain ⟨wq, hwq⟩ : ∃ wq, w1.drewN nq = wq := ⟨_, rfl⟩
  have hBq : Below w1.heap.size w1 wq := hwq ▸ bel_drN (Below.refl _ _) _
  have hmq := fun X (hX : Below wq.heap.size wq X) => hmk X (bel_on hBq hX)
  simp only [hwq]
  clear hmk hwq
  go_cut [7, 8] from 24 to 34 (fun _ u w' => u = .bool true ∧ Below w1.heap.size w1 w')
  case first =>
    go_region_held3 (fun X => X.cell? ⟨S, 3, none⟩ = some (.map (some Mb)) ∧
      X.rangeAt w.heap.size 0 (opsL d) ∧
      (X.cell? ⟨w.heap.size + 1, 0, none⟩ = some (.int .i64 (x : Nat)) ∧ X.cell? ⟨w.heap.size + 1, 1, none⟩ = some (.int .i64 (y : Nat)) ∧ X.cell? ⟨w.heap.size + 1, 2, none⟩ = some (.int .i64 (z : Nat))) ∧
      (Instr.lookup 44 (.map (some Mb)) (.agg (opsL d).toArray) false).run Try.prog X = .ok (.map (some B)) X ∧
      (Instr.lookup 56 (.map (some B)) (vaV x y z) true).run Try.prog X = .ok (.tuple #[.agg #[], .bool true]) X) (exact hmq _ (by repeat first | exact Below.refl _ _ | apply bel_al | apply Below.drew | apply bel_drN)) (fail)
    all_goals (go_wp2_with fail; go_meet; all_goals exact ⟨rfl, by repeat first | exact hBq | apply bel_al | apply Below.drew | apply bel_drN⟩)
  case rest =>
    obtain ⟨rfl, hBc⟩ := hcut
    clear hmq hou hoi
    go_wp2_with fail
    go_ret
    exact ⟨rfl, HEND.out _ hBc⟩
end Go.Proofs.Ytdbejgidgajhlaa
