/- A transaction frees an item; it reads or writes one (package lock, free, act). -/
import Derived.Test.YtcjodlgkmbmcgaaDoorLo2
import Derived.Deep.RegionLaw
import Derived.Deep.AppendLies
import Derived.WalkMore
namespace Go.Proofs.YtcjodlgkmbmcgaaDoor
open Go.RowKit
set_option maxRecDepth 100000 in
set_option maxHeartbeats 2000000 in
theorem free_none {O : Nat → Prop} {S : Nat} {s : M.Lk} (t o : Nat) (w : World) (h : TV O S s w) (hle : ∀ x y, s.hd x y ≤ 3) (ht : t < 5) (ho : o < 4) (h0 : s.hd t o = 0) :
    Calls Tryd.prog 25 #[.pointer (some ⟨S, 0, none⟩), .int .i64 (t : Nat), .int .i64 (o : Nat)] w fun e w' => e = .returned (terr 5) ∧ TV O S s w' ∧ Frm O w w' := by
  have HT : Hid (TV O S s w) := h
  obtain ⟨v, h1, _⟩ := h
  have g0 := h1.sh ho
  have g1 := h1.ow ho
  have l1 := h1.lt
  have hlt : M.shS s o ||| M.owS s o < 32 := Nat.or_lt_two_pow (n := 5) (M.shS_lt s o) (M.owS_lt s o)
  have hh := fun w' => has_any (M.shS s o ||| M.owS s o) t w' (by omega) (by omega)
  rw [M.any_has ht (hle t o), decide_eq_false (by simpa using h0)] at hh
  have hor := i64_or_nat (M.shS s o) (M.owS s o) (by have := M.shS_lt s o; omega) (by have := M.owS_lt s o; omega)
  rw [terr_ne (by decide)]
  obtain ⟨x3, hx3⟩ : ∃ x : Nat, M.shS s o ||| M.owS s o = x := ⟨_, rfl⟩
  rw [hx3] at hor hh
  obtain ⟨x1, hx1⟩ : ∃ x : Nat, M.shS s o = x := ⟨_, rfl⟩
  obtain ⟨x2, hx2⟩ : ∃ x : Nat, M.owS s o = x := ⟨_, rfl⟩
  rw [hx1] at g0 hor
  rw [hx2] at g1 hor
  have hoi : (o : Int) < 4 := by omega
  clear h1 hx1 hx2 hx3 h0 hlt hle
  go_enter Tryd.func25, Tryd.ntmps25
  go_wp2_with fail
  go_big_quiet ((go_at_call 41; exact Calls.quiet_of_same ((hh _).mono (fun e w' h => ⟨h.1, h.2.symm⟩))))
  go_wp2_with fail
  go_ret
  exact ⟨rfl, HT.out.below (bel_drN (Below.refl _ _) _), (Frm.refl _ _).drN _⟩
set_option maxRecDepth 100000 in
set_option maxHeartbeats 2000000 in
theorem free_ok {O : Nat → Prop} {S : Nat} {s : M.Lk} (t o : Nat) (w : World) (h : TV O S s w) (hle : ∀ x y, s.hd x y ≤ 3) (ht : t < 5) (ho : o < 4) (h0 : s.hd t o ≠ 0) :
    Calls Tryd.prog 25 #[.pointer (some ⟨S, 0, none⟩), .int .i64 (t : Nat), .int .i64 (o : Nat)] w fun e w' => e = .returned (terr 0) ∧ TV O S (M.sFree s t o) w' ∧ Frm O w w' := by
  have HT : Hid (TV O S s w) := h
  obtain ⟨v, h1, _⟩ := h
  have g0 := h1.sh ho
  have g1 := h1.ow ho
  have l1 := h1.lt
  have hlt : M.shS s o ||| M.owS s o < 32 := Nat.or_lt_two_pow (n := 5) (M.shS_lt s o) (M.owS_lt s o)
  have hh := fun w' => has_any (M.shS s o ||| M.owS s o) t w' (by omega) (by omega)
  rw [M.any_has ht (hle t o), decide_eq_true (by simpa using h0)] at hh
  have hor := i64_or_nat (M.shS s o) (M.owS s o) (by have := M.shS_lt s o; omega) (by have := M.owS_lt s o; omega)
  rw [terr_zero]
  obtain ⟨x3, hx3⟩ : ∃ x : Nat, M.shS s o ||| M.owS s o = x := ⟨_, rfl⟩
  rw [hx3] at hor hh
  obtain ⟨x1, hx1⟩ : ∃ x : Nat, M.shS s o = x := ⟨_, rfl⟩
  obtain ⟨x2, hx2⟩ : ∃ x : Nat, M.owS s o = x := ⟨_, rfl⟩
  rw [hx1] at g0 hor
  rw [hx2] at g1 hor
  have hoi : (o : Int) < 4 := by omega
  clear h1 hx1 hx2 hx3 h0 hlt hle
  go_enter Tryd.func25, Tryd.ntmps25
  go_wp2_with fail
  go_big_quiet ((go_at_call 41; exact Calls.quiet_of_same ((hh _).mono (fun e w' h => ⟨h.1, h.2.symm⟩))))
  obtain ⟨w0, hw0⟩ : ∃ w0, w.drewN nq = w0 := ⟨_, rfl⟩
  have hF0 : Frm O w w0 := by rw [← hw0]; exact (Frm.refl O w).drN _
  obtain ⟨v, h1, h2⟩ : TV O S s w0 := by rw [← hw0]; exact HT.out.below (bel_drN (Below.refl _ _) _)
  rw [hw0]
  clear hw0 g0 g1 hor hh
  have g0 := h1.sh ho
  have g1 := h1.ow ho
  have g2 := h1.freed
  have l2 := h1.lt
  have j0 := h1.blk.frozen (o * 2)
  have j1 := h1.blk.frozen (o * 2 + 1)
  have j2 := h1.blk.frozen 23
  have hor2 := i64_or_nat (M.frS s) (1 <<< t) (by have := M.frS_lt s; omega) (one_lt ht)
  obtain ⟨r1, hr1, _, hr1b⟩ := i64_andNot_l (M.shS s o) (1 <<< t) (by have := M.shS_lt s o; omega) (one_lt ht)
  obtain ⟨r2, hr2, _, hr2b⟩ := i64_andNot_l (M.owS s o) (1 <<< t) (by have := M.owS_lt s o; omega) (one_lt ht)
  have hsh : IntKind.i64.wrap (2 ^ t) = ((1 <<< t : Nat) : Int) := i64_shl t (by omega)
  have R2 := h1.free ht ho hr1b hr2b
  have FF : Frm O w (((w0.setCell ⟨S, o * 2, none⟩ (.int .i64 (r1 : Nat))).setCell ⟨S, o * 2 + 1, none⟩ (.int .i64 (r2 : Nat))).setCell ⟨S, 23, none⟩ (.int .i64 (M.frS s ||| 1 <<< t : Nat))) :=
    ((hF0.set (p := ⟨S, o * 2, none⟩) h2.1 _).set (p := ⟨S, o * 2 + 1, none⟩) h2.1 _).set (p := ⟨S, 23, none⟩) h2.1 _
  have HH : Hid (TV O S (M.sFree s t o) _ ∧ Frm O w _) := ⟨⟨v, R2, h2⟩, FF⟩
  obtain ⟨x5, hx5⟩ : ∃ x : Nat, M.frS s ||| 1 <<< t = x := ⟨_, rfl⟩
  rw [hx5] at hor2 HH
  obtain ⟨q, hq⟩ : ∃ q : Nat, 1 <<< t = q := ⟨_, rfl⟩
  obtain ⟨x1, hx1⟩ : ∃ x : Nat, M.shS s o = x := ⟨_, rfl⟩
  obtain ⟨x2, hx2⟩ : ∃ x : Nat, M.owS s o = x := ⟨_, rfl⟩
  obtain ⟨x4, hx4⟩ : ∃ x : Nat, M.frS s = x := ⟨_, rfl⟩
  rw [hx1] at g0 hr1
  rw [hx2] at g1 hr2
  rw [hx4] at g2 hor2
  rw [hq] at hr1 hr2 hor2 hsh
  clear h1 hx1 hx2 hx4 hx5 hq R2 FF hr1b hr2b h2
  go_wp2_with fail
  go_region
  go_wp2_with fail
  go_region
  go_wp2_with fail
  go_region
  go_wp2_with fail
  go_ret
  exact ⟨rfl, HH.out.1.heap rfl, HH.out.2.heap rfl rfl rfl rfl⟩
end Go.Proofs.YtcjodlgkmbmcgaaDoor
