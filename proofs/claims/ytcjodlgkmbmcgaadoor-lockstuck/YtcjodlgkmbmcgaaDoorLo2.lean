/- A transaction locks an item, or waits for that (package lock, lock). -/
import Derived.Test.YtcjodlgkmbmcgaaDoorLo1
import Derived.BigRegion
namespace Go.Proofs.YtcjodlgkmbmcgaaDoor
open Go.RowKit
set_option maxRecDepth 100000 in
set_option maxHeartbeats 2000000 in
theorem lock_state {O : Nat → Prop} {S : Nat} {s : M.Lk} (k t o : Nat) (w : World) (h : TV O S s w) (ht : t < 5) (hf : t ∈ s.fo) :
    Calls Tryd.prog 27 #[.pointer (some ⟨S, 0, none⟩), .int .i64 (k : Nat), .int .i64 (t : Nat), .int .i64 (o : Nat)] w fun e w' => e = .returned (terr 7) ∧ TV O S s w' ∧ Frm O w w' := by
  have HT : Hid (TV O S s w) := h
  obtain ⟨v, h1, _⟩ := h
  have g0 := h1.freed
  have l1 := h1.lt
  have hh := has_any (M.frS s) t w (by have := M.frS_lt s; omega) (by omega)
  rw [M.fr_has s ht, decide_eq_true hf] at hh
  rw [terr_ne (by decide)]
  obtain ⟨x1, hx1⟩ : ∃ x : Nat, M.frS s = x := ⟨_, rfl⟩
  rw [hx1] at g0 hh
  clear h1 hx1 hf
  go_enter Tryd.func27, Tryd.ntmps27
  go_wp2_with fail
  refine hh.mono ?_
  rintro e w' ⟨rfl, rfl⟩
  go_wp2_with fail
  go_ret
  exact ⟨rfl, HT.out, Frm.refl _ _⟩
set_option maxRecDepth 100000 in
set_option maxHeartbeats 2000000 in
theorem lock_wait {O : Nat → Prop} {S : Nat} {s : M.Lk} (k t o : Nat) (w : World) (h : TV O S s w) (hle : ∀ x y, s.hd x y ≤ 3) (hk : k ≤ 1) (ht : t < 5) (ho : o < 4) (hf : t ∉ s.fo) (ha : M.agS s t o k ≠ 0) :
    Calls Tryd.prog 27 #[.pointer (some ⟨S, 0, none⟩), .int .i64 (k : Nat), .int .i64 (t : Nat), .int .i64 (o : Nat)] w fun e w' => e = .returned (terr 6) ∧ TV O S (M.sWait s t o k) w' ∧ Frm O w w' := by
  have hag := fun w1 (hb : Below w.heap.size w w1) => against_ok k t o w1 (h.below hb) hle hk ht ho
  obtain ⟨v, h1, h2⟩ := h
  have H1 : Hid (TVr w S s v) := h1
  have g0 := h1.freed
  have l1 := h1.lt
  have hh := has_any (M.frS s) t w (by have := M.frS_lt s; omega) (by omega)
  rw [M.fr_has s ht, decide_eq_false hf] at hh
  rw [terr_ne (by decide)]
  obtain ⟨x1, hx1⟩ : ∃ x : Nat, M.frS s = x := ⟨_, rfl⟩
  rw [hx1] at g0 hh
  obtain ⟨x2, hx2⟩ : ∃ x : Nat, M.agS s t o k = x := ⟨_, rfl⟩
  have ha1 : ((x2 : Int) == 0) = false := by rw [← hx2]; simpa using ha
  have ha2 : ((x2 : Int) != 0) = true := by rw [← hx2]; simpa using ha
  rw [hx2] at hag
  have hti : (t : Int) < 5 := by omega
  clear h1 hx1 hf ha hx2
  go_enter Tryd.func27, Tryd.ntmps27
  go_wp2_with fail
  refine hh.mono ?_
  rintro e w' ⟨rfl, rfl⟩
  go_wp2_with fail
  refine (hag _ (Below.refl _ _)).mono ?_
  rintro e w1 ⟨rfl, hB1⟩
  have R := H1.out.below hB1
  have l2 := R.lt
  have f0 := R.blk.frozen (8 + t * 3)
  have f1 := R.blk.frozen (8 + t * 3 + 1)
  have f2 := R.blk.frozen (8 + t * 3 + 2)
  have c0 := R.is_ ht
  have c1 := R.kind ht
  have c2 := R.item ht
  have R2 : TVr (((w1.setCell ⟨S, 8 + t * 3, none⟩ (.bool true)).setCell ⟨S, 8 + t * 3 + 1, none⟩ (.int .i64 (k : Nat))).setCell ⟨S, 8 + t * 3 + 2, none⟩ (.int .i64 (o : Nat))) S (M.sWait s t o k) v :=
    R.wait ht (by simp) (by omega) (by omega)
  have FF : Frm O w (((w1.setCell ⟨S, 8 + t * 3, none⟩ (.bool true)).setCell ⟨S, 8 + t * 3 + 1, none⟩ (.int .i64 (k : Nat))).setCell ⟨S, 8 + t * 3 + 2, none⟩ (.int .i64 (o : Nat))) :=
    (((Frm.of_below hB1).set (p := ⟨S, 8 + t * 3, none⟩) h2.1 _).set (p := ⟨S, 8 + t * 3 + 1, none⟩) h2.1 _).set (p := ⟨S, 8 + t * 3 + 2, none⟩) h2.1 _
  obtain ⟨wz, hwz⟩ : ∃ wz, ((w1.setCell ⟨S, 8 + t * 3, none⟩ (.bool true)).setCell ⟨S, 8 + t * 3 + 1, none⟩ (.int .i64 (k : Nat))).setCell ⟨S, 8 + t * 3 + 2, none⟩ (.int .i64 (o : Nat)) = wz := ⟨_, rfl⟩
  rw [hwz] at R2 FF
  have HH : Hid (TV O S (M.sWait s t o k) wz ∧ Frm O w wz) := ⟨⟨v, R2, h2⟩, FF⟩
  clear R hag R2 FF h2
  go_wp2_with fail
  go_ret
  exact ⟨rfl, HH.out.1, HH.out.2⟩
set_option maxRecDepth 100000 in
set_option maxHeartbeats 2000000 in
theorem lock_got {O : Nat → Prop} {S : Nat} {s : M.Lk} (k t o : Nat) (w : World) (h : TV O S s w) (hle : ∀ x y, s.hd x y ≤ 3) (hk : k ≤ 1) (ht : t < 5) (ho : o < 4) (hf : t ∉ s.fo) (ha : M.agS s t o k = 0) :
    Calls Tryd.prog 27 #[.pointer (some ⟨S, 0, none⟩), .int .i64 (k : Nat), .int .i64 (t : Nat), .int .i64 (o : Nat)] w fun e w' => e = .returned (terr 0) ∧ TV O S (M.sGot s t o k) w' ∧ Frm O w w' := by
  have hag := fun w1 (hb : Below w.heap.size w w1) => against_ok k t o w1 (h.below hb) hle hk ht ho
  obtain ⟨v, h1, h2⟩ := h
  have H1 : Hid (TVr w S s v) := h1
  have g0 := h1.freed
  have l1 := h1.lt
  have hh := has_any (M.frS s) t w (by have := M.frS_lt s; omega) (by omega)
  rw [M.fr_has s ht, decide_eq_false hf] at hh
  rw [terr_zero]
  obtain ⟨x1, hx1⟩ : ∃ x : Nat, M.frS s = x := ⟨_, rfl⟩
  rw [hx1] at g0 hh
  rw [ha] at hag
  have hti : (t : Int) < 5 := by omega
  have hoi : (o : Int) < 4 := by omega
  have hsh : IntKind.i64.wrap (2 ^ t) = ((1 <<< t : Nat) : Int) := i64_shl t (by omega)
  have hor0 := i64_or_nat (M.shS s o) (1 <<< t) (by have := M.shS_lt s o; omega) (one_lt ht)
  have hor1 := i64_or_nat (M.owS s o) (1 <<< t) (by have := M.owS_lt s o; omega) (one_lt ht)
  have HI : Hid (∀ x y, s.hd x y ≤ 3) := hle
  clear h1 hx1 hf ha hle
  go_enter Tryd.func27, Tryd.ntmps27
  go_wp2_with fail
  refine hh.mono ?_
  rintro e w' ⟨rfl, rfl⟩
  go_wp2_with fail
  refine (hag _ (Below.refl _ _)).mono ?_
  rintro e w1 ⟨rfl, hB1⟩
  have R := H1.out.below hB1
  have l2 := R.lt
  have f0 := R.blk.frozen (8 + t * 3)
  have f1 := R.blk.frozen (8 + t * 3 + 1)
  have f2 := R.blk.frozen (8 + t * 3 + 2)
  have c0 := R.is_ ht
  have c1 := R.kind ht
  have c2 := R.item ht
  have R2 : TVr (((w1.setCell ⟨S, 8 + t * 3, none⟩ (.bool false)).setCell ⟨S, 8 + t * 3 + 1, none⟩ (.int .i64 0)).setCell ⟨S, 8 + t * 3 + 2, none⟩ (.int .i64 0)) S (M.sIdle s t) v :=
    R.wait (n := 0) (k := 0) (o := 0) ht rfl rfl rfl
  have FF : Frm O w (((w1.setCell ⟨S, 8 + t * 3, none⟩ (.bool false)).setCell ⟨S, 8 + t * 3 + 1, none⟩ (.int .i64 0)).setCell ⟨S, 8 + t * 3 + 2, none⟩ (.int .i64 0)) :=
    (((Frm.of_below hB1).set (p := ⟨S, 8 + t * 3, none⟩) h2.1 _).set (p := ⟨S, 8 + t * 3 + 1, none⟩) h2.1 _).set (p := ⟨S, 8 + t * 3 + 2, none⟩) h2.1 _
  obtain ⟨wz, hwz⟩ : ∃ wz, ((w1.setCell ⟨S, 8 + t * 3, none⟩ (.bool false)).setCell ⟨S, 8 + t * 3 + 1, none⟩ (.int .i64 0)).setCell ⟨S, 8 + t * 3 + 2, none⟩ (.int .i64 0) = wz := ⟨_, rfl⟩
  rw [hwz] at R2 FF
  have d0 := R2.sh ho
  have d1 := R2.ow ho
  have j0 := R2.blk.frozen (o * 2)
  have j1 := R2.blk.frozen (o * 2 + 1)
  rw [show M.shS (M.sIdle s t) o = M.shS s o from rfl] at d0
  rw [show M.owS (M.sIdle s t) o = M.owS s o from rfl] at d1
  have l3 := R2.lt
  have hk' : k = 0 ∨ k = 1 := by omega
  rcases hk' with rfl | rfl
  · have HH : Hid (TV O S (M.sGot s t o 0) (wz.setCell ⟨S, o * 2, none⟩ (.int .i64 (M.shS s o ||| 1 <<< t : Nat))) ∧ Frm O w (wz.setCell ⟨S, o * 2, none⟩ (.int .i64 (M.shS s o ||| 1 <<< t : Nat)))) :=
      ⟨⟨v, R2.got0 ht ho HI.out, h2⟩, FF.set (p := ⟨S, o * 2, none⟩) h2.1 _⟩
    obtain ⟨x3, hx3⟩ : ∃ x : Nat, M.shS s o ||| 1 <<< t = x := ⟨_, rfl⟩
    rw [hx3] at HH hor0
    obtain ⟨q, hq⟩ : ∃ q : Nat, 1 <<< t = q := ⟨_, rfl⟩
    obtain ⟨x2, hx2⟩ : ∃ x : Nat, M.shS s o = x := ⟨_, rfl⟩
    rw [hq] at hsh hor0
    rw [hx2] at d0 hor0
    clear R hag R2 FF h2 hx2 hx3 hq hor1 d1 j1
    go_wp2_with fail
    go_region
    go_wp2_with fail
    go_ret
    exact ⟨rfl, HH.out.1.below (Below.refl _ _).drew, HH.out.2.drew⟩
  · have HH : Hid (TV O S (M.sGot s t o 1) (wz.setCell ⟨S, o * 2 + 1, none⟩ (.int .i64 (M.owS s o ||| 1 <<< t : Nat))) ∧ Frm O w (wz.setCell ⟨S, o * 2 + 1, none⟩ (.int .i64 (M.owS s o ||| 1 <<< t : Nat)))) :=
      ⟨⟨v, R2.got1 ht ho HI.out, h2⟩, FF.set (p := ⟨S, o * 2 + 1, none⟩) h2.1 _⟩
    obtain ⟨x3, hx3⟩ : ∃ x : Nat, M.owS s o ||| 1 <<< t = x := ⟨_, rfl⟩
    rw [hx3] at HH hor1
    obtain ⟨q, hq⟩ : ∃ q : Nat, 1 <<< t = q := ⟨_, rfl⟩
    obtain ⟨x2, hx2⟩ : ∃ x : Nat, M.owS s o = x := ⟨_, rfl⟩
    rw [hq] at hsh hor1
    rw [hx2] at d1 hor1
    clear R hag R2 FF h2 hx2 hx3 hq hor0 d0 j0
    go_wp2_with fail
    go_region
    go_wp2_with fail
    go_ret
    exact ⟨rfl, HH.out.1.below (Below.refl _ _).drew, HH.out.2.drew⟩
end Go.Proofs.YtcjodlgkmbmcgaaDoor
