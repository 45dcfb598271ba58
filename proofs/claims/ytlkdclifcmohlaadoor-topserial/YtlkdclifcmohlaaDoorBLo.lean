/- Whether a deed may be (package lock, isDeed), and who stands against a lock (against); what lay in memory lies as it lay. A transaction locks an item, or waits for that (package lock, lock). A transaction frees an item; it reads or writes one (package lock, free, act). A transaction reads or writes an item (package lock, act); written by mk_lo4.py. A deed at a table of locks (package lock, New, Do), and what was done (Acts). -/
import Derived.Test.YtlkdclifcmohlaaDoorLo0
import Derived.Test.YtlkdclifcmohlaaDoorSc1
import Derived.Test.YtlkdclifcmohlaaDoorBFt
import Derived.BigRegion
import Derived.Deep.RegionLaw
import Derived.Deep.AppendLies
import Derived.WalkMore
import Derived.Lib.SliceRun
namespace Go.Proofs.YtlkdclifcmohlaaDoor
open Go.RowKit

/-- may the numbers of a deed be? -/
def dIn (k t i x : Int) : Bool := decide (0 ≤ k ∧ k ≤ 3) && thingZ t 5 && thingZ i 4 && (decide (k ≠ 3) || thingZ x 2)
abbrev dV (k t i x : Int) : Value := .agg #[.int .i64 k, .int .i64 t, .int .i64 i, .int .i64 x]
set_option maxHeartbeats 2000000 in
theorem isDeed_ok (k t i x : Int) (w : World) : Calls Tryd.prog 32 #[dV k t i x] w fun e w' => e = .returned (.bool (dIn k t i x)) ∧ Below w.heap.size w w' := by
  have F : ∀ o, Hid (Below w.heap.size w (w.alloc o)) := fun o => bel_al (Below.refl _ _) o
  by_cases h1 : k < 0
  · have e : dIn k t i x = false := by unfold dIn; rw [decide_eq_false (by omega)]; rfl
    rw [e]
    clear e
    go_enter Tryd.func32, Tryd.ntmps32
    go_wp2_with fail
    go_ret
    exact ⟨rfl, (F _).out⟩
  by_cases h2 : 3 < k
  · have e : dIn k t i x = false := by unfold dIn; rw [decide_eq_false (by omega)]; rfl
    rw [e]
    have h1' : 0 ≤ k := by omega
    clear e h1
    go_enter Tryd.func32, Tryd.ntmps32
    go_wp2_with fail
    go_ret
    exact ⟨rfl, (F _).out⟩
  have hk0 : 0 ≤ k := by omega
  have hk3 : k ≤ 3 := by omega
  have e0 : Hid (dIn k t i x = (thingZ t 5 && thingZ i 4 && (decide (k ≠ 3) || thingZ x 2))) := by
    show _ = _
    unfold dIn; rw [decide_eq_true ⟨hk0, hk3⟩]; simp
  have c1 := fun w' => isThing_z t 5 w'
  have c2 := fun w' => isThing_z i 4 w'
  have c3 := fun w' => isThing_z x 2 w'
  obtain ⟨b1, hb1⟩ : ∃ b, thingZ t 5 = b := ⟨_, rfl⟩
  obtain ⟨b2, hb2⟩ : ∃ b, thingZ i 4 = b := ⟨_, rfl⟩
  obtain ⟨b3, hb3⟩ : ∃ b, thingZ x 2 = b := ⟨_, rfl⟩
  rw [hb1] at c1
  rw [hb2] at c2
  rw [hb3] at c3
  rw [hb1, hb2, hb3] at e0
  clear h1 h2 hb1 hb2 hb3
  cases b1 with
  | false =>
    go_enter Tryd.func32, Tryd.ntmps32
    go_wp2_with fail
    refine (c1 _).mono ?_
    rintro e w' ⟨rfl, rfl⟩
    go_wp2_with fail
    go_ret
    exact ⟨by rw [e0.out]; rfl, (F _).out⟩
  | true =>
  cases b2 with
  | false =>
    go_enter Tryd.func32, Tryd.ntmps32
    go_wp2_with fail
    refine (c1 _).mono ?_
    rintro e w' ⟨rfl, rfl⟩
    go_wp2_with fail
    refine (c2 _).mono ?_
    rintro e w' ⟨rfl, rfl⟩
    go_wp2_with fail
    go_ret
    exact ⟨by rw [e0.out]; rfl, (F _).out⟩
  | true =>
  by_cases h3 : k = 3
  · subst h3
    have e1 : Hid (dIn 3 t i x = b3) := by show _ = _; rw [e0.out]; simp
    clear e0
    go_enter Tryd.func32, Tryd.ntmps32
    go_wp2_with fail
    refine (c1 _).mono ?_
    rintro e w' ⟨rfl, rfl⟩
    go_wp2_with fail
    refine (c2 _).mono ?_
    rintro e w' ⟨rfl, rfl⟩
    go_wp2_with fail
    refine (c3 _).mono ?_
    rintro e w' ⟨rfl, rfl⟩
    go_wp2_with fail
    go_ret
    exact ⟨by rw [e1.out]; rfl, (F _).out⟩
  · have e1 : Hid (dIn k t i x = true) := by show _ = _; rw [e0.out]; simp [h3]
    have h3' : (k == 3) = false := by simp [h3]
    have h3n : (k != 3) = true := by simp [h3]
    clear e0 h3
    go_enter Tryd.func32, Tryd.ntmps32
    go_wp2_with fail
    refine (c1 _).mono ?_
    rintro e w' ⟨rfl, rfl⟩
    go_wp2_with fail
    refine (c2 _).mono ?_
    rintro e w' ⟨rfl, rfl⟩
    go_wp2_with fail
    go_ret
    exact ⟨by rw [e1.out]; rfl, (F _).out⟩
theorem i64_andNot_l (a b : Nat) (ha : a < 65536) (hb : b < 65536) : ∃ r : Nat, bits .andNot .i64 (a : Int) (b : Int) = (r : Int) ∧ r ≤ a ∧ ∀ j, r.testBit j = (a.testBit j && !b.testBit j) := by
  obtain ⟨r, hr⟩ : ∃ r : Nat, (BitVec.ofInt 64 (a : Int) &&& ~~~BitVec.ofInt 64 (b : Int)).toNat = r := ⟨_, rfl⟩
  have hle : r ≤ a := by
    rw [← hr, BitVec.toNat_and, ofInt_i64 a ha]
    exact Nat.and_le_left
  have hbit : ∀ j, r.testBit j = (a.testBit j && !b.testBit j) := fun j => by
    rw [← hr, BitVec.toNat_and, BitVec.toNat_not, Nat.testBit_and, ofInt_i64 a ha, ofInt_i64 b hb]
    by_cases hj : j < 64
    · rw [show (2 ^ 64 - 1 - b) = 2 ^ 64 - (b + 1) by omega, Nat.testBit_two_pow_sub_succ (by omega)]
      simp [hj]
    · have : a.testBit j = false := Nat.testBit_lt_two_pow (Nat.lt_of_lt_of_le ha (Nat.pow_le_pow_right (n := 2) (by omega) (by omega : 16 ≤ j)))
      rw [this]; simp
  refine ⟨r, ?_, hle, hbit⟩
  show IntKind.i64.wrap ((BitVec.ofInt 64 (a : Int) &&& ~~~BitVec.ofInt 64 (b : Int)).toNat : Int) = _
  rw [hr, i64_wrap_nat _ (by omega)]
theorem one_lt {t : Nat} (ht : t < 5) : 1 <<< t < 65536 := by rw [Nat.shiftLeft_eq, Nat.one_mul]; have := pow_lt t (by omega); omega
set_option maxRecDepth 100000 in
set_option maxHeartbeats 1000000 in
theorem against_ok {O : Nat → Prop} {S : Nat} {s : M.Lk} (k t o : Nat) (w : World) (h : TV O S s w) (hle : ∀ x y, s.hd x y ≤ 3) (hk : k ≤ 1) (ht : t < 5) (ho : o < 4) :
    Calls Tryd.prog 46 #[.pointer (some ⟨S, 0, none⟩), .int .i64 (k : Nat), .int .i64 (t : Nat), .int .i64 (o : Nat)] w fun e w' => e = .returned (.int .i64 (M.agS s t o k : Nat)) ∧ Below w.heap.size w w' := by
  obtain ⟨v, h1, _⟩ := h
  have g1 := h1.sh ho
  have g2 := h1.ow ho
  have l1 := h1.lt
  have s1 := M.shS_lt s o
  have s2 := M.owS_lt s o
  have hoi : (o : Int) < 4 := by omega
  have hsh : IntKind.i64.wrap (2 ^ t) = ((1 <<< t : Nat) : Int) := i64_shl t (by omega)
  have hti := one_lt ht
  have F : ∀ o, Hid (Below w.heap.size w (w.alloc o)) := fun o => bel_al (Below.refl _ _) o
  have hk' : k = 0 ∨ k = 1 := by omega
  rcases hk' with rfl | rfl
  · obtain ⟨r, hr1, hr2, hr3⟩ := i64_andNot_l (M.owS s o) (1 <<< t) (by omega) hti
    have HR : Hid (r = M.agS s t o 0) := M.agS_of (fun x => hle x o) rfl hr3
    obtain ⟨q, hq⟩ : ∃ q : Nat, 1 <<< t = q := ⟨_, rfl⟩
    obtain ⟨x1, hx1⟩ : ∃ x : Nat, M.shS s o = x := ⟨_, rfl⟩
    obtain ⟨x2, hx2⟩ : ∃ x : Nat, M.owS s o = x := ⟨_, rfl⟩
    rw [hq] at hsh hr1
    rw [hx1] at g1
    rw [hx2] at g2 hr1
    rw [← HR.out]
    clear h1 hr3 hq hx1 hx2 s1 s2 hti hr2 hle
    go_enter Tryd.func46, Tryd.ntmps46
    go_wp2_with fail
    go_ret
    exact ⟨rfl, (F _).out⟩
  · have hor := i64_or_nat (M.owS s o) (M.shS s o) (by omega) (by omega)
    have hlt : M.owS s o ||| M.shS s o < 32 := Nat.or_lt_two_pow (n := 5) s2 s1
    obtain ⟨r, hr1, hr2, hr3⟩ := i64_andNot_l (M.owS s o ||| M.shS s o) (1 <<< t) (by omega) hti
    have HR : Hid (r = M.agS s t o 1) := M.agS_of (fun x => hle x o) rfl hr3
    obtain ⟨q, hq⟩ : ∃ q : Nat, 1 <<< t = q := ⟨_, rfl⟩
    obtain ⟨x3, hx3⟩ : ∃ x : Nat, M.owS s o ||| M.shS s o = x := ⟨_, rfl⟩
    rw [hx3] at hor hr1
    obtain ⟨x1, hx1⟩ : ∃ x : Nat, M.shS s o = x := ⟨_, rfl⟩
    obtain ⟨x2, hx2⟩ : ∃ x : Nat, M.owS s o = x := ⟨_, rfl⟩
    rw [hq] at hsh hr1
    rw [hx1] at g1 hor
    rw [hx2] at g2 hor
    rw [← HR.out]
    clear h1 hr3 hq hx1 hx2 hx3 s1 s2 hti hr2 hle hlt
    go_enter Tryd.func46, Tryd.ntmps46
    go_wp2_with fail
    go_ret
    exact ⟨rfl, (F _).out⟩
end Go.Proofs.YtlkdclifcmohlaaDoor
namespace Go.Proofs.YtlkdclifcmohlaaDoor
open Go.RowKit
set_option maxRecDepth 100000 in
set_option maxHeartbeats 2000000 in
theorem lock_state {O : Nat → Prop} {S : Nat} {s : M.Lk} (k t o : Nat) (w : World) (h : TV O S s w) (ht : t < 5) (hf : t ∈ s.fo) :
    Calls Tryd.prog 35 #[.pointer (some ⟨S, 0, none⟩), .int .i64 (k : Nat), .int .i64 (t : Nat), .int .i64 (o : Nat)] w fun e w' => e = .returned (terr 7) ∧ TV O S s w' ∧ Frm O w w' := by
  have HT : Hid (TV O S s w) := h
  obtain ⟨v, h1, _⟩ := h
  have g0 := h1.freed
  have l1 := h1.lt
  have hh := has_any (M.frS s) t w (by have := M.frS_lt s; omega) (by omega)
  rw [M.fr_has s ht, decide_eq_true hf] at hh
  rw [terr_ne (by decide)]
  obtain ⟨x1, hx1⟩ : ∃ x : Nat, M.frS s = x := ⟨_, rfl⟩
  rw [hx1] at g0 hh
  clear h1 hx1 hf
  go_enter Tryd.func35, Tryd.ntmps35
  go_wp2_with fail
  refine hh.mono ?_
  rintro e w' ⟨rfl, rfl⟩
  go_wp2_with fail
  go_ret
  exact ⟨rfl, HT.out, Frm.refl _ _⟩
set_option maxRecDepth 100000 in
set_option maxHeartbeats 2000000 in
theorem lock_wait {O : Nat → Prop} {S : Nat} {s : M.Lk} (k t o : Nat) (w : World) (h : TV O S s w) (hle : ∀ x y, s.hd x y ≤ 3) (hk : k ≤ 1) (ht : t < 5) (ho : o < 4) (hf : t ∉ s.fo) (ha : M.agS s t o k ≠ 0) :
    Calls Tryd.prog 35 #[.pointer (some ⟨S, 0, none⟩), .int .i64 (k : Nat), .int .i64 (t : Nat), .int .i64 (o : Nat)] w fun e w' => e = .returned (terr 6) ∧ TV O S (M.sWait s t o k) w' ∧ Frm O w w' := by
  have hag := fun w1 (hb : Below w.heap.size w w1) => against_ok k t o w1 (h.below hb) hle hk ht ho
  obtain ⟨v, h1, h2⟩ := h
  have H1 : Hid (TVr w S s v) := h1
  have g0 := h1.freed
  have l1 := h1.lt
  have hh := has_any (M.frS s) t w (by have := M.frS_lt s; omega) (by omega)
  rw [M.fr_has s ht, decide_eq_false hf] at hh
  rw [terr_ne (by decide)]
  obtain ⟨x1, hx1⟩ : ∃ x : Nat, M.frS s = x := ⟨_, rfl⟩
  rw [hx1] at g0 hh
  obtain ⟨x2, hx2⟩ : ∃ x : Nat, M.agS s t o k = x := ⟨_, rfl⟩
  have ha1 : ((x2 : Int) == 0) = false := by rw [← hx2]; simpa using ha
  have ha2 : ((x2 : Int) != 0) = true := by rw [← hx2]; simpa using ha
  rw [hx2] at hag
  have hti : (t : Int) < 5 := by omega
  clear h1 hx1 hf ha hx2
  go_enter Tryd.func35, Tryd.ntmps35
  go_wp2_with fail
  refine hh.mono ?_
  rintro e w' ⟨rfl, rfl⟩
  go_wp2_with fail
  refine (hag _ (Below.refl _ _)).mono ?_
  rintro e w1 ⟨rfl, hB1⟩
  have R := H1.out.below hB1
  have l2 := R.lt
  have f0 := R.blk.frozen (8 + t * 3)
  have f1 := R.blk.frozen (8 + t * 3 + 1)
  have f2 := R.blk.frozen (8 + t * 3 + 2)
  have c0 := R.is_ ht
  have c1 := R.kind ht
  have c2 := R.item ht
  have R2 : TVr (((w1.setCell ⟨S, 8 + t * 3, none⟩ (.bool true)).setCell ⟨S, 8 + t * 3 + 1, none⟩ (.int .i64 (k : Nat))).setCell ⟨S, 8 + t * 3 + 2, none⟩ (.int .i64 (o : Nat))) S (M.sWait s t o k) v :=
    R.wait ht (by simp) (by omega) (by omega)
  have FF : Frm O w (((w1.setCell ⟨S, 8 + t * 3, none⟩ (.bool true)).setCell ⟨S, 8 + t * 3 + 1, none⟩ (.int .i64 (k : Nat))).setCell ⟨S, 8 + t * 3 + 2, none⟩ (.int .i64 (o : Nat))) :=
    (((Frm.of_below hB1).set (p := ⟨S, 8 + t * 3, none⟩) h2.1 _).set (p := ⟨S, 8 + t * 3 + 1, none⟩) h2.1 _).set (p := ⟨S, 8 + t * 3 + 2, none⟩) h2.1 _
  obtain ⟨wz, hwz⟩ : ∃ wz, ((w1.setCell ⟨S, 8 + t * 3, none⟩ (.bool true)).setCell ⟨S, 8 + t * 3 + 1, none⟩ (.int .i64 (k : Nat))).setCell ⟨S, 8 + t * 3 + 2, none⟩ (.int .i64 (o : Nat)) = wz := ⟨_, rfl⟩
  rw [hwz] at R2 FF
  have HH : Hid (TV O S (M.sWait s t o k) wz ∧ Frm O w wz) := ⟨⟨v, R2, h2⟩, FF⟩
  clear R hag R2 FF h2
  go_wp2_with fail
  go_ret
  exact ⟨rfl, HH.out.1, HH.out.2⟩
set_option maxRecDepth 100000 in
set_option maxHeartbeats 2000000 in
theorem lock_got {O : Nat → Prop} {S : Nat} {s : M.Lk} (k t o : Nat) (w : World) (h : TV O S s w) (hle : ∀ x y, s.hd x y ≤ 3) (hk : k ≤ 1) (ht : t < 5) (ho : o < 4) (hf : t ∉ s.fo) (ha : M.agS s t o k = 0) :
    Calls Tryd.prog 35 #[.pointer (some ⟨S, 0, none⟩), .int .i64 (k : Nat), .int .i64 (t : Nat), .int .i64 (o : Nat)] w fun e w' => e = .returned (terr 0) ∧ TV O S (M.sGot s t o k) w' ∧ Frm O w w' := by
  have hag := fun w1 (hb : Below w.heap.size w w1) => against_ok k t o w1 (h.below hb) hle hk ht ho
  obtain ⟨v, h1, h2⟩ := h
  have H1 : Hid (TVr w S s v) := h1
  have g0 := h1.freed
  have l1 := h1.lt
  have hh := has_any (M.frS s) t w (by have := M.frS_lt s; omega) (by omega)
  rw [M.fr_has s ht, decide_eq_false hf] at hh
  rw [terr_zero]
  obtain ⟨x1, hx1⟩ : ∃ x : Nat, M.frS s = x := ⟨_, rfl⟩
  rw [hx1] at g0 hh
  rw [ha] at hag
  have hti : (t : Int) < 5 := by omega
  have hoi : (o : Int) < 4 := by omega
  have hsh : IntKind.i64.wrap (2 ^ t) = ((1 <<< t : Nat) : Int) := i64_shl t (by omega)
  have hor0 := i64_or_nat (M.shS s o) (1 <<< t) (by have := M.shS_lt s o; omega) (one_lt ht)
  have hor1 := i64_or_nat (M.owS s o) (1 <<< t) (by have := M.owS_lt s o; omega) (one_lt ht)
  have HI : Hid (∀ x y, s.hd x y ≤ 3) := hle
  clear h1 hx1 hf ha hle
  go_enter Tryd.func35, Tryd.ntmps35
  go_wp2_with fail
  refine hh.mono ?_
  rintro e w' ⟨rfl, rfl⟩
  go_wp2_with fail
  refine (hag _ (Below.refl _ _)).mono ?_
  rintro e w1 ⟨rfl, hB1⟩
  have R := H1.out.below hB1
  have l2 := R.lt
  have f0 := R.blk.frozen (8 + t * 3)
  have f1 := R.blk.frozen (8 + t * 3 + 1)
  have f2 := R.blk.frozen (8 + t * 3 + 2)
  have c0 := R.is_ ht
  have c1 := R.kind ht
  have c2 := R.item ht
  have R2 : TVr (((w1.setCell ⟨S, 8 + t * 3, none⟩ (.bool false)).setCell ⟨S, 8 + t * 3 + 1, none⟩ (.int .i64 0)).setCell ⟨S, 8 + t * 3 + 2, none⟩ (.int .i64 0)) S (M.sIdle s t) v :=
    R.wait (n := 0) (k := 0) (o := 0) ht rfl rfl rfl
  have FF : Frm O w (((w1.setCell ⟨S, 8 + t * 3, none⟩ (.bool false)).setCell ⟨S, 8 + t * 3 + 1, none⟩ (.int .i64 0)).setCell ⟨S, 8 + t * 3 + 2, none⟩ (.int .i64 0)) :=
    (((Frm.of_below hB1).set (p := ⟨S, 8 + t * 3, none⟩) h2.1 _).set (p := ⟨S, 8 + t * 3 + 1, none⟩) h2.1 _).set (p := ⟨S, 8 + t * 3 + 2, none⟩) h2.1 _
  obtain ⟨wz, hwz⟩ : ∃ wz, ((w1.setCell ⟨S, 8 + t * 3, none⟩ (.bool false)).setCell ⟨S, 8 + t * 3 + 1, none⟩ (.int .i64 0)).setCell ⟨S, 8 + t * 3 + 2, none⟩ (.int .i64 0) = wz := ⟨_, rfl⟩
  rw [hwz] at R2 FF
  have d0 := R2.sh ho
  have d1 := R2.ow ho
  have j0 := R2.blk.frozen (o * 2)
  have j1 := R2.blk.frozen (o * 2 + 1)
  rw [show M.shS (M.sIdle s t) o = M.shS s o from rfl] at d0
  rw [show M.owS (M.sIdle s t) o = M.owS s o from rfl] at d1
  have l3 := R2.lt
  have hk' : k = 0 ∨ k = 1 := by omega
  rcases hk' with rfl | rfl
  · have HH : Hid (TV O S (M.sGot s t o 0) (wz.setCell ⟨S, o * 2, none⟩ (.int .i64 (M.shS s o ||| 1 <<< t : Nat))) ∧ Frm O w (wz.setCell ⟨S, o * 2, none⟩ (.int .i64 (M.shS s o ||| 1 <<< t : Nat)))) :=
      ⟨⟨v, R2.got0 ht ho HI.out, h2⟩, FF.set (p := ⟨S, o * 2, none⟩) h2.1 _⟩
    obtain ⟨x3, hx3⟩ : ∃ x : Nat, M.shS s o ||| 1 <<< t = x := ⟨_, rfl⟩
    rw [hx3] at HH hor0
    obtain ⟨q, hq⟩ : ∃ q : Nat, 1 <<< t = q := ⟨_, rfl⟩
    obtain ⟨x2, hx2⟩ : ∃ x : Nat, M.shS s o = x := ⟨_, rfl⟩
    rw [hq] at hsh hor0
    rw [hx2] at d0 hor0
    clear R hag R2 FF h2 hx2 hx3 hq hor1 d1 j1
    go_wp2_with fail
    go_region
    go_wp2_with fail
    go_ret
    exact ⟨rfl, HH.out.1.below (Below.refl _ _).drew, HH.out.2.drew⟩
  · have HH : Hid (TV O S (M.sGot s t o 1) (wz.setCell ⟨S, o * 2 + 1, none⟩ (.int .i64 (M.owS s o ||| 1 <<< t : Nat))) ∧ Frm O w (wz.setCell ⟨S, o * 2 + 1, none⟩ (.int .i64 (M.owS s o ||| 1 <<< t : Nat)))) :=
      ⟨⟨v, R2.got1 ht ho HI.out, h2⟩, FF.set (p := ⟨S, o * 2 + 1, none⟩) h2.1 _⟩
    obtain ⟨x3, hx3⟩ : ∃ x : Nat, M.owS s o ||| 1 <<< t = x := ⟨_, rfl⟩
    rw [hx3] at HH hor1
    obtain ⟨q, hq⟩ : ∃ q : Nat, 1 <<< t = q := ⟨_, rfl⟩
    obtain ⟨x2, hx2⟩ : ∃ x : Nat, M.owS s o = x := ⟨_, rfl⟩
    rw [hq] at hsh hor1
    rw [hx2] at d1 hor1
    clear R hag R2 FF h2 hx2 hx3 hq hor0 d0 j0
    go_wp2_with fail
    go_region
    go_wp2_with fail
    go_ret
    exact ⟨rfl, HH.out.1.below (Below.refl _ _).drew, HH.out.2.drew⟩
end Go.Proofs.YtlkdclifcmohlaaDoor
namespace Go.Proofs.YtlkdclifcmohlaaDoor
open Go.RowKit
set_option maxRecDepth 100000 in
set_option maxHeartbeats 2000000 in
theorem free_none {O : Nat → Prop} {S : Nat} {s : M.Lk} (t o : Nat) (w : World) (h : TV O S s w) (hle : ∀ x y, s.hd x y ≤ 3) (ht : t < 5) (ho : o < 4) (h0 : s.hd t o = 0) :
    Calls Tryd.prog 33 #[.pointer (some ⟨S, 0, none⟩), .int .i64 (t : Nat), .int .i64 (o : Nat)] w fun e w' => e = .returned (terr 5) ∧ TV O S s w' ∧ Frm O w w' := by
  have HT : Hid (TV O S s w) := h
  obtain ⟨v, h1, _⟩ := h
  have g0 := h1.sh ho
  have g1 := h1.ow ho
  have l1 := h1.lt
  have hlt : M.shS s o ||| M.owS s o < 32 := Nat.or_lt_two_pow (n := 5) (M.shS_lt s o) (M.owS_lt s o)
  have hh := fun w' => has_any (M.shS s o ||| M.owS s o) t w' (by omega) (by omega)
  rw [M.any_has ht (hle t o), decide_eq_false (by simpa using h0)] at hh
  have hor := i64_or_nat (M.shS s o) (M.owS s o) (by have := M.shS_lt s o; omega) (by have := M.owS_lt s o; omega)
  rw [terr_ne (by decide)]
  obtain ⟨x3, hx3⟩ : ∃ x : Nat, M.shS s o ||| M.owS s o = x := ⟨_, rfl⟩
  rw [hx3] at hor hh
  obtain ⟨x1, hx1⟩ : ∃ x : Nat, M.shS s o = x := ⟨_, rfl⟩
  obtain ⟨x2, hx2⟩ : ∃ x : Nat, M.owS s o = x := ⟨_, rfl⟩
  rw [hx1] at g0 hor
  rw [hx2] at g1 hor
  have hoi : (o : Int) < 4 := by omega
  clear h1 hx1 hx2 hx3 h0 hlt hle
  go_enter Tryd.func33, Tryd.ntmps33
  go_wp2_with fail
  go_big_quiet ((go_at_call 36; exact Calls.quiet_of_same ((hh _).mono (fun e w' h => ⟨h.1, h.2.symm⟩))))
  go_wp2_with fail
  go_ret
  exact ⟨rfl, HT.out.below (bel_drN (Below.refl _ _) _), (Frm.refl _ _).drN _⟩
set_option maxRecDepth 100000 in
set_option maxHeartbeats 2000000 in
theorem free_ok {O : Nat → Prop} {S : Nat} {s : M.Lk} (t o : Nat) (w : World) (h : TV O S s w) (hle : ∀ x y, s.hd x y ≤ 3) (ht : t < 5) (ho : o < 4) (h0 : s.hd t o ≠ 0) :
    Calls Tryd.prog 33 #[.pointer (some ⟨S, 0, none⟩), .int .i64 (t : Nat), .int .i64 (o : Nat)] w fun e w' => e = .returned (terr 0) ∧ TV O S (M.sFree s t o) w' ∧ Frm O w w' := by
  have HT : Hid (TV O S s w) := h
  obtain ⟨v, h1, _⟩ := h
  have g0 := h1.sh ho
  have g1 := h1.ow ho
  have l1 := h1.lt
  have hlt : M.shS s o ||| M.owS s o < 32 := Nat.or_lt_two_pow (n := 5) (M.shS_lt s o) (M.owS_lt s o)
  have hh := fun w' => has_any (M.shS s o ||| M.owS s o) t w' (by omega) (by omega)
  rw [M.any_has ht (hle t o), decide_eq_true (by simpa using h0)] at hh
  have hor := i64_or_nat (M.shS s o) (M.owS s o) (by have := M.shS_lt s o; omega) (by have := M.owS_lt s o; omega)
  rw [terr_zero]
  obtain ⟨x3, hx3⟩ : ∃ x : Nat, M.shS s o ||| M.owS s o = x := ⟨_, rfl⟩
  rw [hx3] at hor hh
  obtain ⟨x1, hx1⟩ : ∃ x : Nat, M.shS s o = x := ⟨_, rfl⟩
  obtain ⟨x2, hx2⟩ : ∃ x : Nat, M.owS s o = x := ⟨_, rfl⟩
  rw [hx1] at g0 hor
  rw [hx2] at g1 hor
  have hoi : (o : Int) < 4 := by omega
  clear h1 hx1 hx2 hx3 h0 hlt hle
  go_enter Tryd.func33, Tryd.ntmps33
  go_wp2_with fail
  go_big_quiet ((go_at_call 36; exact Calls.quiet_of_same ((hh _).mono (fun e w' h => ⟨h.1, h.2.symm⟩))))
  obtain ⟨w0, hw0⟩ : ∃ w0, w.drewN nq = w0 := ⟨_, rfl⟩
  have hF0 : Frm O w w0 := by rw [← hw0]; exact (Frm.refl O w).drN _
  obtain ⟨v, h1, h2⟩ : TV O S s w0 := by rw [← hw0]; exact HT.out.below (bel_drN (Below.refl _ _) _)
  rw [hw0]
  clear hw0 g0 g1 hor hh
  have g0 := h1.sh ho
  have g1 := h1.ow ho
  have g2 := h1.freed
  have l2 := h1.lt
  have j0 := h1.blk.frozen (o * 2)
  have j1 := h1.blk.frozen (o * 2 + 1)
  have j2 := h1.blk.frozen 23
  have hor2 := i64_or_nat (M.frS s) (1 <<< t) (by have := M.frS_lt s; omega) (one_lt ht)
  obtain ⟨r1, hr1, _, hr1b⟩ := i64_andNot_l (M.shS s o) (1 <<< t) (by have := M.shS_lt s o; omega) (one_lt ht)
  obtain ⟨r2, hr2, _, hr2b⟩ := i64_andNot_l (M.owS s o) (1 <<< t) (by have := M.owS_lt s o; omega) (one_lt ht)
  have hsh : IntKind.i64.wrap (2 ^ t) = ((1 <<< t : Nat) : Int) := i64_shl t (by omega)
  have R2 := h1.free ht ho hr1b hr2b
  have FF : Frm O w (((w0.setCell ⟨S, o * 2, none⟩ (.int .i64 (r1 : Nat))).setCell ⟨S, o * 2 + 1, none⟩ (.int .i64 (r2 : Nat))).setCell ⟨S, 23, none⟩ (.int .i64 (M.frS s ||| 1 <<< t : Nat))) :=
    ((hF0.set (p := ⟨S, o * 2, none⟩) h2.1 _).set (p := ⟨S, o * 2 + 1, none⟩) h2.1 _).set (p := ⟨S, 23, none⟩) h2.1 _
  have HH : Hid (TV O S (M.sFree s t o) _ ∧ Frm O w _) := ⟨⟨v, R2, h2⟩, FF⟩
  obtain ⟨x5, hx5⟩ : ∃ x : Nat, M.frS s ||| 1 <<< t = x := ⟨_, rfl⟩
  rw [hx5] at hor2 HH
  obtain ⟨q, hq⟩ : ∃ q : Nat, 1 <<< t = q := ⟨_, rfl⟩
  obtain ⟨x1, hx1⟩ : ∃ x : Nat, M.shS s o = x := ⟨_, rfl⟩
  obtain ⟨x2, hx2⟩ : ∃ x : Nat, M.owS s o = x := ⟨_, rfl⟩
  obtain ⟨x4, hx4⟩ : ∃ x : Nat, M.frS s = x := ⟨_, rfl⟩
  rw [hx1] at g0 hr1
  rw [hx2] at g1 hr2
  rw [hx4] at g2 hor2
  rw [hq] at hr1 hr2 hor2 hsh
  clear h1 hx1 hx2 hx4 hx5 hq R2 FF hr1b hr2b h2
  go_wp2_with fail
  go_region
  go_wp2_with fail
  go_region
  go_wp2_with fail
  go_region
  go_wp2_with fail
  go_ret
  exact ⟨rfl, HH.out.1.heap rfl, HH.out.2.heap rfl rfl rfl rfl⟩
end Go.Proofs.YtlkdclifcmohlaaDoor
namespace Go.Proofs.YtlkdclifcmohlaaDoor
open Go.RowKit
set_option maxRecDepth 100000 in
set_option maxHeartbeats 4000000 in
theorem act_none0 {O : Nat → Prop} {S : Nat} {s : M.Lk} (t o : Nat) (w : World) (h : TV O S s w) (hle : ∀ x y, s.hd x y ≤ 3) (ht : t < 5) (ho : o < 4) (h0 : s.hd t o = 0) :
    Calls Tryd.prog 34 #[.pointer (some ⟨S, 0, none⟩), .agg #[.int .i64 (t : Nat), .int .i64 (o : Nat), .int .i64 0]] w fun e w' => e = .returned (terr 5) ∧ TV O S s w' ∧ Frm O w w' := by
  have HT : Hid (TV O S s w) := h
  obtain ⟨v, h1, _⟩ := h
  have g0 := h1.sh ho
  have g1 := h1.ow ho
  have l1 := h1.lt
  have hlt : M.owS s o ||| M.shS s o < 65536 := by
    have h2 := M.shS_lt s o
    have h3 := M.owS_lt s o
    have h4 : M.owS s o ||| M.shS s o < 32 := Nat.or_lt_two_pow (n := 5) h3 h2
    omega
  have hh := fun w' => has_any (M.owS s o ||| M.shS s o) t w' (by
    have h2 := M.shS_lt s o
    have h3 := M.owS_lt s o
    have h4 : M.owS s o ||| M.shS s o < 32 := Nat.or_lt_two_pow (n := 5) h3 h2
    omega) (by omega)
  rw [M.any_has' ht (hle t o), decide_eq_false (by simpa using h0)] at hh
  have hor := i64_or_nat (M.owS s o) (M.shS s o) (by have := M.owS_lt s o; omega) (by have := M.shS_lt s o; omega)
  obtain ⟨x3, hx3⟩ : ∃ x : Nat, M.owS s o ||| M.shS s o = x := ⟨_, rfl⟩
  rw [hx3] at hor hh
  rw [terr_ne (by decide)]
  obtain ⟨x1, hx1⟩ : ∃ x : Nat, M.shS s o = x := ⟨_, rfl⟩
  obtain ⟨x2, hx2⟩ : ∃ x : Nat, M.owS s o = x := ⟨_, rfl⟩
  rw [hx1] at g0 hor
  rw [hx2] at g1 hor
  have hoi : (o : Int) < 4 := by omega
  clear h1 hx1 hx2 h0 hle hlt hx3
  go_enter Tryd.func34, Tryd.ntmps34
  go_wp2_with fail
  go_region
  go_wp2_with fail
  refine (hh _).mono ?_
  rintro e w' ⟨rfl, rfl⟩
  go_wp2_with fail
  go_ret
  exact ⟨rfl, HT.out.below ((bel_al (bel_al (Below.refl _ _) _) _).drew), Frm.of_below ((bel_al (bel_al (Below.refl _ _) _) _).drew)⟩
set_option maxRecDepth 100000 in
set_option maxHeartbeats 4000000 in
theorem act_none1 {O : Nat → Prop} {S : Nat} {s : M.Lk} (t o : Nat) (w : World) (h : TV O S s w) (ht : t < 5) (ho : o < 4) (h0 : ¬ 2 ≤ s.hd t o) :
    Calls Tryd.prog 34 #[.pointer (some ⟨S, 0, none⟩), .agg #[.int .i64 (t : Nat), .int .i64 (o : Nat), .int .i64 1]] w fun e w' => e = .returned (terr 5) ∧ TV O S s w' ∧ Frm O w w' := by
  have HT : Hid (TV O S s w) := h
  obtain ⟨v, h1, _⟩ := h
  have g0 := h1.sh ho
  have g1 := h1.ow ho
  have l1 := h1.lt
  have hlt : M.owS s o < 65536 := by
    have h2 := M.shS_lt s o
    have h3 := M.owS_lt s o
    have h4 : M.owS s o ||| M.shS s o < 32 := Nat.or_lt_two_pow (n := 5) h3 h2
    omega
  have hh := fun w' => has_any (M.owS s o) t w' (by
    have h2 := M.shS_lt s o
    have h3 := M.owS_lt s o
    have h4 : M.owS s o ||| M.shS s o < 32 := Nat.or_lt_two_pow (n := 5) h3 h2
    omega) (by omega)
  rw [M.ow_has s o ht, decide_eq_false h0] at hh
  rw [terr_ne (by decide)]
  obtain ⟨x1, hx1⟩ : ∃ x : Nat, M.shS s o = x := ⟨_, rfl⟩
  obtain ⟨x2, hx2⟩ : ∃ x : Nat, M.owS s o = x := ⟨_, rfl⟩
  rw [hx1] at g0
  rw [hx2] at g1 hh
  have hoi : (o : Int) < 4 := by omega
  clear h1 hx1 hx2 h0 hlt
  go_enter Tryd.func34, Tryd.ntmps34
  go_wp2_with fail
  go_region
  go_wp2_with fail
  refine (hh _).mono ?_
  rintro e w' ⟨rfl, rfl⟩
  go_wp2_with fail
  go_ret
  exact ⟨rfl, HT.out.below ((bel_al (bel_al (Below.refl _ _) _) _).drew), Frm.of_below ((bel_al (bel_al (Below.refl _ _) _) _).drew)⟩
set_option maxRecDepth 100000 in
set_option maxHeartbeats 4000000 in
theorem act_full0 {O : Nat → Prop} {S : Nat} {s : M.Lk} (t o : Nat) (w : World) (h : TV O S s w) (hle : ∀ x y, s.hd x y ≤ 3) (ht : t < 5) (ho : o < 4) (h0 : s.hd t o ≠ 0) (hL : 24 ≤ s.ac.length) :
    Calls Tryd.prog 34 #[.pointer (some ⟨S, 0, none⟩), .agg #[.int .i64 (t : Nat), .int .i64 (o : Nat), .int .i64 0]] w fun e w' => e = .returned (terr 4) ∧ TV O S s w' ∧ Frm O w w' := by
  have HT : Hid (TV O S s w) := h
  obtain ⟨v, h1, _⟩ := h
  have g0 := h1.sh ho
  have g1 := h1.ow ho
  have l1 := h1.lt
  have hlt : M.owS s o ||| M.shS s o < 65536 := by
    have h2 := M.shS_lt s o
    have h3 := M.owS_lt s o
    have h4 : M.owS s o ||| M.shS s o < 32 := Nat.or_lt_two_pow (n := 5) h3 h2
    omega
  have hh := fun w' => has_any (M.owS s o ||| M.shS s o) t w' (by
    have h2 := M.shS_lt s o
    have h3 := M.owS_lt s o
    have h4 : M.owS s o ||| M.shS s o < 32 := Nat.or_lt_two_pow (n := 5) h3 h2
    omega) (by omega)
  rw [M.any_has' ht (hle t o), decide_eq_true (by simpa using h0)] at hh
  have hor := i64_or_nat (M.owS s o) (M.shS s o) (by have := M.owS_lt s o; omega) (by have := M.shS_lt s o; omega)
  obtain ⟨x3, hx3⟩ : ∃ x : Nat, M.owS s o ||| M.shS s o = x := ⟨_, rfl⟩
  rw [hx3] at hor hh
  rw [terr_ne (by decide)]
  obtain ⟨x1, hx1⟩ : ∃ x : Nat, M.shS s o = x := ⟨_, rfl⟩
  obtain ⟨x2, hx2⟩ : ∃ x : Nat, M.owS s o = x := ⟨_, rfl⟩
  rw [hx1] at g0 hor
  rw [hx2] at g1 hor
  have hoi : (o : Int) < 4 := by omega
  clear h1 hx1 hx2 h0 hle hlt hx3
  go_enter Tryd.func34, Tryd.ntmps34
  go_wp2_with fail
  go_region
  go_wp2_with fail
  refine (hh _).mono ?_
  rintro e w' ⟨rfl, rfl⟩
  obtain ⟨w2, hw2⟩ : ∃ w2, ((w.alloc (.cells #[.int .i64 (t : Nat), .int .i64 (o : Nat), .int .i64 0] 31)).alloc (.cells #[.int .i64 (x1 : Nat), .int .i64 (x2 : Nat)] 70)).drew = w2 := ⟨_, rfl⟩
  have BB : Below w.heap.size w w2 := by rw [← hw2]; exact ((bel_al (bel_al (Below.refl _ _) _) _).drew)
  have T2 := HT.out.below BB
  have ba : AcAt ⟨(t : Nat), (o : Nat), 0⟩ w.heap.size 0 w2 := by rw [← hw2]; exact ((acAt_new w ⟨(t : Nat), (o : Nat), 0⟩).al _).drew
  have b0 : w2.cell? ⟨w.heap.size, 0, none⟩ = some (.int .i64 (t : Nat)) := ba.c0
  have b1 : w2.cell? ⟨w.heap.size, 1, none⟩ = some (.int .i64 (o : Nat)) := ba.c1
  have b2 : w2.cell? ⟨w.heap.size, 2, none⟩ = some (.int .i64 0) := ba.c2
  have lA := ba.lt
  clear ba
  rw [hw2]
  have FT : Hid (TV O S s w2) := T2
  have FB : Hid (Below w.heap.size w w2) := BB
  obtain ⟨v, R, hOS, hOv⟩ := T2
  have hown := R.act
  have ca := R.acts
  have lS := R.lt
  have hbS := R.blk
  have fz := R.blk.frozen 24
  have hne := R.neS
  obtain ⟨ad, c0, rfl⟩ := owns_slice hown
  obtain ⟨L, hLL⟩ : ∃ L, s.ac.length = L := ⟨_, rfl⟩
  rw [hLL] at hL hown ca hne
  clear hh g0 g1 hw2 R BB HT hLL hoi hOS hOv l1 hor
  have hLi : (24 : Int) ≤ (L : Int) := by omega
  go_wp2_with fail
  go_ret
  exact ⟨rfl, FT.out, Frm.of_below FB.out⟩
set_option maxRecDepth 100000 in
set_option maxHeartbeats 4000000 in
theorem act_full1 {O : Nat → Prop} {S : Nat} {s : M.Lk} (t o : Nat) (w : World) (h : TV O S s w) (ht : t < 5) (ho : o < 4) (h0 : 2 ≤ s.hd t o) (hL : 24 ≤ s.ac.length) :
    Calls Tryd.prog 34 #[.pointer (some ⟨S, 0, none⟩), .agg #[.int .i64 (t : Nat), .int .i64 (o : Nat), .int .i64 1]] w fun e w' => e = .returned (terr 4) ∧ TV O S s w' ∧ Frm O w w' := by
  have HT : Hid (TV O S s w) := h
  obtain ⟨v, h1, _⟩ := h
  have g0 := h1.sh ho
  have g1 := h1.ow ho
  have l1 := h1.lt
  have hlt : M.owS s o < 65536 := by
    have h2 := M.shS_lt s o
    have h3 := M.owS_lt s o
    have h4 : M.owS s o ||| M.shS s o < 32 := Nat.or_lt_two_pow (n := 5) h3 h2
    omega
  have hh := fun w' => has_any (M.owS s o) t w' (by
    have h2 := M.shS_lt s o
    have h3 := M.owS_lt s o
    have h4 : M.owS s o ||| M.shS s o < 32 := Nat.or_lt_two_pow (n := 5) h3 h2
    omega) (by omega)
  rw [M.ow_has s o ht, decide_eq_true h0] at hh
  rw [terr_ne (by decide)]
  obtain ⟨x1, hx1⟩ : ∃ x : Nat, M.shS s o = x := ⟨_, rfl⟩
  obtain ⟨x2, hx2⟩ : ∃ x : Nat, M.owS s o = x := ⟨_, rfl⟩
  rw [hx1] at g0
  rw [hx2] at g1 hh
  have hoi : (o : Int) < 4 := by omega
  clear h1 hx1 hx2 h0 hlt
  go_enter Tryd.func34, Tryd.ntmps34
  go_wp2_with fail
  go_region
  go_wp2_with fail
  refine (hh _).mono ?_
  rintro e w' ⟨rfl, rfl⟩
  obtain ⟨w2, hw2⟩ : ∃ w2, ((w.alloc (.cells #[.int .i64 (t : Nat), .int .i64 (o : Nat), .int .i64 1] 31)).alloc (.cells #[.int .i64 (x1 : Nat), .int .i64 (x2 : Nat)] 70)).drew = w2 := ⟨_, rfl⟩
  have BB : Below w.heap.size w w2 := by rw [← hw2]; exact ((bel_al (bel_al (Below.refl _ _) _) _).drew)
  have T2 := HT.out.below BB
  have ba : AcAt ⟨(t : Nat), (o : Nat), 1⟩ w.heap.size 0 w2 := by rw [← hw2]; exact ((acAt_new w ⟨(t : Nat), (o : Nat), 1⟩).al _).drew
  have b0 : w2.cell? ⟨w.heap.size, 0, none⟩ = some (.int .i64 (t : Nat)) := ba.c0
  have b1 : w2.cell? ⟨w.heap.size, 1, none⟩ = some (.int .i64 (o : Nat)) := ba.c1
  have b2 : w2.cell? ⟨w.heap.size, 2, none⟩ = some (.int .i64 1) := ba.c2
  have lA := ba.lt
  clear ba
  rw [hw2]
  have FT : Hid (TV O S s w2) := T2
  have FB : Hid (Below w.heap.size w w2) := BB
  obtain ⟨v, R, hOS, hOv⟩ := T2
  have hown := R.act
  have ca := R.acts
  have lS := R.lt
  have hbS := R.blk
  have fz := R.blk.frozen 24
  have hne := R.neS
  obtain ⟨ad, c0, rfl⟩ := owns_slice hown
  obtain ⟨L, hLL⟩ : ∃ L, s.ac.length = L := ⟨_, rfl⟩
  rw [hLL] at hL hown ca hne
  clear hh g0 g1 hw2 R BB HT hLL hoi hOS hOv l1
  have hLi : (24 : Int) ≤ (L : Int) := by omega
  go_wp2_with fail
  go_ret
  exact ⟨rfl, FT.out, Frm.of_below FB.out⟩
set_option maxRecDepth 100000 in
set_option maxHeartbeats 4000000 in
theorem act_ok0 {O : Nat → Prop} {S : Nat} {s : M.Lk} (t o : Nat) (w : World) (h : TV O S s w) (hle : ∀ x y, s.hd x y ≤ 3) (ht : t < 5) (ho : o < 4) (h0 : s.hd t o ≠ 0) (hL : s.ac.length < 24) (hO : ∀ k, w.heap.size ≤ k → O k) :
    Calls Tryd.prog 34 #[.pointer (some ⟨S, 0, none⟩), .agg #[.int .i64 (t : Nat), .int .i64 (o : Nat), .int .i64 0]] w fun e w' => e = .returned (terr 0) ∧ TV O S (M.sAct s t o 0) w' ∧ Frm O w w' := by
  have HT : Hid (TV O S s w) := h
  obtain ⟨v, h1, _⟩ := h
  have g0 := h1.sh ho
  have g1 := h1.ow ho
  have l1 := h1.lt
  have hlt : M.owS s o ||| M.shS s o < 65536 := by
    have h2 := M.shS_lt s o
    have h3 := M.owS_lt s o
    have h4 : M.owS s o ||| M.shS s o < 32 := Nat.or_lt_two_pow (n := 5) h3 h2
    omega
  have hh := fun w' => has_any (M.owS s o ||| M.shS s o) t w' (by
    have h2 := M.shS_lt s o
    have h3 := M.owS_lt s o
    have h4 : M.owS s o ||| M.shS s o < 32 := Nat.or_lt_two_pow (n := 5) h3 h2
    omega) (by omega)
  rw [M.any_has' ht (hle t o), decide_eq_true (by simpa using h0)] at hh
  have hor := i64_or_nat (M.owS s o) (M.shS s o) (by have := M.owS_lt s o; omega) (by have := M.shS_lt s o; omega)
  obtain ⟨x3, hx3⟩ : ∃ x : Nat, M.owS s o ||| M.shS s o = x := ⟨_, rfl⟩
  rw [hx3] at hor hh
  rw [terr_zero]
  obtain ⟨x1, hx1⟩ : ∃ x : Nat, M.shS s o = x := ⟨_, rfl⟩
  obtain ⟨x2, hx2⟩ : ∃ x : Nat, M.owS s o = x := ⟨_, rfl⟩
  rw [hx1] at g0 hor
  rw [hx2] at g1 hor
  have hoi : (o : Int) < 4 := by omega
  clear h1 hx1 hx2 h0 hle hlt hx3
  go_enter Tryd.func34, Tryd.ntmps34
  go_wp2_with fail
  go_region
  go_wp2_with fail
  refine (hh _).mono ?_
  rintro e w' ⟨rfl, rfl⟩
  obtain ⟨w2, hw2⟩ : ∃ w2, ((w.alloc (.cells #[.int .i64 (t : Nat), .int .i64 (o : Nat), .int .i64 0] 31)).alloc (.cells #[.int .i64 (x1 : Nat), .int .i64 (x2 : Nat)] 70)).drew = w2 := ⟨_, rfl⟩
  have BB : Below w.heap.size w w2 := by rw [← hw2]; exact ((bel_al (bel_al (Below.refl _ _) _) _).drew)
  have T2 := HT.out.below BB
  have ba : AcAt ⟨(t : Nat), (o : Nat), 0⟩ w.heap.size 0 w2 := by rw [← hw2]; exact ((acAt_new w ⟨(t : Nat), (o : Nat), 0⟩).al _).drew
  have b0 : w2.cell? ⟨w.heap.size, 0, none⟩ = some (.int .i64 (t : Nat)) := ba.c0
  have b1 : w2.cell? ⟨w.heap.size, 1, none⟩ = some (.int .i64 (o : Nat)) := ba.c1
  have b2 : w2.cell? ⟨w.heap.size, 2, none⟩ = some (.int .i64 0) := ba.c2
  have lA := ba.lt
  clear ba
  rw [hw2]
  have FT : Hid (TV O S s w2) := T2
  have FB : Hid (Below w.heap.size w w2) := BB
  obtain ⟨v, R, hOS, hOv⟩ := T2
  have hown := R.act
  have ca := R.acts
  have lS := R.lt
  have hbS := R.blk
  have fz := R.blk.frozen 24
  have hne := R.neS
  obtain ⟨ad, c0, rfl⟩ := owns_slice hown
  have FIN : Hid (∀ g cap w5, w5.ownsRow 0 31 3 (.slice (some ⟨g, 0, none⟩) (s.ac.length + 1) cap) (s.ac.length + 1) (acells s.ac ++ [.int .i64 (t : Nat), .int .i64 (o : Nat), .int .i64 0]) → (w2.alloc (.cells #[.int .i64 (t : Nat), .int .i64 (o : Nat), .int .i64 0] 31)).drew.grownBy w5 (Value.slice ad s.ac.length c0).ownBlock → ((Value.slice ad s.ac.length c0).ownBlock = some g ∨ g = w2.heap.size + 1) →
      TV O S (M.sAct s t o 0) (w5.setCell ⟨S, 24, none⟩ (.slice (some ⟨g, 0, none⟩) (s.ac.length + 1) cap)) ∧ Frm O w (w5.setCell ⟨S, 24, none⟩ (.slice (some ⟨g, 0, none⟩) (s.ac.length + 1) cap))) := by
    intro g cap w5 ho' hg hat
    have hgO : O g := by
      rcases hat with e | e
      · exact hOv g e
      · exact hO g (by omega)
    have hk : ∀ k, k < w2.heap.size → (Value.slice ad s.ac.length c0).ownBlock ≠ some k → w5.heap[k]? = w2.heap[k]? := fun k hk hne =>
      (hg.block k (Nat.lt_of_lt_of_le hk (by simp)) (Ne.symm hne)).trans (Below.heap_alloc w2 _ k hk)
    refine ⟨⟨_, R.did (s' := M.sAct s t o 0) rfl rfl rfl hk ?_, hOS, fun g' e => ?_⟩, ?_⟩
    · show w5.ownsRow _ _ _ _ (s.ac ++ [⟨t, o, 0⟩] : List M.SAct).length (acells (s.ac ++ [⟨t, o, 0⟩]))
      rw [acells_snoc, List.length_append]; exact ho'
    · obtain rfl : g = g' := by simpa [Value.ownBlock] using e
      exact hgO
    · exact ((((Frm.of_below (O := O) FB.out).alloc _).drew).grown hg (fun k hk => hOv k hk)).set (p := ⟨S, 24, none⟩) hOS _
  obtain ⟨i0, hi0, hz0, hz1, hz2⟩ := infoAct_parts infoAct
  obtain ⟨L, hLL⟩ : ∃ L, s.ac.length = L := ⟨_, rfl⟩
  rw [hLL] at hL hown ca hne FIN
  clear hh g0 g1 hw2 R BB HT hLL hoi hOS hOv l1 hor hO
  have hLi : (L : Int) < 24 := by omega
  obtain ⟨xs, hxs⟩ : ∃ xs, acells s.ac = xs := ⟨_, rfl⟩
  rw [hxs] at hown FIN
  clear hxs FT FB
  go_wp2_with fail
  go_region_law (refine step_append_lies _ (by rfl) _ _ _ (by rfl) 0 31 i0 _ 3 24 Tryd.underlying22 hi0 hz0 hz1 hz2 rfl (by omega) (.slice ad L c0) L xs (by rfl) ((hown.alloc _).drew) ⟨w2.heap.size, 0, none⟩ 1 1 [.int .i64 (t : Nat), .int .i64 (o : Nat), .int .i64 0] (by rfl) (by rfl) (World.news_of_block (cs := #[.int .i64 (t : Nat), .int .i64 (o : Nat), .int .i64 0]) (t := 31) (fr := (0, 0)) (heap_alloc_new w2 _)) (by simp [Value.oneCell']) (by omega) (by unfold maxLen; omega) (by omega) (by simp) (w2.heap.size + 1) (by simp) ?_; intro g cap w5 hown5 hgrow5 hat5 hlt5; have bq5 := hbS.of_block (w' := w5) ((hgrow5.block S (Nat.lt_of_lt_of_le lS (by simp)) (Ne.symm hne)).trans (Below.heap_alloc w2 _ S lS)); have q05 := bq5.cell (i := 24) (by omega); have f05 := bq5.frozen 24)
  all_goals go_wp2_with fail
  all_goals go_ret
  all_goals exact ⟨rfl, (FIN.out _ _ _ hown5 hgrow5 hat5).1.heap rfl, (FIN.out _ _ _ hown5 hgrow5 hat5).2.heap rfl rfl rfl rfl⟩
set_option maxRecDepth 100000 in
set_option maxHeartbeats 4000000 in
theorem act_ok1 {O : Nat → Prop} {S : Nat} {s : M.Lk} (t o : Nat) (w : World) (h : TV O S s w) (ht : t < 5) (ho : o < 4) (h0 : 2 ≤ s.hd t o) (hL : s.ac.length < 24) (hO : ∀ k, w.heap.size ≤ k → O k) :
    Calls Tryd.prog 34 #[.pointer (some ⟨S, 0, none⟩), .agg #[.int .i64 (t : Nat), .int .i64 (o : Nat), .int .i64 1]] w fun e w' => e = .returned (terr 0) ∧ TV O S (M.sAct s t o 1) w' ∧ Frm O w w' := by
  have HT : Hid (TV O S s w) := h
  obtain ⟨v, h1, _⟩ := h
  have g0 := h1.sh ho
  have g1 := h1.ow ho
  have l1 := h1.lt
  have hlt : M.owS s o < 65536 := by
    have h2 := M.shS_lt s o
    have h3 := M.owS_lt s o
    have h4 : M.owS s o ||| M.shS s o < 32 := Nat.or_lt_two_pow (n := 5) h3 h2
    omega
  have hh := fun w' => has_any (M.owS s o) t w' (by
    have h2 := M.shS_lt s o
    have h3 := M.owS_lt s o
    have h4 : M.owS s o ||| M.shS s o < 32 := Nat.or_lt_two_pow (n := 5) h3 h2
    omega) (by omega)
  rw [M.ow_has s o ht, decide_eq_true h0] at hh
  rw [terr_zero]
  obtain ⟨x1, hx1⟩ : ∃ x : Nat, M.shS s o = x := ⟨_, rfl⟩
  obtain ⟨x2, hx2⟩ : ∃ x : Nat, M.owS s o = x := ⟨_, rfl⟩
  rw [hx1] at g0
  rw [hx2] at g1 hh
  have hoi : (o : Int) < 4 := by omega
  clear h1 hx1 hx2 h0 hlt
  go_enter Tryd.func34, Tryd.ntmps34
  go_wp2_with fail
  go_region
  go_wp2_with fail
  refine (hh _).mono ?_
  rintro e w' ⟨rfl, rfl⟩
  obtain ⟨w2, hw2⟩ : ∃ w2, ((w.alloc (.cells #[.int .i64 (t : Nat), .int .i64 (o : Nat), .int .i64 1] 31)).alloc (.cells #[.int .i64 (x1 : Nat), .int .i64 (x2 : Nat)] 70)).drew = w2 := ⟨_, rfl⟩
  have BB : Below w.heap.size w w2 := by rw [← hw2]; exact ((bel_al (bel_al (Below.refl _ _) _) _).drew)
  have T2 := HT.out.below BB
  have ba : AcAt ⟨(t : Nat), (o : Nat), 1⟩ w.heap.size 0 w2 := by rw [← hw2]; exact ((acAt_new w ⟨(t : Nat), (o : Nat), 1⟩).al _).drew
  have b0 : w2.cell? ⟨w.heap.size, 0, none⟩ = some (.int .i64 (t : Nat)) := ba.c0
  have b1 : w2.cell? ⟨w.heap.size, 1, none⟩ = some (.int .i64 (o : Nat)) := ba.c1
  have b2 : w2.cell? ⟨w.heap.size, 2, none⟩ = some (.int .i64 1) := ba.c2
  have lA := ba.lt
  clear ba
  rw [hw2]
  have FT : Hid (TV O S s w2) := T2
  have FB : Hid (Below w.heap.size w w2) := BB
  obtain ⟨v, R, hOS, hOv⟩ := T2
  have hown := R.act
  have ca := R.acts
  have lS := R.lt
  have hbS := R.blk
  have fz := R.blk.frozen 24
  have hne := R.neS
  obtain ⟨ad, c0, rfl⟩ := owns_slice hown
  have FIN : Hid (∀ g cap w5, w5.ownsRow 0 31 3 (.slice (some ⟨g, 0, none⟩) (s.ac.length + 1) cap) (s.ac.length + 1) (acells s.ac ++ [.int .i64 (t : Nat), .int .i64 (o : Nat), .int .i64 1]) → (w2.alloc (.cells #[.int .i64 (t : Nat), .int .i64 (o : Nat), .int .i64 1] 31)).drew.grownBy w5 (Value.slice ad s.ac.length c0).ownBlock → ((Value.slice ad s.ac.length c0).ownBlock = some g ∨ g = w2.heap.size + 1) →
      TV O S (M.sAct s t o 1) (w5.setCell ⟨S, 24, none⟩ (.slice (some ⟨g, 0, none⟩) (s.ac.length + 1) cap)) ∧ Frm O w (w5.setCell ⟨S, 24, none⟩ (.slice (some ⟨g, 0, none⟩) (s.ac.length + 1) cap))) := by
    intro g cap w5 ho' hg hat
    have hgO : O g := by
      rcases hat with e | e
      · exact hOv g e
      · exact hO g (by omega)
    have hk : ∀ k, k < w2.heap.size → (Value.slice ad s.ac.length c0).ownBlock ≠ some k → w5.heap[k]? = w2.heap[k]? := fun k hk hne =>
      (hg.block k (Nat.lt_of_lt_of_le hk (by simp)) (Ne.symm hne)).trans (Below.heap_alloc w2 _ k hk)
    refine ⟨⟨_, R.did (s' := M.sAct s t o 1) rfl rfl rfl hk ?_, hOS, fun g' e => ?_⟩, ?_⟩
    · show w5.ownsRow _ _ _ _ (s.ac ++ [⟨t, o, 1⟩] : List M.SAct).length (acells (s.ac ++ [⟨t, o, 1⟩]))
      rw [acells_snoc, List.length_append]; exact ho'
    · obtain rfl : g = g' := by simpa [Value.ownBlock] using e
      exact hgO
    · exact ((((Frm.of_below (O := O) FB.out).alloc _).drew).grown hg (fun k hk => hOv k hk)).set (p := ⟨S, 24, none⟩) hOS _
  obtain ⟨i0, hi0, hz0, hz1, hz2⟩ := infoAct_parts infoAct
  obtain ⟨L, hLL⟩ : ∃ L, s.ac.length = L := ⟨_, rfl⟩
  rw [hLL] at hL hown ca hne FIN
  clear hh g0 g1 hw2 R BB HT hLL hoi hOS hOv l1 hO
  have hLi : (L : Int) < 24 := by omega
  obtain ⟨xs, hxs⟩ : ∃ xs, acells s.ac = xs := ⟨_, rfl⟩
  rw [hxs] at hown FIN
  clear hxs FT FB
  go_wp2_with fail
  go_region_law (refine step_append_lies _ (by rfl) _ _ _ (by rfl) 0 31 i0 _ 3 24 Tryd.underlying22 hi0 hz0 hz1 hz2 rfl (by omega) (.slice ad L c0) L xs (by rfl) ((hown.alloc _).drew) ⟨w2.heap.size, 0, none⟩ 1 1 [.int .i64 (t : Nat), .int .i64 (o : Nat), .int .i64 1] (by rfl) (by rfl) (World.news_of_block (cs := #[.int .i64 (t : Nat), .int .i64 (o : Nat), .int .i64 1]) (t := 31) (fr := (0, 0)) (heap_alloc_new w2 _)) (by simp [Value.oneCell']) (by omega) (by unfold maxLen; omega) (by omega) (by simp) (w2.heap.size + 1) (by simp) ?_; intro g cap w5 hown5 hgrow5 hat5 hlt5; have bq5 := hbS.of_block (w' := w5) ((hgrow5.block S (Nat.lt_of_lt_of_le lS (by simp)) (Ne.symm hne)).trans (Below.heap_alloc w2 _ S lS)); have q05 := bq5.cell (i := 24) (by omega); have f05 := bq5.frozen 24)
  all_goals go_wp2_with fail
  all_goals go_ret
  all_goals exact ⟨rfl, (FIN.out _ _ _ hown5 hgrow5 hat5).1.heap rfl, (FIN.out _ _ _ hown5 hgrow5 hat5).2.heap rfl rfl rfl rfl⟩
end Go.Proofs.YtlkdclifcmohlaaDoor
namespace Go.Proofs.YtlkdclifcmohlaaDoor
open Go.RowKit
namespace M
/-- what always holds of locks, and within which bounds -/
structure LG (s : Lk) : Prop where
  li : LI s
  wb : ∀ t, s.wa t ≤ 8
  len : s.ac.length ≤ 24
  acs : ∀ a, a ∈ s.ac → a.tx < 5 ∧ a.it < 4 ∧ a.wr < 2
theorem LG.zero : LG lk0 := ⟨LI.zero, fun _ => Nat.zero_le _, Nat.zero_le _, fun _ h => absurd h (List.not_mem_nil)⟩
theorem LG.step {s : Lk} (h : LG s) {k t o wr : Nat} (hk : k ≤ 3) (ht : t < 5) (ho : o < 4) (hw : k = 3 → wr < 2) : LG (lkDo s k t o wr).1 := by
  refine ⟨h.li.step k o wr ht, ?_, ?_, ?_⟩
  · unfold lkDo
    have u : ∀ n, n ≤ 8 → ∀ x, up1 s.wa t n x ≤ 8 := fun n hn x => by
      unfold up1
      split
      · exact hn
      · exact h.wb x
    split
    · split
      · exact h.wb
      · split
        · exact u _ (by omega)
        · exact u _ (by omega)
    · split
      · split <;> exact h.wb
      · split
        · exact h.wb
        · split <;> exact h.wb
  · unfold lkDo
    split
    · split
      · exact h.len
      · split <;> exact h.len
    · split
      · split <;> exact h.len
      · split
        · exact h.len
        · split
          · exact h.len
          · have := h.len
            simp only [List.length_append, List.length_cons, List.length_nil]; omega
  · unfold lkDo
    split
    · split
      · exact h.acs
      · split <;> exact h.acs
    · split
      · split <;> exact h.acs
      · split
        · exact h.acs
        · split
          · exact h.acs
          · intro a ha
            rcases List.mem_append.1 ha with e | e
            · exact h.acs a e
            · rw [List.mem_singleton] at e
              subst e
              exact ⟨ht, ho, hw (by omega)⟩
theorem LG.aok {s : Lk} (h : LG s) : AOk s.ac := aok_of h.len h.acs
end M
/-- a deed of whole numbers: the locks behind it, and what is wrong -/
def lkZ (s : M.Lk) (k t o x : Int) : M.Lk × Nat := if dIn k t o x = true then M.lkDo s k.toNat t.toNat o.toNat x.toNat else (s, 1)
theorem dIn_true {k t o x : Int} (h : dIn k t o x = true) : (0 ≤ k ∧ k ≤ 3) ∧ (0 ≤ t ∧ t < 5) ∧ (0 ≤ o ∧ o < 4) ∧ (k = 3 → 0 ≤ x ∧ x < 2) := by
  unfold dIn thingZ at h
  simp only [Bool.and_eq_true, Bool.or_eq_true, decide_eq_true_eq] at h
  obtain ⟨⟨⟨h1, h2⟩, h3⟩, h4⟩ := h
  refine ⟨h1, by omega, by omega, fun e => ?_⟩
  rcases h4 with h | h
  · exact absurd e h
  · omega
theorem M.LG.z {s : M.Lk} (h : M.LG s) (k t o x : Int) : M.LG (lkZ s k t o x).1 := by
  unfold lkZ
  by_cases e : dIn k t o x = true
  · rw [if_pos e]
    have := dIn_true e
    exact h.step (by omega) (by omega) (by omega) (fun e => by omega)
  · rw [if_neg e]; exact h
/-! ### deeds in memory -/
structure Dz where
  k : Int
  t : Int
  i : Int
  x : Int
def dAt (zs : List Dz) (j : Nat) : Dz := zs[j]?.getD ⟨0, 0, 0, 0⟩
structure DeAt (o : Dz) (b k : Nat) (w : World) : Prop where
  lt : b < w.heap.size
  c0 : w.cell? ⟨b, k, none⟩ = some (.int .i64 o.k)
  c1 : w.cell? ⟨b, k + 1, none⟩ = some (.int .i64 o.t)
  c2 : w.cell? ⟨b, k + 2, none⟩ = some (.int .i64 o.i)
  c3 : w.cell? ⟨b, k + 3, none⟩ = some (.int .i64 o.x)
theorem DeAt.later {o : Dz} {b k N : Nat} {w w' : World} (h : DeAt o b k w) (hb : Below N w w') (hN : b < N) : DeAt o b k w' :=
  ⟨by have := hb.size; have := h.lt; omega, (hb.cell (p := ⟨b, k, none⟩) hN).trans h.c0, (hb.cell (p := ⟨b, k + 1, none⟩) hN).trans h.c1, (hb.cell (p := ⟨b, k + 2, none⟩) hN).trans h.c2, (hb.cell (p := ⟨b, k + 3, none⟩) hN).trans h.c3⟩
/-- The slice's address p leads to the deeds zs. -/
def HasD (zs : List Dz) (p : Option Addr) (w : World) : Prop := ∀ j, j < zs.length → ∃ b off, p = some ⟨b, off, none⟩ ∧ DeAt (dAt zs j) b (off + j * 4) w
theorem HasD.later {zs : List Dz} {p : Option Addr} {w w' : World} (h : HasD zs p w) (hb : Below w.heap.size w w') : HasD zs p w' := fun j hj => by
  obtain ⟨b, off, h1, h2⟩ := h j hj
  exact ⟨b, off, h1, h2.later hb h2.lt⟩
theorem deAt_new (w : World) (o : Dz) : DeAt o w.heap.size 0 (w.alloc (.cells #[.int .i64 o.k, .int .i64 o.t, .int .i64 o.i, .int .i64 o.x] 53)) :=
  ⟨by simp, by rw [cell_of_row _ _ _ _ _ _ (World.alloc_heap_new w _)]; rfl, by rw [cell_of_row _ _ _ _ _ _ (World.alloc_heap_new w _)]; rfl, by rw [cell_of_row _ _ _ _ _ _ (World.alloc_heap_new w _)]; rfl, by rw [cell_of_row _ _ _ _ _ _ (World.alloc_heap_new w _)]; rfl⟩
/-! ### the parts of a deed -/
theorem flock_ok {O : Nat → Prop} {S : Nat} {s : M.Lk} (k t o x : Nat) (w : World) (h : TV O S s w) (hG : M.LG s) (hk : k ≤ 1) (ht : t < 5) (ho : o < 4) :
    Calls Tryd.prog 35 #[.pointer (some ⟨S, 0, none⟩), .int .i64 (k : Nat), .int .i64 (t : Nat), .int .i64 (o : Nat)] w fun e w' => e = .returned (terr (M.lkDo s k t o x).2) ∧ TV O S (M.lkDo s k t o x).1 w' ∧ Frm O w w' := by
  by_cases f : t ∈ s.fo
  · rw [M.lk_state hk f]; exact lock_state k t o w h ht f
  · by_cases a : M.agS s t o k = 0
    · rw [M.lk_got hk f a]; exact lock_got k t o w h hG.li.le hk ht ho f a
    · rw [M.lk_wait hk f a]; exact lock_wait k t o w h hG.li.le hk ht ho f a
theorem ffree_ok {O : Nat → Prop} {S : Nat} {s : M.Lk} (t o x : Nat) (w : World) (h : TV O S s w) (hG : M.LG s) (ht : t < 5) (ho : o < 4) :
    Calls Tryd.prog 33 #[.pointer (some ⟨S, 0, none⟩), .int .i64 (t : Nat), .int .i64 (o : Nat)] w fun e w' => e = .returned (terr (M.lkDo s 2 t o x).2) ∧ TV O S (M.lkDo s 2 t o x).1 w' ∧ Frm O w w' := by
  by_cases a : s.hd t o = 0
  · rw [M.lk_nofree a]; exact free_none t o w h hG.li.le ht ho a
  · rw [M.lk_free a]; exact free_ok t o w h hG.li.le ht ho a
theorem lact_ok {O : Nat → Prop} {S : Nat} {s : M.Lk} (t o x : Nat) (w : World) (h : TV O S s w) (hO : ∀ k, w.heap.size ≤ k → O k) (hG : M.LG s) (ht : t < 5) (ho : o < 4) (hx : x < 2) :
    Calls Tryd.prog 34 #[.pointer (some ⟨S, 0, none⟩), .agg #[.int .i64 (t : Nat), .int .i64 (o : Nat), .int .i64 (x : Nat)]] w fun e w' => e = .returned (terr (M.lkDo s 3 t o x).2) ∧ TV O S (M.lkDo s 3 t o x).1 w' ∧ Frm O w w' := by
  have hx' : x = 0 ∨ x = 1 := by omega
  rcases hx' with rfl | rfl
  · by_cases a : s.hd t o = 0
    · rw [M.lk_none (.inl a)]; exact act_none0 t o w h hG.li.le ht ho a
    · have a' : ¬ (s.hd t o = 0 ∨ (s.hd t o = 1 ∧ 0 = 1)) := by omega
      by_cases l : 24 ≤ s.ac.length
      · rw [M.lk_full a' l]; exact act_full0 t o w h hG.li.le ht ho a l
      · rw [M.lk_act a' l]; exact act_ok0 t o w h hG.li.le ht ho a (by omega) hO
  · by_cases a : 2 ≤ s.hd t o
    · have a' : ¬ (s.hd t o = 0 ∨ (s.hd t o = 1 ∧ 1 = 1)) := by omega
      by_cases l : 24 ≤ s.ac.length
      · rw [M.lk_full a' l]; exact act_full1 t o w h ht ho a l
      · rw [M.lk_act a' l]; exact act_ok1 t o w h ht ho a (by omega) hO
    · rw [M.lk_none (by omega)]; exact act_none1 t o w h ht ho a
set_option maxHeartbeats 2000000 in
theorem ldo_ok {O : Nat → Prop} {S : Nat} {s : M.Lk} (k t o x : Int) (w : World) (h : TV O S s w) (hO : ∀ k, w.heap.size ≤ k → O k) (hG : M.LG s) :
    Calls Tryd.prog 19 #[.pointer (some ⟨S, 0, none⟩), dV k t o x] w fun e w' => e = .returned (terr (lkZ s k t o x).2) ∧ TV O S (lkZ s k t o x).1 w' ∧ Frm O w w' := by
  have HT : Hid (TV O S s w) := h
  have HO : Hid (∀ k, w.heap.size ≤ k → O k) := hO
  have HG : Hid (M.LG s) := hG
  have hd := fun w' => isDeed_ok k t o x w'
  have l1 := h.lt
  clear h hO hG
  cases e : dIn k t o x with
  | false =>
    have e1 : lkZ s k t o x = (s, 1) := by unfold lkZ; rw [e]; rfl
    rw [e1]
    show Calls _ _ _ _ fun e w' => e = .returned (terr 1) ∧ TV O S s w' ∧ _
    rw [terr_ne (by decide)]
    rw [e] at hd
    clear e e1
    go_enter Tryd.func19, Tryd.ntmps19
    go_wp2_with fail
    refine (hd _).mono ?_
    rintro e w1 ⟨rfl, hB1⟩
    have BB : Hid (Below w.heap.size w w1) := (bel_al (Below.refl _ _) _).trans (hB1.mono (by simp))
    clear hB1 hd
    go_wp2_with fail
    go_ret
    exact ⟨rfl, HT.out.below BB.out, Frm.of_below BB.out⟩
  | true =>
    obtain ⟨⟨k0, k3⟩, ⟨t0, t5⟩, ⟨o0, o4⟩, hx⟩ := dIn_true e
    have e1 : Hid (lkZ s k t o x = M.lkDo s k.toNat t.toNat o.toNat x.toNat) := by show _ = _; unfold lkZ; rw [if_pos e]
    rw [e] at hd
    clear e
    obtain ⟨t, rfl⟩ : ∃ n : Nat, t = n := ⟨t.toNat, by omega⟩
    obtain ⟨o, rfl⟩ : ∃ n : Nat, o = n := ⟨o.toNat, by omega⟩
    have ht : t < 5 := by omega
    have ho : o < 4 := by omega
    obtain ⟨w0, hw0⟩ : ∃ w0, w.alloc (.cells #[.int .i64 k, .int .i64 (t : Nat), .int .i64 (o : Nat), .int .i64 x] 53) = w0 := ⟨_, rfl⟩
    have B0 : Below w.heap.size w w0 := by rw [← hw0]; exact bel_al (Below.refl _ _) _
    have D0 : DeAt ⟨k, (t : Nat), (o : Nat), x⟩ w.heap.size 0 w0 := by rw [← hw0]; exact deAt_new w ⟨k, (t : Nat), (o : Nat), x⟩
    have q0 := D0.c0
    have q1 : w0.cell? ⟨w.heap.size, 1, none⟩ = some (.int .i64 (t : Nat)) := D0.c1
    have q2 : w0.cell? ⟨w.heap.size, 2, none⟩ = some (.int .i64 (o : Nat)) := D0.c2
    have q3 : w0.cell? ⟨w.heap.size, 3, none⟩ = some (.int .i64 x) := D0.c3
    simp only at q0
    have L0 := D0.lt
    have K0 : Hid (DeAt ⟨k, (t : Nat), (o : Nat), x⟩ w.heap.size 0 w0 ∧ Below w.heap.size w w0) := ⟨D0, B0⟩
    clear D0 B0
    have main : ∀ w1, Below w0.heap.size w0 w1 → Hid (TV O S s w1 ∧ (∀ k, w1.heap.size ≤ k → O k) ∧ Frm O w w1) ∧ DeAt ⟨k, (t : Nat), (o : Nat), x⟩ w.heap.size 0 w1 := fun w1 hb => by
      have bb := K0.out.2.trans (hb.mono K0.out.2.size)
      exact ⟨⟨HT.out.below bb, fun k hk => HO.out k (Nat.le_trans bb.size hk), Frm.of_below bb⟩, K0.out.1.later hb K0.out.1.lt⟩
    by_cases h2 : k = 2
    · subst h2
      rw [e1.out]
      have hc := fun w1 (h : TV O S s w1) => ffree_ok t o x.toNat w1 h HG.out ht ho
      rw [show (2 : Int).toNat = 2 from rfl, Int.toNat_natCast, Int.toNat_natCast]
      obtain ⟨r, hr⟩ : ∃ r, M.lkDo s 2 t o x.toNat = r := ⟨_, rfl⟩
      rw [hr] at hc ⊢
      clear hr e1 hx HG t0 t5 o0 o4 k0 k3
      go_enter Tryd.func19, Tryd.ntmps19
      go_wp2_with fail
      refine (hd _).mono ?_
      rintro e w1 ⟨rfl, hB1⟩
      obtain ⟨M1, D1⟩ := main w1 hB1
      have d0 := D1.c0
      have d1 : w1.cell? ⟨w.heap.size, 1, none⟩ = some (.int .i64 (t : Nat)) := D1.c1
      have d2 : w1.cell? ⟨w.heap.size, 2, none⟩ = some (.int .i64 (o : Nat)) := D1.c2
      simp only at d0
      have dl := D1.lt
      clear D1 hB1 main hd q0 q1 q2 q3 L0 K0 hw0
      go_wp2_with fail
      refine (hc w1 M1.out.1).mono ?_
      rintro e w2 ⟨rfl, h2, h3⟩
      have F2 : Hid (TV O S r.1 w2 ∧ Frm O w w2) := ⟨h2, M1.out.2.2.trans h3⟩
      clear h2 h3
      go_wp2_with fail
      go_ret
      exact ⟨rfl, F2.out⟩
    by_cases h3 : k = 3
    · subst h3
      rw [e1.out]
      obtain ⟨x, rfl⟩ : ∃ n : Nat, x = n := ⟨x.toNat, by have := hx rfl; omega⟩
      have hx2 : x < 2 := by have := hx rfl; omega
      have hc := fun w1 (h : TV O S s w1) (hO : ∀ k, w1.heap.size ≤ k → O k) => lact_ok t o x w1 h hO HG.out ht ho hx2
      rw [show (3 : Int).toNat = 3 from rfl, Int.toNat_natCast, Int.toNat_natCast, Int.toNat_natCast]
      obtain ⟨r, hr⟩ : ∃ r, M.lkDo s 3 t o x = r := ⟨_, rfl⟩
      rw [hr] at hc ⊢
      clear hr e1 hx HG t0 t5 o0 o4 k0 k3 h2
      go_enter Tryd.func19, Tryd.ntmps19
      go_wp2_with fail
      refine (hd _).mono ?_
      rintro e w1 ⟨rfl, hB1⟩
      obtain ⟨M1, D1⟩ := main w1 hB1
      have d0 := D1.c0
      have d1 : w1.cell? ⟨w.heap.size, 1, none⟩ = some (.int .i64 (t : Nat)) := D1.c1
      have d2 : w1.cell? ⟨w.heap.size, 2, none⟩ = some (.int .i64 (o : Nat)) := D1.c2
      have d3 : w1.cell? ⟨w.heap.size, 3, none⟩ = some (.int .i64 (x : Nat)) := D1.c3
      simp only at d0
      have dl := D1.lt
      clear D1 hB1 main hd q0 q1 q2 q3 L0 K0 hw0
      go_wp2_with fail
      refine (hc w1 M1.out.1 M1.out.2.1).mono ?_
      rintro e w2 ⟨rfl, h2, h3⟩
      have F2 : Hid (TV O S r.1 w2 ∧ Frm O w w2) := ⟨h2, M1.out.2.2.trans h3⟩
      clear h2 h3
      go_wp2_with fail
      go_ret
      exact ⟨rfl, F2.out⟩
    · rw [e1.out]
      obtain ⟨k, rfl⟩ : ∃ n : Nat, k = n := ⟨k.toNat, by omega⟩
      have hk : k ≤ 1 := by omega
      have hk2 : ((k : Int) == 2) = false := by simp; omega
      have hk3 : ((k : Int) == 3) = false := by simp; omega
      have hc := fun w1 (h : TV O S s w1) => flock_ok k t o x.toNat w1 h HG.out hk ht ho
      rw [Int.toNat_natCast, Int.toNat_natCast, Int.toNat_natCast]
      obtain ⟨r, hr⟩ : ∃ r, M.lkDo s k t o x.toNat = r := ⟨_, rfl⟩
      rw [hr] at hc ⊢
      clear hr e1 hx HG t0 t5 o0 o4 k0 k3 h2 h3
      go_enter Tryd.func19, Tryd.ntmps19
      go_wp2_with fail
      refine (hd _).mono ?_
      rintro e w1 ⟨rfl, hB1⟩
      obtain ⟨M1, D1⟩ := main w1 hB1
      have d0 := D1.c0
      have d1 : w1.cell? ⟨w.heap.size, 1, none⟩ = some (.int .i64 (t : Nat)) := D1.c1
      have d2 : w1.cell? ⟨w.heap.size, 2, none⟩ = some (.int .i64 (o : Nat)) := D1.c2
      simp only at d0
      have dl := D1.lt
      clear D1 hB1 main hd q0 q1 q2 q3 L0 K0 hw0
      go_wp2_with fail
      refine (hc w1 M1.out.1).mono ?_
      rintro e w2 ⟨rfl, h2, h3⟩
      have F2 : Hid (TV O S r.1 w2 ∧ Frm O w w2) := ⟨h2, M1.out.2.2.trans h3⟩
      clear h2 h3
      go_wp2_with fail
      go_ret
      exact ⟨rfl, F2.out⟩
end Go.Proofs.YtlkdclifcmohlaaDoor
