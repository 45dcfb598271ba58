/- Whether a deed may be (package lock, isDeed), and who stands against a lock (against); what lay in memory lies as it lay. -/
import Derived.Test.YtcjodlgkmbmcgaaDoorLo0
import Derived.Test.YtcjodlgkmbmcgaaDoorSc1
import Derived.Test.YtcjodlgkmbmcgaaDoorFaces
namespace Go.Proofs.YtcjodlgkmbmcgaaDoor
open Go.RowKit

/-- may the numbers of a deed be? -/
def dIn (k t i x : Int) : Bool := decide (0 ≤ k ∧ k ≤ 3) && thingZ t 5 && thingZ i 4 && (decide (k ≠ 3) || thingZ x 2)
abbrev dV (k t i x : Int) : Value := .agg #[.int .i64 k, .int .i64 t, .int .i64 i, .int .i64 x]
set_option maxHeartbeats 2000000 in
theorem isDeed_ok (k t i x : Int) (w : World) : Calls Tryd.prog 24 #[dV k t i x] w fun e w' => e = .returned (.bool (dIn k t i x)) ∧ Below w.heap.size w w' := by
  have F : ∀ o, Hid (Below w.heap.size w (w.alloc o)) := fun o => bel_al (Below.refl _ _) o
  by_cases h1 : k < 0
  · have e : dIn k t i x = false := by unfold dIn; rw [decide_eq_false (by omega)]; rfl
    rw [e]
    clear e
    go_enter Tryd.func24, Tryd.ntmps24
    go_wp2_with fail
    go_ret
    exact ⟨rfl, (F _).out⟩
  by_cases h2 : 3 < k
  · have e : dIn k t i x = false := by unfold dIn; rw [decide_eq_false (by omega)]; rfl
    rw [e]
    have h1' : 0 ≤ k := by omega
    clear e h1
    go_enter Tryd.func24, Tryd.ntmps24
    go_wp2_with fail
    go_ret
    exact ⟨rfl, (F _).out⟩
  have hk0 : 0 ≤ k := by omega
  have hk3 : k ≤ 3 := by omega
  have e0 : Hid (dIn k t i x = (thingZ t 5 && thingZ i 4 && (decide (k ≠ 3) || thingZ x 2))) := by
    show _ = _
    unfold dIn; rw [decide_eq_true ⟨hk0, hk3⟩]; simp
  have c1 := fun w' => isThing_z t 5 w'
  have c2 := fun w' => isThing_z i 4 w'
  have c3 := fun w' => isThing_z x 2 w'
  obtain ⟨b1, hb1⟩ : ∃ b, thingZ t 5 = b := ⟨_, rfl⟩
  obtain ⟨b2, hb2⟩ : ∃ b, thingZ i 4 = b := ⟨_, rfl⟩
  obtain ⟨b3, hb3⟩ : ∃ b, thingZ x 2 = b := ⟨_, rfl⟩
  rw [hb1] at c1
  rw [hb2] at c2
  rw [hb3] at c3
  rw [hb1, hb2, hb3] at e0
  clear h1 h2 hb1 hb2 hb3
  cases b1 with
  | false =>
    go_enter Tryd.func24, Tryd.ntmps24
    go_wp2_with fail
    refine (c1 _).mono ?_
    rintro e w' ⟨rfl, rfl⟩
    go_wp2_with fail
    go_ret
    exact ⟨by rw [e0.out]; rfl, (F _).out⟩
  | true =>
  cases b2 with
  | false =>
    go_enter Tryd.func24, Tryd.ntmps24
    go_wp2_with fail
    refine (c1 _).mono ?_
    rintro e w' ⟨rfl, rfl⟩
    go_wp2_with fail
    refine (c2 _).mono ?_
    rintro e w' ⟨rfl, rfl⟩
    go_wp2_with fail
    go_ret
    exact ⟨by rw [e0.out]; rfl, (F _).out⟩
  | true =>
  by_cases h3 : k = 3
  · subst h3
    have e1 : Hid (dIn 3 t i x = b3) := by show _ = _; rw [e0.out]; simp
    clear e0
    go_enter Tryd.func24, Tryd.ntmps24
    go_wp2_with fail
    refine (c1 _).mono ?_
    rintro e w' ⟨rfl, rfl⟩
    go_wp2_with fail
    refine (c2 _).mono ?_
    rintro e w' ⟨rfl, rfl⟩
    go_wp2_with fail
    refine (c3 _).mono ?_
    rintro e w' ⟨rfl, rfl⟩
    go_wp2_with fail
    go_ret
    exact ⟨by rw [e1.out]; rfl, (F _).out⟩
  · have e1 : Hid (dIn k t i x = true) := by show _ = _; rw [e0.out]; simp [h3]
    have h3' : (k == 3) = false := by simp [h3]
    have h3n : (k != 3) = true := by simp [h3]
    clear e0 h3
    go_enter Tryd.func24, Tryd.ntmps24
    go_wp2_with fail
    refine (c1 _).mono ?_
    rintro e w' ⟨rfl, rfl⟩
    go_wp2_with fail
    refine (c2 _).mono ?_
    rintro e w' ⟨rfl, rfl⟩
    go_wp2_with fail
    go_ret
    exact ⟨by rw [e1.out]; rfl, (F _).out⟩
theorem i64_andNot_l (a b : Nat) (ha : a < 65536) (hb : b < 65536) : ∃ r : Nat, bits .andNot .i64 (a : Int) (b : Int) = (r : Int) ∧ r ≤ a ∧ ∀ j, r.testBit j = (a.testBit j && !b.testBit j) := by
  obtain ⟨r, hr⟩ : ∃ r : Nat, (BitVec.ofInt 64 (a : Int) &&& ~~~BitVec.ofInt 64 (b : Int)).toNat = r := ⟨_, rfl⟩
  have hle : r ≤ a := by
    rw [← hr, BitVec.toNat_and, ofInt_i64 a ha]
    exact Nat.and_le_left
  have hbit : ∀ j, r.testBit j = (a.testBit j && !b.testBit j) := fun j => by
    rw [← hr, BitVec.toNat_and, BitVec.toNat_not, Nat.testBit_and, ofInt_i64 a ha, ofInt_i64 b hb]
    by_cases hj : j < 64
    · rw [show (2 ^ 64 - 1 - b) = 2 ^ 64 - (b + 1) by omega, Nat.testBit_two_pow_sub_succ (by omega)]
      simp [hj]
    · have : a.testBit j = false := Nat.testBit_lt_two_pow (Nat.lt_of_lt_of_le ha (Nat.pow_le_pow_right (n := 2) (by omega) (by omega : 16 ≤ j)))
      rw [this]; simp
  refine ⟨r, ?_, hle, hbit⟩
  show IntKind.i64.wrap ((BitVec.ofInt 64 (a : Int) &&& ~~~BitVec.ofInt 64 (b : Int)).toNat : Int) = _
  rw [hr, i64_wrap_nat _ (by omega)]
theorem one_lt {t : Nat} (ht : t < 5) : 1 <<< t < 65536 := by rw [Nat.shiftLeft_eq, Nat.one_mul]; have := pow_lt t (by omega); omega
set_option maxRecDepth 100000 in
set_option maxHeartbeats 1000000 in
theorem against_ok {O : Nat → Prop} {S : Nat} {s : M.Lk} (k t o : Nat) (w : World) (h : TV O S s w) (hle : ∀ x y, s.hd x y ≤ 3) (hk : k ≤ 1) (ht : t < 5) (ho : o < 4) :
    Calls Tryd.prog 32 #[.pointer (some ⟨S, 0, none⟩), .int .i64 (k : Nat), .int .i64 (t : Nat), .int .i64 (o : Nat)] w fun e w' => e = .returned (.int .i64 (M.agS s t o k : Nat)) ∧ Below w.heap.size w w' := by
  obtain ⟨v, h1, _⟩ := h
  have g1 := h1.sh ho
  have g2 := h1.ow ho
  have l1 := h1.lt
  have s1 := M.shS_lt s o
  have s2 := M.owS_lt s o
  have hoi : (o : Int) < 4 := by omega
  have hsh : IntKind.i64.wrap (2 ^ t) = ((1 <<< t : Nat) : Int) := i64_shl t (by omega)
  have hti := one_lt ht
  have F : ∀ o, Hid (Below w.heap.size w (w.alloc o)) := fun o => bel_al (Below.refl _ _) o
  have hk' : k = 0 ∨ k = 1 := by omega
  rcases hk' with rfl | rfl
  · obtain ⟨r, hr1, hr2, hr3⟩ := i64_andNot_l (M.owS s o) (1 <<< t) (by omega) hti
    have HR : Hid (r = M.agS s t o 0) := M.agS_of (fun x => hle x o) rfl hr3
    obtain ⟨q, hq⟩ : ∃ q : Nat, 1 <<< t = q := ⟨_, rfl⟩
    obtain ⟨x1, hx1⟩ : ∃ x : Nat, M.shS s o = x := ⟨_, rfl⟩
    obtain ⟨x2, hx2⟩ : ∃ x : Nat, M.owS s o = x := ⟨_, rfl⟩
    rw [hq] at hsh hr1
    rw [hx1] at g1
    rw [hx2] at g2 hr1
    rw [← HR.out]
    clear h1 hr3 hq hx1 hx2 s1 s2 hti hr2 hle
    go_enter Tryd.func32, Tryd.ntmps32
    go_wp2_with fail
    go_ret
    exact ⟨rfl, (F _).out⟩
  · have hor := i64_or_nat (M.owS s o) (M.shS s o) (by omega) (by omega)
    have hlt : M.owS s o ||| M.shS s o < 32 := Nat.or_lt_two_pow (n := 5) s2 s1
    obtain ⟨r, hr1, hr2, hr3⟩ := i64_andNot_l (M.owS s o ||| M.shS s o) (1 <<< t) (by omega) hti
    have HR : Hid (r = M.agS s t o 1) := M.agS_of (fun x => hle x o) rfl hr3
    obtain ⟨q, hq⟩ : ∃ q : Nat, 1 <<< t = q := ⟨_, rfl⟩
    obtain ⟨x3, hx3⟩ : ∃ x : Nat, M.owS s o ||| M.shS s o = x := ⟨_, rfl⟩
    rw [hx3] at hor hr1
    obtain ⟨x1, hx1⟩ : ∃ x : Nat, M.shS s o = x := ⟨_, rfl⟩
    obtain ⟨x2, hx2⟩ : ∃ x : Nat, M.owS s o = x := ⟨_, rfl⟩
    rw [hq] at hsh hr1
    rw [hx1] at g1 hor
    rw [hx2] at g2 hor
    rw [← HR.out]
    clear h1 hr3 hq hx1 hx2 hx3 s1 s2 hti hr2 hle hlt
    go_enter Tryd.func32, Tryd.ntmps32
    go_wp2_with fail
    go_ret
    exact ⟨rfl, (F _).out⟩
end Go.Proofs.YtcjodlgkmbmcgaaDoor
