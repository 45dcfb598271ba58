/- OF ANY ORDER THE FIRST ROW, HOW MANY THERE ARE, AND WHETHER ANY LIST IS ONE: the law's walk: at whatever numbers the call returns true, and what lay in memory lies as it lay; the library's variables lie as the program's text lays them. -/
import Derived.Test.YtedmpcadinjjdabDoorRefFst
import Derived.Test.YtedmpcadinjjdabDoorRefCnt
import Derived.Test.YtedmpcadinjjdabDoorCnt
import Derived.Test.YtedmpcadinjjdabDoorErr
namespace Go.Proofs.YtedmpcadinjjdabDoor
open Go.RowKit

theorem xhas_nil (p : Option Addr) (w : World) : Has [] p w := fun _ hj => absurd hj (Nat.not_lt_zero _)
set_option maxRecDepth 100000 in
set_option maxHeartbeats 2000000 in
theorem xsays_err (zs : List Int) (p q : Option Addr) (n cap l cap' d : Nat) (w : World) (hl : zs.length = n) (he : Env w) (ht : Ety w) (hmax : n ≤ maxLen) (hc : Has zs p w) (h0 : code zs = d) (hne : d ≠ 0) :
    Calls Tryd.prog 4 #[.slice p n cap, .slice q l cap'] w fun e w' => e = .returned (.bool true) ∧ Below w.heap.size w w' := by
  have hd : ((d : Int) == 0) = false := by simp; omega
  have hord := order_any zs p n cap w hl hmax hc
  rw [h0] at hord
  have hC0 : Below w.heap.size w w := Below.refl _ _
  go_enter Tryd.func4, Tryd.ntmps4
  go_wp2_with fail
  refine (hord).mono ?_
  rintro e w1 ⟨rfl, hB1⟩
  have hC1 := hC0.trans (hB1.mono hC0.size)
  go_wp2_with fail
  refine (first_err zs p n cap d _ hl (he.later hC1) hmax (hc.later hC1) h0 hne).mono ?_
  rintro e w2 ⟨rfl, hB2⟩
  have hC2 := hC1.trans (hB2.mono hC1.size)
  go_wp2_with fail
  refine (error_same (d : Int) _ (ht.later hC2)).mono ?_
  rintro e w3 ⟨rfl, hB3⟩
  have hC3 := hC2.trans (hB3.mono hC2.size)
  go_wp2_with fail
  refine (same_ints [] none none 0 0 0 _ rfl (by unfold maxLen; omega) (xhas_nil _ _) (xhas_nil _ _)).mono ?_
  rintro e w4 ⟨rfl, hB4⟩
  have hC4 := hC3.trans (hB4.mono hC3.size)
  go_wp2_with fail
  refine (count_err zs p n cap d _ hl (he.later hC4) hmax (hc.later hC4) h0 hne).mono ?_
  rintro e w5 ⟨rfl, hB5⟩
  have hC5 := hC4.trans (hB5.mono hC4.size)
  go_wp2_with fail
  refine (error_same (d : Int) _ (ht.later hC5)).mono ?_
  rintro e w6 ⟨rfl, hB6⟩
  have hC6 := hC5.trans (hB6.mono hC5.size)
  go_wp2_with fail
  refine (is_err zs p q n cap l cap' d _ hl (he.later hC6) hmax (hc.later hC6) h0 hne).mono ?_
  rintro e w7 ⟨rfl, hB7⟩
  have hC7 := hC6.trans (hB7.mono hC6.size)
  go_wp2_with fail
  refine (error_same (d : Int) _ (ht.later hC7)).mono ?_
  rintro e w8 ⟨rfl, hB8⟩
  have hC8 := hC7.trans (hB8.mono hC7.size)
  go_wp2_with fail
  go_ret
  exact ⟨rfl, hC8⟩
/-- what an error of number c and c are held to be: the same -/
theorem error_errV (c : Nat) (w : World) (hg : Ety w) : Calls Tryd.prog 18 #[errV c, .int .i64 (c : Nat)] w fun e w' => e = .returned (.bool true) ∧ Below w.heap.size w w' := by
  unfold errV
  by_cases h : c = 0
  · subst h
    refine (error_nil w).mono ?_
    rintro e w' ⟨rfl, rfl⟩
    exact ⟨rfl, Below.refl _ _⟩
  · rw [if_neg h]
    exact error_same (c : Int) w hg

set_option maxRecDepth 100000 in
set_option maxHeartbeats 2000000 in
theorem xsays_ok (zs ls : List Int) (p q : Option Addr) (n cap l cap' : Nat) (w : World) (hl : zs.length = n) (hll : ls.length = l) (he : Env w) (ht : Ety w) (hmax : n ≤ maxLen) (hc : Has zs p w) (hcl : Has ls q w) (h0 : code zs = 0) :
    Calls Tryd.prog 4 #[.slice p n cap, .slice q l cap'] w fun e w' => e = .returned (.bool true) ∧ Below w.heap.size w w' := by
  have hz := code_zero h0
  have hok := nats_ok hz.2.1
  have hn : n ≤ 12 := by omega
  have hnl : (nats zs).length = n := by rw [nats_length, hl]
  have hzs : ints (nats zs) = zs := ints_nats hz.2.1
  have hcn : Has (ints (nats zs)) p w := by rw [hzs]; exact hc
  have hlf : (ints (M.firstR (M.turned (nats zs)))).length = n := by rw [ints_length, M.firstR_length, M.turned_length, hnl]
  have hord := order_any zs p n cap w hl hmax hc
  rw [h0] at hord
  have his : ∀ w1, Below w.heap.size w w1 → Calls Tryd.prog 16 #[.slice p n cap, .slice q l cap'] w1 fun e w' => e = .returned (.tuple #[.bool (isV zs ls).1, .int .i64 ((isV zs ls).2 : Nat)]) ∧ Below w1.heap.size w1 w' := fun w1 hB => by
    unfold isV
    rw [if_neg (by simpa using h0)]
    by_cases hne : l = n
    · subst hne
      rw [if_neg (by omega)]
      exact ris_walk (nats zs) ls p q l cap cap' w1 hnl hll hok hn (hcn.later hB) (hcl.later hB)
    · rw [if_pos (by omega)]
      exact ris_shape p q n cap l cap' w1 hne
  have hpi : ∀ w1, Below w.heap.size w w1 → Calls Tryd.prog 21 #[.slice p n cap, .slice q l cap'] w1 fun e w' => e = .returned (.tuple #[.bool (isV zs ls).1, errV (isV zs ls).2]) ∧ Below w1.heap.size w1 w' := fun w1 hB =>
    is_any zs ls p q n cap l cap' w1 hl hll (he.later hB) hmax (hc.later hB) (hcl.later hB)
  obtain ⟨vb, hvb⟩ : ∃ vb, (isV zs ls).1 = vb := ⟨_, rfl⟩
  obtain ⟨vc, hvc⟩ : ∃ vc, (isV zs ls).2 = vc := ⟨_, rfl⟩
  rw [hvb, hvc] at his hpi
  have hee := fun W hg => error_errV vc W hg
  obtain ⟨ev, hev⟩ : ∃ ev, errV vc = ev := ⟨_, rfl⟩
  simp only [hev] at hpi hee
  clear hvb hvc hev
  have hC0 : Below w.heap.size w w := Below.refl _ _
  go_enter Tryd.func4, Tryd.ntmps4
  go_wp2_with fail
  refine (hord).mono ?_
  rintro e w1 ⟨rfl, hB1⟩
  have hC1 := hC0.trans (hB1.mono hC0.size)
  go_wp2_with fail
  refine (rfirst_any (nats zs) p n cap _ hnl hok hz.2.2 hn (hcn.later hC1)).mono ?_
  rintro e w2 ⟨p2, c2, rfl, hx, hB2⟩
  have hC2 := hC1.trans (hB2.mono hC1.size)
  go_wp2_with fail
  refine (rcount_any (nats zs) p n cap _ hnl hok hz.2.2 hn (hcn.later hC2)).mono ?_
  rintro e w3 ⟨rfl, hB3⟩
  have hC3 := hC2.trans (hB3.mono hC2.size)
  have hx := hx.later hB3
  go_wp2_with fail
  refine (his _ hC3).mono ?_
  rintro e w4 ⟨rfl, hB4⟩
  have hC4 := hC3.trans (hB4.mono hC3.size)
  have hx := hx.later hB4
  go_wp2_with fail
  refine (first_ok zs p n cap _ hl (he.later hC4) hmax (hc.later hC4) h0).mono ?_
  rintro e w5 ⟨A5, rfl, hr5, hA5, hB5⟩
  have hC5 := hC4.trans (hB5.mono hC4.size)
  have hx := hx.later hB5
  have hl5 := hr5.has
  go_wp2_with fail
  refine (error_nil _).mono ?_
  rintro e w6 ⟨rfl, rfl⟩
  go_wp2_with fail
  refine (same_ints _ _ _ n n c2 _ hlf hmax hl5 hx).mono ?_
  rintro e w7 ⟨rfl, hB7⟩
  have hC7 := hC5.trans (hB7.mono hC5.size)
  go_wp2_with fail
  refine (count_ok zs p n cap _ hl (he.later hC7) hmax (hc.later hC7) h0).mono ?_
  rintro e w8 ⟨rfl, hB8⟩
  have hC8 := hC7.trans (hB8.mono hC7.size)
  go_wp2_with fail
  refine (error_nil _).mono ?_
  rintro e w9 ⟨rfl, rfl⟩
  go_wp2_with fail
  refine (hpi _ hC8).mono ?_
  rintro e w10 ⟨rfl, hB10⟩
  have hC10 := hC8.trans (hB10.mono hC8.size)
  go_wp2_with fail
  refine (hee _ (ht.later hC10)).mono ?_
  rintro e w11 ⟨rfl, hB11⟩
  have hC11 := hC10.trans (hB11.mono hC10.size)
  go_wp2_with fail
  go_ret
  exact ⟨(by simp), hC11⟩
theorem xsays_rowwalk (zs : List Int) (p : Option Addr) (n cap : Nat) (ls : List Int) (q : Option Addr) (l cap' : Nat) (w : World) (he : Env w) (ht : Ety w) (hl : zs.length = n) (hmax : n ≤ maxLen) (hc : Has zs p w) (hll : ls.length = l) (_hmax' : l ≤ maxLen) (hcl : Has ls q w) :
    Calls Tryd.prog 4 #[.slice p n cap, .slice q l cap'] w fun e w' => e = .returned (.bool true) ∧ Below w.heap.size w w' := by
  by_cases h0 : code zs = 0
  · exact xsays_ok zs ls p q n cap l cap' w hl hll he ht hmax hc hcl h0
  · exact xsays_err zs p q n cap l cap' _ w hl he ht hmax hc rfl h0
end Go.Proofs.YtedmpcadinjjdabDoor
