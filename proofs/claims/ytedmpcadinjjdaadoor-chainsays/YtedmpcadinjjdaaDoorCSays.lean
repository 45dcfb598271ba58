/- OF ANY ORDER RANKS, THE WIDEST, AND ROWS: the law's walk: at whatever numbers the call returns true, and what lay in memory lies as it lay; the library's variables lie as the program's text lays them. -/
import Derived.Test.YtedmpcadinjjdaaDoorRefRows
import Derived.Test.YtedmpcadinjjdaaDoorRefRank
import Derived.Test.YtedmpcadinjjdaaDoorRws
import Derived.Test.YtedmpcadinjjdaaDoorErr
namespace Go.Proofs.YtedmpcadinjjdaaDoor
open Go.RowKit

theorem has_nil (p : Option Addr) (w : World) : Has [] p w := fun _ hj => absurd hj (Nat.not_lt_zero _)
set_option maxRecDepth 100000 in
set_option maxHeartbeats 2000000 in
theorem csays_err (zs : List Int) (p : Option Addr) (n cap d : Nat) (w : World) (hl : zs.length = n) (he : Env w) (ht : Ety w) (hmax : n ≤ maxLen) (hc : Has zs p w) (h0 : code zs = d) (hne : d ≠ 0) :
    Calls Tryd.prog 6 #[.slice p n cap] w fun e w' => e = .returned (.bool true) ∧ Below w.heap.size w w' := by
  have hd : ((d : Int) == 0) = false := by simp; omega
  have hord := order_any zs p n cap w hl hmax hc
  rw [h0] at hord
  have hC0 : Below w.heap.size w w := Below.refl _ _
  go_enter Tryd.func6, Tryd.ntmps6
  go_wp2_with fail
  refine (hord).mono ?_
  rintro e w1 ⟨rfl, hB1⟩
  have hC1 := hC0.trans (hB1.mono hC0.size)
  go_wp2_with fail
  refine (ranks_err zs p n cap d _ hl (he.later hC1) hmax (hc.later hC1) h0 hne).mono ?_
  rintro e w2 ⟨rfl, hB2⟩
  have hC2 := hC1.trans (hB2.mono hC1.size)
  go_wp2_with fail
  refine (error_same (d : Int) _ (ht.later hC2)).mono ?_
  rintro e w3 ⟨rfl, hB3⟩
  have hC3 := hC2.trans (hB3.mono hC2.size)
  go_wp2_with fail
  refine (same_ints [] none none 0 0 0 _ rfl (by unfold maxLen; omega) (has_nil _ _) (has_nil _ _)).mono ?_
  rintro e w4 ⟨rfl, hB4⟩
  have hC4 := hC3.trans (hB4.mono hC3.size)
  go_wp2_with fail
  refine (widest_err zs p n cap d _ hl (he.later hC4) hmax (hc.later hC4) h0 hne).mono ?_
  rintro e w5 ⟨rfl, hB5⟩
  have hC5 := hC4.trans (hB5.mono hC4.size)
  go_wp2_with fail
  refine (error_same (d : Int) _ (ht.later hC5)).mono ?_
  rintro e w6 ⟨rfl, hB6⟩
  have hC6 := hC5.trans (hB6.mono hC5.size)
  go_wp2_with fail
  refine (rows_err zs p n cap d _ hl (he.later hC6) hmax (hc.later hC6) h0 hne).mono ?_
  rintro e w7 ⟨rfl, hB7⟩
  have hC7 := hC6.trans (hB7.mono hC6.size)
  go_wp2_with fail
  refine (error_same (d : Int) _ (ht.later hC7)).mono ?_
  rintro e w8 ⟨rfl, hB8⟩
  have hC8 := hC7.trans (hB8.mono hC7.size)
  go_wp2_with fail
  refine (same_ints [] none none 0 0 0 _ rfl (by unfold maxLen; omega) (has_nil _ _) (has_nil _ _)).mono ?_
  rintro e w9 ⟨rfl, hB9⟩
  have hC9 := hC8.trans (hB9.mono hC8.size)
  go_wp2_with fail
  go_ret
  exact ⟨rfl, hC9⟩

set_option maxRecDepth 100000 in
set_option maxHeartbeats 2000000 in
theorem csays_ok (zs : List Int) (p : Option Addr) (n cap : Nat) (w : World) (hl : zs.length = n) (he : Env w) (hmax : n ≤ maxLen) (hc : Has zs p w) (h0 : code zs = 0) :
    Calls Tryd.prog 6 #[.slice p n cap] w fun e w' => e = .returned (.bool true) ∧ Below w.heap.size w w' := by
  have hz := code_zero h0
  have hok := nats_ok hz.2.1
  have hn : n ≤ 12 := by omega
  have htr := clo_tr hok hz.2.2
  have hnl : (nats zs).length = n := by rw [nats_length, hl]
  have hzs : ints (nats zs) = zs := ints_nats hz.2.1
  have hcn : Has (ints (nats zs)) p w := by rw [hzs]; exact hc
  have hlr : (ints (M.ranks (M.turned (nats zs)))).length = n := by rw [ints_length, M.ranks_length, M.turned_length, hnl]
  have hlw : (ints (M.rows (M.clo (nats zs)))).length = n := by rw [ints_length, (M.rows_good (by rw [M.clo_length]; omega) htr).1, M.clo_length, hnl]
  have hord := order_any zs p n cap w hl hmax hc
  rw [h0] at hord
  have hC0 : Below w.heap.size w w := Below.refl _ _
  go_enter Tryd.func6, Tryd.ntmps6
  go_wp2_with fail
  refine (hord).mono ?_
  rintro e w1 ⟨rfl, hB1⟩
  have hC1 := hC0.trans (hB1.mono hC0.size)
  go_wp2_with fail
  refine (refranks_any (nats zs) p n cap _ hnl hok hz.2.2 hn (hcn.later hC1)).mono ?_
  rintro e w2 ⟨A2, rfl, hr2, hA2, hB2⟩
  have hC2 := hC1.trans (hB2.mono hC1.size)
  have hx := hr2.has
  go_wp2_with fail
  refine (refwidest_any (nats zs) p n cap _ hnl hok hn (hcn.later hC2)).mono ?_
  rintro e w3 ⟨rfl, hB3⟩
  have hC3 := hC2.trans (hB3.mono hC2.size)
  have hx := hx.later hB3
  go_wp2_with fail
  refine (refrowsTop_any (nats zs) p n cap _ hnl hok htr hn (hcn.later hC3)).mono ?_
  rintro e w4 ⟨p4, c4, rfl, hy, hB4⟩
  have hC4 := hC3.trans (hB4.mono hC3.size)
  have hx := hx.later hB4
  go_wp2_with fail
  refine (ranks_ok zs p n cap _ hl (he.later hC4) hmax (hc.later hC4) h0).mono ?_
  rintro e w5 ⟨A5, rfl, hr5, hA5, hB5⟩
  have hC5 := hC4.trans (hB5.mono hC4.size)
  have hx := hx.later hB5
  have hy := hy.later hB5
  have hl5 := hr5.has
  go_wp2_with fail
  refine (error_nil _).mono ?_
  rintro e w6 ⟨rfl, rfl⟩
  go_wp2_with fail
  refine (same_ints _ _ _ n n n _ hlr hmax hl5 hx).mono ?_
  rintro e w7 ⟨rfl, hB7⟩
  have hC7 := hC5.trans (hB7.mono hC5.size)
  have hy := hy.later hB7
  go_wp2_with fail
  refine (widest_ok zs p n cap _ hl (he.later hC7) hmax (hc.later hC7) h0).mono ?_
  rintro e w8 ⟨rfl, hB8⟩
  have hC8 := hC7.trans (hB8.mono hC7.size)
  have hy := hy.later hB8
  go_wp2_with fail
  refine (error_nil _).mono ?_
  rintro e w9 ⟨rfl, rfl⟩
  go_wp2_with fail
  refine (rows_ok zs p n cap _ hl (he.later hC8) hmax (hc.later hC8) h0).mono ?_
  rintro e w10 ⟨A10, rfl, hr10, hA10, hB10⟩
  have hC10 := hC8.trans (hB10.mono hC8.size)
  have hy := hy.later hB10
  have hl10 := hr10.has
  go_wp2_with fail
  refine (error_nil _).mono ?_
  rintro e w11 ⟨rfl, rfl⟩
  go_wp2_with fail
  refine (same_ints _ _ _ n n c4 _ hlw hmax hl10 hy).mono ?_
  rintro e w12 ⟨rfl, hB12⟩
  have hC12 := hC10.trans (hB12.mono hC10.size)
  go_wp2_with fail
  go_ret
  exact ⟨rfl, hC12⟩
theorem csays_rowwalk (zs : List Int) (p : Option Addr) (n cap : Nat) (w : World) (he : Env w) (ht : Ety w) (hl : zs.length = n) (hmax : n ≤ maxLen) (hc : Has zs p w) :
    Calls Tryd.prog 6 #[.slice p n cap] w fun e w' => e = .returned (.bool true) ∧ Below w.heap.size w w' := by
  by_cases h0 : code zs = 0
  · exact csays_ok zs p n cap w hl he hmax hc h0
  · exact csays_err zs p n cap _ w hl he ht hmax hc rfl h0
end Go.Proofs.YtedmpcadinjjdaaDoor
