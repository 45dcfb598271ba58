/- A STEP MORE MAKES IT NO WIDER: the law's walk: at whatever numbers the call returns true, and what lay in memory lies as it lay; the library's table lies where its variable is. -/
import Derived.Test.YtedmpcadinjjdabDoorCFact
import Derived.Test.YtedmpcadinjjdabDoorRefMany
namespace Go.Proofs.YtedmpcadinjjdabDoor
open Go.RowKit

theorem side_sub {c c' : List Nat} (h : ∀ i j, (M.row c i).testBit j = true → (M.row c' i).testBit j = true) {s : Nat} (hs : M.side c' s = true) : M.side c s = true := by
  rw [M.side_iff] at *
  intro i hi hb
  have h1 := (M.and_zero_iff _ _).1 (hs i hi hb)
  exact (M.and_zero_iff _ _).2 (fun j hj => h1 j (h i j hj))
theorem widest_sub {c c' : List Nat} (hl : c.length = c'.length) (h : ∀ i j, (M.row c i).testBit j = true → (M.row c' i).testBit j = true) : M.pc (M.widest c') ≤ M.pc (M.widest c) :=
  ((M.widest_is c).best _ (by rw [hl]; exact (M.widest_is c').lt) (side_sub h (M.widest_is c').ok)).1
theorem turned_clo {m : List Nat} (hm : M.Ok m) : M.turned (M.clo m) = M.turned m := by
  apply M.ext_rows (by simp [M.turned_length, M.clo_length])
  intro i _ j
  rw [Bool.eq_iff_iff, M.turned_bit (M.clo_ok hm), M.turned_bit hm, ← M.clo_bit, M.clo_clo hm, M.clo_bit]

set_option maxRecDepth 100000 in
set_option maxHeartbeats 1000000 in
theorem cmore_fail (a b : Int) (p : Option Addr) (n cap d : Nat) (w : World) (he : Env w)
    (hw : ∀ w1, Below w.heap.size w w1 → Calls Tryd.prog 9 #[.slice p n cap, .int .i64 a, .int .i64 b] w1 fun e w' => e = .returned (.tuple #[.slice none 0 0, .iface 44 (.int .i64 (d : Nat))]) ∧ Below w1.heap.size w1 w') :
    Calls Tryd.prog 3 #[.slice p n cap, .int .i64 a, .int .i64 b] w fun e w' => e = .returned (.bool true) ∧ Below w.heap.size w w' := by
  go_enter Tryd.func3, Tryd.ntmps3
  go_wp2_with fail
  refine (cfact_any _ he).mono ?_
  rintro e w1 ⟨rfl, hB1⟩
  go_wp2_with fail
  refine (hw w1 hB1).mono ?_
  rintro e w2 ⟨rfl, hB2⟩
  go_wp2
  go_ret
  exact ⟨rfl, hB1.trans (hB2.mono hB1.size)⟩

set_option maxRecDepth 100000 in
set_option maxHeartbeats 4000000 in
theorem cmore_ok (zs : List Int) (i j : Nat) (p : Option Addr) (n cap : Nat) (w : World) (hl : zs.length = n) (he : Env w) (hmax : n ≤ maxLen) (hc : Has zs p w) (h0 : code zs = 0) (hi : i < n) (hj : j < n) :
    Calls Tryd.prog 3 #[.slice p n cap, .int .i64 (i : Nat), .int .i64 (j : Nat)] w fun e w' => e = .returned (.bool true) ∧ Below w.heap.size w w' := by
  have hz := code_zero h0
  have hok := nats_ok hz.2.1
  have hn : n ≤ 12 := by omega
  have hpw := pow_lt n hn
  have hin : i < (nats zs).length := by rw [nats_length]; omega
  have hjn : j < (nats zs).length := by rw [nats_length]; omega
  have hmo : M.Ok (M.more (nats zs) i j) := M.more_ok hok hjn
  have hmc : M.Ok (M.clo (M.more (nats zs) i j)) := M.clo_ok hmo
  have hml : (M.clo (M.more (nats zs) i j)).length = n := by rw [M.clo_length, M.more_length, nats_length, hl]
  have hcl : (M.clo (nats zs)).length = n := by rw [M.clo_length, nats_length, hl]
  have hsub : ∀ u v, M.Clo (nats zs) u v → M.Clo (M.more (nats zs) i j) u v := fun u v h => (M.clo_more hok hin hjn u v).2 (.inl h)
  have hwide := widest_sub (c := M.clo (nats zs)) (c' := M.clo (M.more (nats zs) i j)) (by rw [hcl, hml]) (fun u v h => by rw [M.clo_bit] at *; exact hsub u v h)
  go_enter Tryd.func3, Tryd.ntmps3
  go_wp2_with fail
  refine (cfact_any _ he).mono ?_
  rintro e w1 ⟨rfl, hB1⟩
  go_wp2_with fail
  refine (with_step zs i j p n cap _ hl (he.later hB1) hmax (hc.later hB1) h0 hi hj).mono ?_
  rintro e w2 (⟨hring, rfl, hB2⟩ | ⟨hring, A, rfl, hr2, hA, hB2⟩)
  · go_wp2
    go_ret
    exact ⟨rfl, hB1.trans (hB2.mono hB1.size)⟩
  · have hC2 := hB1.trans (hB2.mono hB1.size)
    have hnr : ¬ M.Ring (M.more (nats zs) i j) := fun h => by rw [ringB_iff.2 h] at hring; cases hring
    have hcode : code (ints (M.clo (M.more (nats zs) i j))) = 0 := by
      rw [code_ints hmc (by omega), if_neg]
      rw [ringB_iff, M.clo_ring hmo]; exact hnr
    have hlm : (ints (M.clo (M.more (nats zs) i j))).length = n := by rw [ints_length, hml]
    have e1 : M.clo (nats (ints (M.clo (M.more (nats zs) i j)))) = M.clo (M.more (nats zs) i j) := by rw [nats_ints, M.clo_clo hmo]
    have e2 : M.turned (nats (ints (M.clo (M.more (nats zs) i j)))) = M.turned (M.more (nats zs) i j) := by rw [nats_ints, turned_clo hmo]
    have htl : (M.turned (nats zs)).length = n := by rw [M.turned_length, nats_length, hl]
    have hul : (M.turned (M.more (nats zs) i j)).length = n := by rw [M.turned_length, M.more_length, nats_length, hl]
    have hrank : ∀ u, u < n → M.row (M.ranks (M.turned (nats zs))) u ≤ M.row (M.ranks (M.turned (M.more (nats zs) i j))) u := fun u hu =>
      M.ranks_le (M.turned_ok _) (M.turned_ok _) (by omega) (by omega) (turned_tr hok hz.2.2) (turned_tr hmo hnr) (fun a b h => by
        rw [M.turned_bit hok] at h; rw [M.turned_bit hmo]; exact hsub _ _ h) u (by omega)
    have hwl : M.widest (M.clo (nats zs)) < 4096 := by have := (M.widest_is (M.clo (nats zs))).lt; rw [hcl] at this; omega
    have hwl2 : M.widest (M.clo (M.more (nats zs) i j)) < 4096 := by have := (M.widest_is (M.clo (M.more (nats zs) i j))).lt; rw [hml] at this; omega
    have hkl : (M.ranks (M.turned (nats zs))).length = n := by rw [M.ranks_length, htl]
    have hkl2 : (M.ranks (M.turned (M.more (nats zs) i j))).length = n := by rw [M.ranks_length, hul]
    go_wp2_with fail
    refine (widest_ok zs p n cap _ hl (he.later hC2) hmax (hc.later hC2) h0).mono ?_
    rintro e w3 ⟨rfl, hB3⟩
    have hC3 := hC2.trans (hB3.mono hC2.size)
    have hr3 := hr2.below hB3 hr2.lt
    go_wp2_with fail
    refine (widest_ok (ints (M.clo (M.more (nats zs) i j))) _ n n _ hlm (he.later hC3) hmax hr3.has hcode).mono ?_
    rw [e1]
    rintro e w4 ⟨rfl, hB4⟩
    have hC4 := hC3.trans (hB4.mono hC3.size)
    have hr4 := hr3.below hB4 hr3.lt
    go_wp2_with fail
    refine (ranks_ok zs p n cap _ hl (he.later hC4) hmax (hc.later hC4) h0).mono ?_
    rintro e w5 ⟨A5, rfl, hk5, hA5, hB5⟩
    have hC5 := hC4.trans (hB5.mono hC4.size)
    have hr5 := hr4.below hB5 hr4.lt
    go_wp2_with fail
    refine (ranks_ok (ints (M.clo (M.more (nats zs) i j))) _ n n _ hlm (he.later hC5) hmax hr5.has hcode).mono ?_
    rw [e2]
    rintro e w6 ⟨A6, rfl, hk6, hA6, hB6⟩
    have hC6 := hC5.trans (hB6.mono hC5.size)
    have hk5 := hk5.below hB6 hk5.lt
    obtain ⟨k, hkd⟩ : ∃ k, M.ranks (M.turned (nats zs)) = k := ⟨_, rfl⟩
    obtain ⟨k2, hkd2⟩ : ∃ k, M.ranks (M.turned (M.more (nats zs) i j)) = k := ⟨_, rfl⟩
    obtain ⟨x, hx⟩ : ∃ x, M.widest (M.clo (nats zs)) = x := ⟨_, rfl⟩
    obtain ⟨y, hy⟩ : ∃ y, M.widest (M.clo (M.more (nats zs) i j)) = y := ⟨_, rfl⟩
    rw [hkd] at hk5 hkl hrank
    rw [hkd2] at hk6 hkl2 hrank
    rw [hx] at hwl hwide ⊢
    rw [hy] at hwl2 hwide ⊢
    have hm1 := fun W => many_any x W hwl
    have hm2 := fun W => many_any y W hwl2
    obtain ⟨px, hpx⟩ : ∃ v, M.pc x = v := ⟨_, rfl⟩
    obtain ⟨py, hpy⟩ : ∃ v, M.pc y = v := ⟨_, rfl⟩
    simp only [hpx] at hm1
    simp only [hpy] at hm2
    rw [hpx, hpy] at hwide
    clear hkd hkd2 hx hy hpx hpy e1 e2 hr5 hr4 hr3 hr2
    go_wp2_with fail
    go_loopw [18] (fun v wr => ∃ t : Nat, v = .int .i64 t ∧ t ≤ n ∧ Below w6.heap.size w6 wr) (fun v _ => n - (intOf v).toNat)
    case atStart => exact ⟨0, rfl, Nat.zero_le _, Below.refl _ _⟩
    case round =>
      obtain ⟨t, rfl, htn, hBr⟩ := hrel
      by_cases ht : t < n
      · have h5 := (hk5.below hBr hk5.lt).cell (k := t) (by omega)
        have h6 := (hk6.below hBr hk6.lt).cell (k := t) (by omega)
        have hle := hrank t ht
        obtain ⟨u, hu⟩ : ∃ u, M.row k t = u := ⟨_, rfl⟩
        obtain ⟨v, hv⟩ : ∃ v, M.row k2 t = v := ⟨_, rfl⟩
        rw [hu] at h5 hle
        rw [hv] at h6 hle
        have e3 : decide (v < u) = false := decide_eq_false (by omega)
        clear hu hv
        go_wp2_with fail
        go_big_quiet (fail)
        go_wp2_with fail
        go_roundw
        case rel => exact ⟨t + 1, by go_num, by omega, hBr.trans ((below_drewS _ _).mono hBr.size)⟩
        case measure => simp [intOf]; omega
      · obtain rfl : t = n := by omega
        have e4 : decide (py ≤ px) = true := decide_eq_true hwide
        have e5 : decide ((py : Int) ≤ (px : Int)) = true := decide_eq_true (by omega)
        go_wp2_with fail
        refine (hm2 _).mono ?_
        rintro e w7 ⟨rfl, rfl⟩
        go_wp2_with fail
        refine (hm1 _).mono ?_
        rintro e w7 ⟨rfl, rfl⟩
        go_wp2_with fail
        go_ret
        exact ⟨rfl, hC6.trans (hBr.mono hC6.size)⟩
theorem cmore_rowwalk (zs : List Int) (p : Option Addr) (n cap : Nat) (a b : Int) (w : World) (he : Env w) (hl : zs.length = n) (hmax : n ≤ maxLen) (hc : Has zs p w) :
    Calls Tryd.prog 3 #[.slice p n cap, .int .i64 a, .int .i64 b] w fun e w' => e = .returned (.bool true) ∧ Below w.heap.size w w' := by
  by_cases h0 : code zs = 0
  · cases ha : thingB a n with
    | false => exact cmore_fail a b p n cap 1 w he (fun w1 hB => with_range zs a b p n cap w1 hl (he.later hB) hmax (hc.later hB) h0 (.inl ha))
    | true =>
      cases hb : thingB b n with
      | false => exact cmore_fail a b p n cap 1 w he (fun w1 hB => with_range zs a b p n cap w1 hl (he.later hB) hmax (hc.later hB) h0 (.inr hb))
      | true =>
        obtain ⟨i, rfl, hi⟩ := thing_nat ha
        obtain ⟨j, rfl, hj⟩ := thing_nat hb
        exact cmore_ok zs i j p n cap w hl he hmax hc h0 hi hj
  · exact cmore_fail a b p n cap _ w he (fun w1 hB => with_err zs a b p n cap _ w1 hl (he.later hB) hmax (hc.later hB) rfl h0)
end Go.Proofs.YtedmpcadinjjdabDoor
