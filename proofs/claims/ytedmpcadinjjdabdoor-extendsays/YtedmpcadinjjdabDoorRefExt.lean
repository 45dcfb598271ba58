/- The document's own answers on rows of all things (package whensteadref1): whether a number lies between two, the first row (First), and whether a list is a row (Is); at orders of at most twelve things; what lay in memory lies as it lay. -/
import Derived.Test.YtedmpcadinjjdabDoorRefOrd
import Derived.Test.YtedmpcadinjjdabDoorIss
import Derived.Test.YtedmpcadinjjdabDoorRefWit
namespace Go.Proofs.YtedmpcadinjjdabDoor
open Go.RowKit

set_option maxHeartbeats 400000 in
theorem rin_any (z lo hi : Int) (w : World) :
    Calls Tryd.prog 36 #[.int .i64 z, .int .i64 lo, .int .i64 hi] w fun e w' => e = .returned (.bool (decide (lo ≤ z ∧ z ≤ hi))) ∧ w = w' := by
  by_cases h1 : lo ≤ z
  · have e1 : decide (lo ≤ z) = true := decide_eq_true h1
    go_enter Tryd.func36, Tryd.ntmps36
    go_wp2
    go_ret
    exact ⟨bool_ret (by simp [h1]), rfl⟩
  · have e1 : decide (lo ≤ z) = false := decide_eq_false h1
    go_enter Tryd.func36, Tryd.ntmps36
    go_wp2
    go_ret
    exact ⟨bool_ret (by simp), rfl⟩

set_option maxRecDepth 100000 in
set_option maxHeartbeats 2000000 in
theorem ris_walk (m : List Nat) (ls : List Int) (p q : Option Addr) (n cap cap' : Nat) (w : World) (hl : m.length = n) (hll : ls.length = n) (hm : M.Ok m) (hn : n ≤ 12) (hc : Has (ints m) p w) (hcl : Has ls q w) :
    Calls Tryd.prog 16 #[.slice p n cap, .slice q n cap'] w fun e w' => e = .returned (.tuple #[.bool (isR (M.turned m) 0 ls).1, .int .i64 ((isR (M.turned m) 0 ls).2 : Nat)]) ∧ Below w.heap.size w w' := by
  have hpw := pow_lt n hn
  have htl : (M.turned m).length = n := by rw [M.turned_length, hl]
  have hto := M.turned_ok m
  have e1 : ((n : Int) != (n : Int)) = false := by simp
  have e2 : (n != n) = false := by simp
  go_enter Tryd.func16, Tryd.ntmps16
  go_wp2_with fail
  refine (rturned_any m p n cap w hl hm hn hc).mono ?_
  rintro e w1 ⟨p1, c1, rfl, hh, hB⟩
  obtain ⟨t, htd⟩ : ∃ t, M.turned m = t := ⟨_, rfl⟩
  have HTD : Hid (isR (M.turned m) 0 ls = isR t 0 ls) := (by rw [htd] : isR (M.turned m) 0 ls = isR t 0 ls)
  rw [htd] at hh htl hto
  clear htd
  have hcl1 := hcl.later hB
  have htb : ∀ i, M.row t i < 65536 := fun i => by have := hto i; rw [htl] at this; omega
  clear hcl
  go_wp2_with fail
  go_loop [7, 8] (fun mm v => ∃ k d : Nat, v = .int .i64 k ∧ mm = .int .i64 d ∧ k ≤ n ∧ d < 4096 ∧ Hid (isR t 0 ls = isR t d (ls.drop k))) (fun _ v => n - (intOf v).toNat)
  case atStart => exact ⟨0, 0, rfl, rfl, Nat.zero_le _, by omega, (rfl : isR t 0 ls = isR t 0 (ls.drop 0))⟩
  case round =>
    obtain ⟨k, d, rfl, rfl, hk, hd4, hd⟩ := hrel
    by_cases hkn : k < n
    · obtain ⟨b, off, rfl, hb, hcell⟩ := hcl1 k (by omega)
      clear hcl1
      have hstep : Hid (isR t 0 ls = isR t d (ls[k]?.getD 0 :: ls.drop (k + 1))) := (by rw [hd.out, drop_at (by omega)] : isR t 0 ls = isR t d (ls[k]?.getD 0 :: ls.drop (k + 1)))
      obtain ⟨z, hzd⟩ : ∃ z, ls[k]?.getD 0 = z := ⟨_, rfl⟩
      rw [hzd] at hcell hstep
      clear hzd hd
      have hth := rin_any z 0 ((n : Int) - 1) w1
      have hthe : decide (0 ≤ z ∧ z ≤ (n : Int) - 1) = thingB z n := by unfold thingB; rw [Bool.eq_iff_iff]; simp; omega
      rw [hthe] at hth
      clear hthe
      cases hg : thingB z n with
      | false =>
        rw [hg] at hth
        have HE : Hid (isR t 0 ls = (false, 1)) := (by rw [hstep.out, isR_cons, htl, hg]; rfl : isR t 0 ls = (false, 1))
        go_wp2_with fail
        refine hth.mono ?_
        rintro e w5 ⟨rfl, rfl⟩
        go_wp2_with fail
        go_ret2
        exact ⟨(by rw [HTD.out, HE.out]; rfl), hB⟩
      | true =>
        rw [hg] at hth
        obtain ⟨i, rfl, hi⟩ := thing_nat hg
        obtain ⟨b2, off2, hp1, hb2, hcell2⟩ := hh i (by rw [ints_length]; omega)
        rw [ints_get] at hcell2
        subst hp1
        have hri := htb i
        have h1 := bit_any d i w1 (by omega) (by omega)
        have h2 := within_any (M.row t i) d w1 hri (by omega)
        have hst2 : Hid (isR t 0 ls = if (!d.testBit i && M.subB (M.row t i) d) = true then isR t (d ||| 1 <<< i) (ls.drop (k + 1)) else (false, 0)) := (by rw [hstep.out, isR_cons, htl, hg]; rfl : isR t 0 ls = if (!d.testBit i && M.subB (M.row t i) d) = true then isR t (d ||| 1 <<< i) (ls.drop (k + 1)) else (false, 0))
        have hap : Hid (d.testBit i = false → d ||| 1 <<< i = d + 2 ^ i) := fun h => M.orPow h
        obtain ⟨r, hr⟩ : ∃ r, M.row t i = r := ⟨_, rfl⟩
        obtain ⟨u, hu⟩ : ∃ u, M.subB (M.row t i) d = u := ⟨_, rfl⟩
        obtain ⟨g, hgd⟩ : ∃ g, d.testBit i = g := ⟨_, rfl⟩
        rw [hgd] at h1 hst2 hap
        rw [hu] at h2 hst2
        rw [hr] at h2 hcell2 hri
        clear hr hu hgd hstep hg
        cases g with
        | true =>
          have HE : Hid (isR t 0 ls = (false, 0)) := (by rw [hst2.out]; rfl : isR t 0 ls = (false, 0))
          go_wp2_with fail
          refine hth.mono ?_
          rintro e w5 ⟨rfl, rfl⟩
          go_wp2_with fail
          refine h1.mono ?_
          rintro e w5 ⟨rfl, rfl⟩
          go_wp2_with fail
          go_ret2
          exact ⟨(by rw [HTD.out, HE.out]; rfl), hB⟩
        | false =>
          cases u with
          | false =>
            have HE : Hid (isR t 0 ls = (false, 0)) := (by rw [hst2.out]; rfl : isR t 0 ls = (false, 0))
            go_wp2_with fail
            refine hth.mono ?_
            rintro e w5 ⟨rfl, rfl⟩
            go_wp2_with fail
            refine h1.mono ?_
            rintro e w5 ⟨rfl, rfl⟩
            go_wp2_with fail
            refine h2.mono ?_
            rintro e w5 ⟨rfl, rfl⟩
            go_wp2_with fail
            go_ret2
            exact ⟨(by rw [HTD.out, HE.out]; rfl), hB⟩
          | true =>
            have hor := hap.out rfl
            have hjp : 1 <<< i < 4096 := by rw [Nat.shiftLeft_eq, Nat.one_mul]; exact Nat.pow_lt_pow_right (n := 12) (a := 2) (by omega) (by omega)
            have hd5 : d ||| 1 <<< i < 2 ^ 12 := Nat.or_lt_two_pow hd4 hjp
            have HE : Hid (isR t 0 ls = isR t (d ||| 1 <<< i) (ls.drop (k + 1))) := (by rw [hst2.out]; rfl : isR t 0 ls = isR t (d ||| 1 <<< i) (ls.drop (k + 1)))
            rw [hor] at hd5 HE
            obtain ⟨y, hy⟩ : ∃ y : Nat, 2 ^ i = y := ⟨_, rfl⟩
            have h3 := pow2_any i y w1 (by omega) hy
            rw [hy] at hd5 HE
            clear hy hjp hor
            obtain ⟨x, hxd⟩ : ∃ x : Nat, d + y = x := ⟨_, rfl⟩
            rw [hxd] at hd5 HE
            have hx1 : (d : Int) + (y : Int) = (x : Int) := by omega
            have hx2 : IntKind.i64.wrap ((d : Int) + (y : Int)) = (x : Int) := by rw [hx1]; exact i64_wrap_nat x (by omega)
            clear hxd
            go_wp2_with fail
            refine hth.mono ?_
            rintro e w5 ⟨rfl, rfl⟩
            go_wp2_with fail
            refine h1.mono ?_
            rintro e w5 ⟨rfl, rfl⟩
            go_wp2_with fail
            refine h2.mono ?_
            rintro e w5 ⟨rfl, rfl⟩
            go_wp2_with fail
            refine h3.mono ?_
            rintro e w5 ⟨rfl, rfl⟩
            go_wp2_with fail
            go_round
            case rel => exact ⟨k + 1, x, by go_num, by go_num, by omega, hd5, HE⟩
            case measure => simp [intOf]; omega
    · obtain rfl : k = n := by omega
      have HE : Hid (isR t 0 ls = (true, 0)) := (by rw [hd.out, List.drop_eq_nil_of_le (by omega)]; rfl : isR t 0 ls = (true, 0))
      go_wp2_with fail
      go_ret2
      exact ⟨(by rw [HTD.out, HE.out]; rfl), hB⟩
set_option maxHeartbeats 400000 in
theorem ris_shape (p q : Option Addr) (n cap l cap' : Nat) (w : World) (hne : l ≠ n) :
    Calls Tryd.prog 16 #[.slice p n cap, .slice q l cap'] w fun e w' => e = .returned (.tuple #[.bool false, .int .i64 ((3 : Nat) : Int)]) ∧ Below w.heap.size w w' := by
  have e1 : ((l : Int) != (n : Int)) = true := by simp; omega
  have e2 : (l != n) = true := by simp; omega
  go_enter Tryd.func16, Tryd.ntmps16
  go_wp2_with fail
  go_ret2
  exact ⟨rfl, Below.refl _ _⟩
end Go.Proofs.YtedmpcadinjjdabDoor
