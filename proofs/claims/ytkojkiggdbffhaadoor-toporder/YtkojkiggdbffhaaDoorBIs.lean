/- Package extend's First and Is, at whatever numbers: each tells what is wrong as the document has it, else the first row, place by place, and whether a list is a row, number by number; what lay in memory lies as it lay. Package extend's Is, at whatever numbers and list: it tells what is wrong as the document has it, else whether the list is a row, number by number; what lay in memory lies as it lay. -/
import Derived.Test.YtkojkiggdbffhaaDoorNxt
import Derived.Test.YtkojkiggdbffhaaDoorSame
namespace Go.Proofs.YtkojkiggdbffhaaDoor
open Go.RowKit

theorem dual_of {m : List Nat} (hm : M.Ok m) : M.Dual (M.clo m) (M.turned m) := ⟨by rw [M.clo_length, M.turned_length], fun i j => by rw [Bool.eq_iff_iff, M.turned_bit hm, M.clo_bit]⟩
theorem cloTr {m : List Nat} (hm : M.Ok m) (hr : ¬ M.Ring m) : M.Tr (M.clo m) := by
  refine ⟨fun i => ?_, fun i j k h1 h2 => ?_⟩
  · cases hb : (M.row (M.clo m) i).testBit i with
    | false => rfl
    | true => exact absurd ⟨i, (M.clo_bit m i i).1 hb⟩ hr
  · rw [M.clo_bit] at *
    exact M.clo_trans hm h1 h2
theorem nextS_pos {c t : List Nat} (hd : M.Dual c t) (hn : c.length ≤ 12) {d i : Nat} (hi : i < c.length) (h : M.nextB t d i = true) : 0 < M.nextS t d := by
  rcases Nat.eq_zero_or_pos (M.nextS t d) with h0 | h0
  · have := (M.nextS_mem (t := t) (by rw [← hd.1]; exact hn) d i).2 ⟨by rw [← hd.1]; exact hi, h⟩
    rw [h0, bits_zero] at this; cases this
  · exact h0
end Go.Proofs.YtkojkiggdbffhaaDoor
namespace Go.Proofs.YtkojkiggdbffhaaDoor
open Go.RowKit

/-- Whether a list goes on behind what stood, number by number; and what is wrong. -/
def isR (t : List Nat) : Nat → List Int → Bool × Nat
  | _, [] => (true, 0)
  | d, z :: l => if thingB z t.length then (if M.nextB t d z.toNat then isR t (d ||| 1 <<< z.toNat) l else (false, 0)) else (false, 1)
def isV (zs ls : List Int) : Bool × Nat := if code zs ≠ 0 then (false, code zs) else if ls.length ≠ zs.length then (false, 3) else isR (M.turned (nats zs)) 0 ls
theorem drop_at {ls : List Int} {k : Nat} (hk : k < ls.length) : ls.drop k = (ls[k]?.getD 0) :: ls.drop (k + 1) := by
  rw [List.drop_eq_getElem_cons hk]
  simp [hk]
theorem isR_cons (t : List Nat) (d : Nat) (z : Int) (l : List Int) : isR t d (z :: l) = if thingB z t.length then (if M.nextB t d z.toNat then isR t (d ||| 1 <<< z.toNat) l else (false, 0)) else (false, 1) := rfl
set_option maxHeartbeats 400000 in
theorem is_err (zs : List Int) (p q : Option Addr) (n cap m cap' c : Nat) (w : World) (hl : zs.length = n) (he : Env w) (hmax : n ≤ maxLen) (hc : Has zs p w) (h0 : code zs = c) (hne : c ≠ 0) :
    Calls Tryd.prog 15 #[.slice p n cap, .slice q m cap'] w fun e w' => e = .returned (.tuple #[.bool false, .iface 49 (.int .i64 (c : Nat))]) ∧ Below w.heap.size w w' := by
  go_enter Tryd.func15, Tryd.ntmps15
  go_wp2_with (go_at_call 27; refine (turned_err zs p n cap c _ hl he hmax hc h0 hne).mono ?_; rintro e w' ⟨rfl, hB⟩)
  go_ret2
  exact ⟨rfl, hB⟩
set_option maxHeartbeats 400000 in
theorem is_shape (zs : List Int) (p q : Option Addr) (n cap m cap' : Nat) (w : World) (hl : zs.length = n) (he : Env w) (hmax : n ≤ maxLen) (hc : Has zs p w) (h0 : code zs = 0) (hne : m ≠ n) :
    Calls Tryd.prog 15 #[.slice p n cap, .slice q m cap'] w fun e w' => e = .returned (.tuple #[.bool false, .iface 49 (.int .i64 (3 : Nat))]) ∧ Below w.heap.size w w' := by
  have hz := code_zero h0
  have hn : n ≤ 12 := by omega
  have e1 : ((m : Int) != (n : Int)) = true := by simp; omega
  have e2 : (m != n) = true := by simp; omega
  go_enter Tryd.func15, Tryd.ntmps15
  go_wp2_with (go_at_call 27; refine (turned_ok zs p n cap _ hl he hmax hc h0).mono ?_; rintro e w1 ⟨A, rfl, hrc, hA, hB⟩)
  go_ret2
  exact ⟨rfl, hB⟩
set_option maxRecDepth 100000 in
set_option maxHeartbeats 1000000 in
theorem is_walk (zs ls : List Int) (p q : Option Addr) (n cap cap' : Nat) (w : World) (hl : zs.length = n) (hll : ls.length = n) (he : Env w) (hmax : n ≤ maxLen) (hc : Has zs p w) (hcl : Has ls q w) (h0 : code zs = 0) :
    Calls Tryd.prog 15 #[.slice p n cap, .slice q n cap'] w fun e w' => e = .returned (.tuple #[.bool (isR (M.turned (nats zs)) 0 ls).1, errV (isR (M.turned (nats zs)) 0 ls).2]) ∧ Below w.heap.size w w' := by
  have hz := code_zero h0
  have hn : n ≤ 12 := by omega
  have hpw := pow_lt n hn
  have htl : (M.turned (nats zs)).length = n := by rw [M.turned_length, nats_length, hl]
  have hto := M.turned_ok (nats zs)
  have hsl : ∀ d, M.nextS (M.turned (nats zs)) d < 4096 := fun d => by have := M.nextS_lt (M.turned (nats zs)) d; rw [htl] at this; omega
  have e1 : ((n : Int) != (n : Int)) = false := by simp
  have e2 : (n != n) = false := by simp
  go_enter Tryd.func15, Tryd.ntmps15
  go_wp2_with fail
  refine (turned_ok zs p n cap _ hl he hmax hc h0).mono ?_
  rintro e w1 ⟨A, rfl, hrc, hA, hB⟩
  obtain ⟨t, htd⟩ : ∃ t, M.turned (nats zs) = t := ⟨_, rfl⟩
  have HTD : Hid (isR (M.turned (nats zs)) 0 ls = isR t 0 ls) := (by rw [htd] : isR (M.turned (nats zs)) 0 ls = isR t 0 ls)
  rw [htd] at hrc hsl htl hto
  clear htd
  have hcl1 := hcl.later hB
  clear hcl
  have hnx := fun (d : Nat) (hd : d < 4096) => next_any t d (some ⟨A, 0, none⟩) n n w1 htl hn hto hd hrc.has
  go_wp2_with fail
  go_loop [8, 27] (fun m v => ∃ k d : Nat, v = .int .i64 k ∧ m = .int .i64 d ∧ k ≤ n ∧ d < 4096 ∧ Hid (isR t 0 ls = isR t d (ls.drop k))) (fun _ v => n - (intOf v).toNat)
  case atStart => exact ⟨0, 0, rfl, rfl, Nat.zero_le _, by omega, (rfl : isR t 0 ls = isR t 0 (ls.drop 0))⟩
  case round =>
    obtain ⟨k, d, rfl, rfl, hk, hd4, hd⟩ := hrel
    by_cases hkn : k < n
    · obtain ⟨b, off, rfl, hb, hcell⟩ := hcl1 k (by omega)
      clear hcl1
      have hstep : Hid (isR t 0 ls = isR t d (ls[k]?.getD 0 :: ls.drop (k + 1))) := (by rw [hd.out, drop_at (by omega)] : isR t 0 ls = isR t d (ls[k]?.getD 0 :: ls.drop (k + 1)))
      obtain ⟨z, hzd⟩ : ∃ z, ls[k]?.getD 0 = z := ⟨_, rfl⟩
      rw [hzd] at hcell hstep
      clear hzd hd
      have hth := isThing_any z n w1
      cases hg : thingB z n with
      | false =>
        rw [hg] at hth
        have HE : Hid (isR t 0 ls = (false, 1)) := (by rw [hstep.out, isR_cons, htl, hg]; rfl : isR t 0 ls = (false, 1))
        go_wp2_with fail
        refine hth.mono ?_
        rintro e w5 ⟨rfl, rfl⟩
        go_wp2_with fail
        go_ret2
        exact ⟨(by rw [HTD.out, HE.out]; rfl), hB⟩
      | true =>
        rw [hg] at hth
        obtain ⟨i, rfl, hi⟩ := thing_nat hg
        have h1 := hnx d hd4
        have h2 := has_any (M.nextS t d) i w1 (hsl d) (by omega)
        rw [M.nextS_bit, htl, decide_eq_true hi, Bool.true_and] at h2
        have hst2 : Hid (isR t 0 ls = if M.nextB t d i then isR t (d ||| 1 <<< i) (ls.drop (k + 1)) else (false, 0)) := (by rw [hstep.out, isR_cons, htl, hg]; rfl : isR t 0 ls = if M.nextB t d i then isR t (d ||| 1 <<< i) (ls.drop (k + 1)) else (false, 0))
        obtain ⟨s, hs⟩ : ∃ s, M.nextS t d = s := ⟨_, rfl⟩
        rw [hs] at h1 h2
        obtain ⟨g, hgd⟩ : ∃ g, M.nextB t d i = g := ⟨_, rfl⟩
        rw [hgd] at h2 hst2
        clear hs hgd hstep hg
        cases g with
        | false =>
          go_wp2_with fail
          refine hth.mono ?_
          rintro e w5 ⟨rfl, rfl⟩
          go_wp2_with fail
          refine h1.mono ?_
          rintro e w5 ⟨rfl, rfl⟩
          go_wp2_with fail
          refine h2.mono ?_
          rintro e w5 ⟨rfl, rfl⟩
          go_wp2_with fail
          go_ret2
          exact ⟨(by rw [HTD.out, hst2.out]; rfl), hB⟩
        | true =>
          have hsh : IntKind.i64.wrap (2 ^ i) = ((1 <<< i : Nat) : Int) := i64_shl i (by omega)
          have hjp : 1 <<< i < 4096 := by rw [Nat.shiftLeft_eq, Nat.one_mul]; exact Nat.pow_lt_pow_right (n := 12) (a := 2) (by omega) (by omega)
          have hor := i64_or_nat d (1 <<< i) (by omega) (by omega)
          have hd5 : d ||| 1 <<< i < 2 ^ 12 := Nat.or_lt_two_pow hd4 hjp
          obtain ⟨y, hy⟩ : ∃ y : Nat, 1 <<< i = y := ⟨_, rfl⟩
          rw [hy] at hsh hor hst2 hd5
          obtain ⟨x, hxd⟩ : ∃ x : Nat, d ||| y = x := ⟨_, rfl⟩
          rw [hxd] at hor hst2 hd5
          clear hy hxd hjp
          go_wp2_with fail
          refine hth.mono ?_
          rintro e w5 ⟨rfl, rfl⟩
          go_wp2_with fail
          refine h1.mono ?_
          rintro e w5 ⟨rfl, rfl⟩
          go_wp2_with fail
          refine h2.mono ?_
          rintro e w5 ⟨rfl, rfl⟩
          go_wp2_with fail
          go_round
          case rel => exact ⟨k + 1, x, by go_num, rfl, by omega, hd5, (by rw [hst2.out]; rfl : isR t 0 ls = isR t x (ls.drop (k + 1)))⟩
          case measure => simp [intOf]; omega
    · obtain rfl : k = n := by omega
      have HE : Hid (isR t 0 ls = (true, 0)) := (by rw [hd.out, List.drop_eq_nil_of_le (by omega)]; rfl : isR t 0 ls = (true, 0))
      go_wp2_with fail
      go_ret2
      exact ⟨(by rw [HTD.out, HE.out]; rfl), hB⟩
theorem is_any (zs ls : List Int) (p q : Option Addr) (n cap m cap' : Nat) (w : World) (hl : zs.length = n) (hll : ls.length = m) (he : Env w) (hmax : n ≤ maxLen) (hc : Has zs p w) (hcl : Has ls q w) :
    Calls Tryd.prog 15 #[.slice p n cap, .slice q m cap'] w fun e w' => e = .returned (.tuple #[.bool (isV zs ls).1, errV (isV zs ls).2]) ∧ Below w.heap.size w w' := by
  unfold isV
  by_cases h0 : code zs = 0
  · rw [if_neg (by simpa using h0)]
    by_cases hne : m = n
    · subst hne
      rw [if_neg (by omega)]
      exact is_walk zs ls p q m cap cap' w hl hll he hmax hc hcl h0
    · rw [if_pos (by omega)]
      exact is_shape zs p q n cap m cap' w hl he hmax hc h0 hne
  · rw [if_pos h0]
    have := is_err zs p q n cap m cap' _ w hl he hmax hc rfl h0
    unfold errV
    rw [if_neg h0]
    exact this
end Go.Proofs.YtkojkiggdbffhaaDoor
