/- The document's own answers on sets side by side (package whensteadref1): whether all things of a set stand side by side (Side), and the widest such set (Widest); at rows of at most twelve things; what lay in memory lies as it lay. -/
import Derived.Test.YtedmpcadinjjdaaDoorRefMany
import Derived.Test.YtedmpcadinjjdaaDoorRefClo
namespace Go.Proofs.YtedmpcadinjjdaaDoor
open Go.RowKit

theorem side_of {c : List Nat} {s n : Nat} (hs : s < 2 ^ n) (h : ∀ u, u < n → s.testBit u = true → M.row c u &&& s = 0) : M.side c s = true :=
  M.side_iff.2 (fun u _ hu => h u (M.lt_of_testBit hs hu) hu)
theorem side_not {c : List Nat} {s x : Nat} (hx : x < 12) (hb : s.testBit x = true) (h : M.row c x &&& s ≠ 0) : M.side c s = false := by
  cases hs : M.side c s with
  | false => rfl
  | true => exact absurd (M.side_iff.1 hs x hx hb) h
set_option maxHeartbeats 1000000 in
theorem rside_any (c : List Nat) (s : Nat) (p : Option Addr) (n cap : Nat) (w : World) (hl : c.length = n) (hn : n ≤ 12) (hok : M.Ok c) (hs : s < 2 ^ n) (hc : Has (ints c) p w) :
    Calls Tryd.prog 42 #[.slice p n cap, .int .i64 s] w fun e w' => e = .returned (.bool (M.side c s)) ∧ w = w' := by
  have hpw := pow_lt n hn
  have hs4 : s < 4096 := by omega
  have HS : Hid (s < 2 ^ n) := hs
  have hcb : ∀ i, M.row c i < 4096 := fun i => by have := hok i; rw [hl] at this; omega
  clear hs hpw
  go_enter Tryd.func42, Tryd.ntmps42
  go_wp2
  go_loop [5] (fun v => ∃ j : Nat, v = .int .i64 j ∧ j ≤ n ∧ Hid (∀ u, u < j → s.testBit u = true → M.row c u &&& s = 0)) (fun v => n - (intOf v).toNat)
  case atStart => exact ⟨0, rfl, Nat.zero_le _, (fun u hu => by omega : ∀ u, u < 0 → _)⟩
  case round =>
    obtain ⟨j, rfl, hji, hsd⟩ := hrel
    by_cases hj : j < n
    · obtain ⟨b, off, rfl, hb, hcell⟩ := hc j (by rw [ints_length]; omega)
      rw [ints_get] at hcell
      have hsj := hcb j
      have hb1 := bit_any s j w (by omega) (by omega)
      have hbo := both_any (M.row c j) s w hsj hs4
      have hnx : ∀ b, s.testBit j = b → (b = true → M.row c j &&& s = 0) → ∀ u, u < j + 1 → s.testBit u = true → M.row c u &&& s = 0 := fun b hb h u hu hu2 => by
        by_cases e : u = j
        · rw [e] at hu2 ⊢; exact h (hb.symm.trans hu2)
        · exact hsd.out u (by omega) hu2
      have hno : Hid (s.testBit j = true → M.row c j &&& s ≠ 0 → M.side c s = false) := fun h1 h2 => side_not (by omega) h1 h2
      obtain ⟨sj, hsjd⟩ : ∃ sj, M.row c j = sj := ⟨_, rfl⟩
      rw [hsjd] at hcell hsj hbo hnx hno
      clear hsjd
      obtain ⟨b, hb⟩ : ∃ b, s.testBit j = b := ⟨_, rfl⟩
      obtain ⟨o, ho⟩ : ∃ o, sj &&& s = o := ⟨_, rfl⟩
      have HN := hnx b hb
      rw [hb] at hb1 hno
      rw [ho] at hbo HN hno
      have HN2 : Hid ((b = true → o = 0) → ∀ u, u < j + 1 → s.testBit u = true → M.row c u &&& s = 0) := HN
      clear hnx hb ho HN hc
      cases b with
      | false =>
        go_wp2_with fail
        refine hb1.mono ?_
        rintro e w5 ⟨rfl, rfl⟩
        go_wp2_with fail
        go_round
        case rel => exact ⟨j + 1, by go_num, by omega, HN2.out (fun h => by cases h)⟩
        case measure => simp [intOf]; omega
      | true =>
        by_cases ho0 : o = 0
        · have e4 : ((o : Int) != 0) = false := by simp; omega
          have HZ : Hid (o = 0) := ho0
          clear ho0
          go_wp2_with fail
          refine hb1.mono ?_
          rintro e w5 ⟨rfl, rfl⟩
          go_wp2_with fail
          refine hbo.mono ?_
          rintro e w5 ⟨rfl, rfl⟩
          go_wp2_with fail
          go_round
          case rel => exact ⟨j + 1, by go_num, by omega, HN2.out (fun _ => HZ.out)⟩
          case measure => simp [intOf]; omega
        · have e4 : ((o : Int) != 0) = true := by simp; omega
          have hsf := hno.out rfl ho0
          clear ho0
          go_wp2_with fail
          refine hb1.mono ?_
          rintro e w5 ⟨rfl, rfl⟩
          go_wp2_with fail
          refine hbo.mono ?_
          rintro e w5 ⟨rfl, rfl⟩
          go_wp2_with fail
          go_ret
          exact ⟨bool_ret hsf.symm, rfl⟩
    · obtain rfl : j = n := by omega
      have hst : Hid (M.side c s = true) := side_of HS.out hsd.out
      go_wp2_with fail
      go_ret
      exact ⟨bool_ret hst.out.symm, rfl⟩
set_option maxHeartbeats 1000000 in
theorem refwidest_any (m : List Nat) (p : Option Addr) (n cap : Nat) (w : World) (hl : m.length = n) (hm : M.Ok m) (hn : n ≤ 12) (hc : Has (ints m) p w) :
    Calls Tryd.prog 24 #[.slice p n cap] w fun e w' => e = .returned (.int .i64 (M.widest (M.clo m) : Nat)) ∧ Below w.heap.size w w' := by
  have hpw := pow_lt n hn
  have hp0 := Nat.two_pow_pos n
  have hcl : (M.clo m).length = n := by rw [M.clo_length, hl]
  obtain ⟨q, hq⟩ : ∃ q : Nat, 2 ^ n = q := ⟨_, rfl⟩
  have HQ : Hid (2 ^ n = q) := hq
  rw [hq] at hpw hp0
  clear hq
  go_enter Tryd.func24, Tryd.ntmps24
  go_wp2_with fail
  refine (closed_any m p n cap w hl hm hn hc).mono ?_
  rintro e w1 ⟨p1, c1, rfl, hh, hB⟩
  go_wp2_with fail
  refine (pow2_any n q w1 hn HQ).mono ?_
  rintro e w2 ⟨rfl, rfl⟩
  have hst : Hid (M.WDn (M.clo m) q 0) := (by have := M.WDn.start (M.clo m); rw [hcl, HQ.out] at this; exact this : M.WDn (M.clo m) q 0)
  go_wp2_with fail
  go_loop [4, 5] (fun b v => ∃ i z : Nat, v = .int .i64 i ∧ b = .int .i64 z ∧ i < q ∧ z < q ∧ Hid (M.WDn (M.clo m) (i + 1) z)) (fun _ v => (intOf v).toNat)
  case atStart => exact ⟨q - 1, 0, by go_num, rfl, by omega, hp0, (by rw [Nat.sub_add_cancel (by omega)]; exact hst.out : M.WDn (M.clo m) (q - 1 + 1) 0)⟩
  case round =>
    obtain ⟨i, z, rfl, rfl, hiq, hzq, hW⟩ := hrel
    by_cases hi0 : i = 0
    · subst hi0
      have hd := M.WDn.done (by omega) hW.out
      go_wp2_with fail
      go_ret
      exact ⟨(by rw [← hd]; rfl), hB⟩
    · have hpos : 0 < i := by omega
      have h1 := many_any i w1 (by omega)
      have h2 := many_any z w1 (by omega)
      have h3 := rside_any (M.clo m) i p1 n c1 w1 hcl hn (M.clo_ok hm) (by rw [HQ.out]; exact hiq) hh
      have hput : Hid (M.pc z ≤ M.pc i → M.side (M.clo m) i = true → M.WDn (M.clo m) (i - 1 + 1) i) := fun a b => by
        rw [Nat.sub_add_cancel (by omega)]; exact hW.out.put (by rw [hcl, HQ.out]; exact hiq) a b
      have hkeep : Hid (¬ (M.pc z ≤ M.pc i ∧ M.side (M.clo m) i = true) → M.WDn (M.clo m) (i - 1 + 1) z) := fun a => by
        rw [Nat.sub_add_cancel (by omega)]; exact hW.out.keep a
      have hpi : M.pc i ≤ 12 := M.cnt_le 12 i
      have hpz : M.pc z ≤ 12 := M.cnt_le 12 z
      generalize M.pc i = a at *
      generalize M.pc z = b at *
      generalize M.side (M.clo m) i = sd at *
      by_cases hge : b ≤ a
      · have e1 : decide ((b : Int) ≤ (a : Int)) = true := decide_eq_true (by omega)
        have e2 : decide (b ≤ a) = true := decide_eq_true hge
        go_wp2_with fail
        refine h1.mono ?_
        rintro e w2 ⟨rfl, rfl⟩
        go_wp2_with fail
        refine h2.mono ?_
        rintro e w2 ⟨rfl, rfl⟩
        go_wp2_with fail
        refine h3.mono ?_
        rintro e w2 ⟨rfl, rfl⟩
        cases sd with
        | true =>
          go_wp2_with fail
          go_round
          case rel => exact ⟨i - 1, i, by go_num, rfl, by omega, hiq, hput.out hge trivial⟩
          case measure => simp [intOf]; omega
        | false =>
          go_wp2_with fail
          go_round
          case rel => exact ⟨i - 1, z, by go_num, rfl, by omega, hzq, hkeep.out (fun h => by cases h.2)⟩
          case measure => simp [intOf]; omega
      · have e1 : decide ((b : Int) ≤ (a : Int)) = false := decide_eq_false (by omega)
        have e2 : decide (b ≤ a) = false := decide_eq_false hge
        go_wp2_with fail
        refine h1.mono ?_
        rintro e w2 ⟨rfl, rfl⟩
        go_wp2_with fail
        refine h2.mono ?_
        rintro e w2 ⟨rfl, rfl⟩
        go_wp2_with fail
        go_round
        case rel => exact ⟨i - 1, z, by go_num, rfl, by omega, hzq, hkeep.out (fun h => hge h.1)⟩
        case measure => simp [intOf]; omega
end Go.Proofs.YtedmpcadinjjdaaDoor
