/- The document's own ranks (package whensteadref1, Ranks): counted round by round, all things one by one; at orders of at most twelve things; what lay in memory lies as it lay. -/
import Derived.Test.YtedmpcadinjjdaaDoorRefOrd
import Derived.Test.YtedmpcadinjjdaaDoorRank
import Derived.Test.YtedmpcadinjjdaaDoorSame
namespace Go.Proofs.YtedmpcadinjjdaaDoor
open Go.RowKit

theorem rin_le12 {t : List Nat} (ht : M.Ok t) (hn : t.length ≤ 12) (hr : M.Tr t) (k i j a : Nat) : M.row (M.rin t (M.rround t (M.rrounds t k) i) i j) a ≤ 12 := by
  have := M.rin_ub (M.rk_ub ht hr) (M.rround_ub (M.rk_ub ht hr) (M.rrounds_ub (M.rk_ub ht hr) k) i) i j a
  have h2 := M.rk_lt12 (t := t) t.length a
  omega
set_option maxRecDepth 100000 in
set_option maxHeartbeats 2000000 in
theorem refranks_any (m : List Nat) (p : Option Addr) (n cap : Nat) (w : World) (hl : m.length = n) (hm : M.Ok m) (hr : ¬ M.Ring m) (hn : n ≤ 12) (hc : Has (ints m) p w) :
    Calls Tryd.prog 23 #[.slice p n cap] w fun e w' => ∃ A, e = .returned (.slice (some ⟨A, 0, none⟩) n n) ∧ RowAt 3 w' A (M.ranks (M.turned m)) ∧ w.heap.size ≤ A ∧ Below w.heap.size w w' := by
  have hpw := pow_lt n hn
  have htl : (M.turned m).length = n := by rw [M.turned_length, hl]
  have hto : M.Ok (M.turned m) := M.turned_ok _
  have htt := turned_tr hm hr
  have hmk0 := run_make_row' (P := Tryd.prog) 22 3 (.int .i64 0) 8 Tryd.underlying22 Tryd.info3 rfl .i64 .i64 n (by omega) (by omega)
  go_enter Tryd.func23, Tryd.ntmps23
  go_wp2_with fail
  refine (rturned_any m p n cap w hl hm hn hc).mono ?_
  rintro e w1 ⟨p1, c1, rfl, hh, hB1⟩
  obtain ⟨t, htd⟩ : ∃ t, M.turned m = t := ⟨_, rfl⟩
  rw [htd] at hh htl hto htt
  have hle : ∀ k i j a, M.row (M.rin t (M.rround t (M.rrounds t k) i) i j) a ≤ 12 := rin_le12 hto (by omega) htt
  have hfin : Hid (M.ranks (M.turned m) = M.rrounds t n) := (by rw [htd]; unfold M.ranks; rw [htl] : M.ranks (M.turned m) = M.rrounds t n)
  have hrs : Hid (∀ k, M.rrounds t (k + 1) = M.rround t (M.rrounds t k) n) := fun k => by simp only [M.rrounds]; rw [htl]
  have hra : Hid (∀ k i, M.rin t (M.rround t (M.rrounds t k) i) i n = M.rround t (M.rrounds t k) (i + 1)) := fun k i => by
    rw [M.rround_succ, ← M.rin_all hto (by omega), htl]
  have hlen : ∀ k i j, (M.rin t (M.rround t (M.rrounds t k) i) i j).length = n := fun k i j => by rw [M.rin_length, M.rround_length, M.rrounds_length, htl]
  have htb : ∀ i, M.row t i < 65536 := fun i => by have := hto i; rw [htl] at this; omega
  have hsz1 := hB1.size
  have hrow0 : RowAt 3 (w1.alloc (.cells (madeCells #[.int .i64 0] n) 3)) w1.heap.size (M.rrounds t 0) := by
    simp only [M.rrounds]
    rw [htl]
    unfold RowAt
    rw [World.alloc_heap_new, made_arr]
  have hBa : Below w1.heap.size w1 (w1.alloc (.cells (madeCells #[.int .i64 0] n) 3)) := (Below.refl _ _).alloc (Nat.le_refl _) _
  clear htd
  go_wp2_with fail
  go_loopw [5] (fun v wr => ∃ k : Nat, v = .int .i64 k ∧ k ≤ n ∧ RowAt 3 wr w1.heap.size (M.rrounds t k) ∧ Below w1.heap.size w1 wr) (fun v _ => n - (intOf v).toNat)
  case atStart => exact ⟨0, rfl, Nat.zero_le _, hrow0, hBa⟩
  case round =>
    obtain ⟨k, rfl, hkn, hrow, hB2⟩ := hrel
    by_cases hk : k < n
    · go_wp2_with fail
      go_loopw [6] (fun v wr2 => ∃ i : Nat, v = .int .i64 i ∧ i ≤ n ∧ RowAt 3 wr2 w1.heap.size (M.rround t (M.rrounds t k) i) ∧ Below w1.heap.size w1 wr2) (fun v _ => n - (intOf v).toNat)
      case atStart => exact ⟨0, rfl, Nat.zero_le _, (by simpa [M.rround] using hrow), hB2⟩
      case round =>
        clear hrow hB2
        obtain ⟨i, rfl, hin, hrow, hB2⟩ := hrel
        by_cases hi : i < n
        · go_wp2_with fail
          go_loopw [7] (fun v wr3 => ∃ (j : Nat) (o : List Nat), v = .int .i64 j ∧ j ≤ n ∧ Hid (o = M.rin t (M.rround t (M.rrounds t k) i) i j) ∧ o.length = n ∧ RowAt 3 wr3 w1.heap.size o ∧ Below w1.heap.size w1 wr3) (fun v _ => n - (intOf v).toNat)
          case atStart => exact ⟨0, _, rfl, Nat.zero_le _, (rfl : M.rround t (M.rrounds t k) i = M.rin t (M.rround t (M.rrounds t k) i) i 0), by have := hlen k i 0; simpa [M.rin] using this, hrow, hB2⟩
          case round =>
            clear hrow hB2
            obtain ⟨j, o, rfl, hjn, ho, hol, hrow, hB2⟩ := hrel
            by_cases hj : j < n
            · obtain ⟨b, off, hp1, hb, hct⟩ := (hh.later hB2) i (by rw [ints_length]; omega)
              subst hp1
              rw [ints_get] at hct
              have hci := hrow.cell (k := i) (by omega)
              have hcj := hrow.cell (k := j) (by omega)
              have hfi := hrow.frozen i
              have hli : M.row o i ≤ 12 := by rw [ho.out]; exact hle k i j i
              have hlj : M.row o j ≤ 12 := by rw [ho.out]; exact hle k i j j
              have hst := htb i
              have hnx : Hid (M.rin t (M.rround t (M.rrounds t k) i) i (j + 1) = if (M.row t i).testBit j then M.rput o i j else o) := (by simp only [M.rin]; rw [← ho.out] : M.rin t (M.rround t (M.rrounds t k) i) i (j + 1) = if (M.row t i).testBit j then M.rput o i j else o)
              have hup : Hid (M.row o i < M.row o j + 1 → M.rput o i j = o.set i (M.row o j + 1)) := fun h => M.rput_up h
              have hsm : Hid (¬ M.row o i < M.row o j + 1 → M.rput o i j = o) := fun h => M.rput_same h (by omega)
              obtain ⟨s, hsd⟩ : ∃ s, M.row t i = s := ⟨_, rfl⟩
              obtain ⟨x, hxd⟩ : ∃ x, M.row o i = x := ⟨_, rfl⟩
              obtain ⟨y, hyd⟩ : ∃ y, M.row o j = y := ⟨_, rfl⟩
              rw [hsd] at hct hst hnx
              rw [hxd] at hci hli hup hsm
              rw [hyd] at hcj hlj hup hsm
              clear hsd hxd hyd
              obtain ⟨z, hzd⟩ : ∃ z : Nat, y + 1 = z := ⟨_, rfl⟩
              have hz1 : (y : Int) + 1 = (z : Int) := by omega
              have hz2 : IntKind.i64.wrap ((y : Int) + 1) = (z : Int) := by rw [hz1]; exact i64_wrap_nat z (by omega)
              have hz3 : IntKind.i64.wrap (z : Int) = (z : Int) := i64_wrap_nat z (by omega)
              rw [hzd] at hup hsm
              clear hzd
              have hbit := fun W => bit_any s j W hst (by omega)
              obtain ⟨g, hgd⟩ : ∃ g, s.testBit j = g := ⟨_, rfl⟩
              simp only [hgd] at hbit
              rw [hgd] at hnx
              clear hgd
              cases g with
              | false =>
                go_wp2_with fail
                go_big_quiet ((go_at_call 14; exact Calls.quiet_of_same ((hbit _).mono (fun e w' h => ⟨h.1, h.2.symm⟩))))
                go_wp2_with fail
                go_roundw
                case rel => exact ⟨j + 1, o, by go_num, by omega, (by rw [hnx.out]; simp : o = _), hol, hrow.below ((below_drewS _ _).mono (Nat.le_refl _)) hrow.lt, hB2.trans ((below_drewS _ _).mono hB2.size)⟩
                case measure => simp [intOf]; omega
              | true =>
                by_cases hxz : x < z
                · have e1 : decide (x < z) = true := decide_eq_true hxz
                  have hu := hup.out hxz
                  go_wp2_with fail
                  go_big_quiet ((go_at_call 14; exact Calls.quiet_of_same ((hbit _).mono (fun e w' h => ⟨h.1, h.2.symm⟩))))
                  go_wp2_with fail
                  go_roundw
                  case rel => exact ⟨j + 1, o.set i z, by go_num, by omega, (by rw [hnx.out, hu]; simp : o.set i z = _), by simp [hol], (hrow.below ((below_drewS _ _).mono (Nat.le_refl _)) hrow.lt).set i z, (hB2.trans ((below_drewS _ _).mono hB2.size)).setCell (p := ⟨w1.heap.size, i, none⟩) (Nat.le_refl _) _⟩
                  case measure => simp [intOf]; omega
                · have e1 : decide (x < z) = false := decide_eq_false hxz
                  have hu := hsm.out hxz
                  go_wp2_with fail
                  go_big_quiet ((go_at_call 14; exact Calls.quiet_of_same ((hbit _).mono (fun e w' h => ⟨h.1, h.2.symm⟩))))
                  go_wp2_with fail
                  go_roundw
                  case rel => exact ⟨j + 1, o, by go_num, by omega, (by rw [hnx.out, hu]; simp : o = _), hol, hrow.below ((below_drewS _ _).mono (Nat.le_refl _)) hrow.lt, hB2.trans ((below_drewS _ _).mono hB2.size)⟩
                  case measure => simp [intOf]; omega
            · obtain rfl : j = n := by omega
              go_wp2_with fail
              go_roundw
              case rel => exact ⟨i + 1, by go_num, by omega, (by rw [← hra.out k i, ← ho.out]; exact hrow), hB2⟩
              case measure => simp [intOf]; omega
        · obtain rfl : i = n := by omega
          go_wp2_with fail
          go_roundw
          case rel => exact ⟨k + 1, by go_num, by omega, (by rw [hrs.out k]; exact hrow), hB2⟩
          case measure => simp [intOf]; omega
    · obtain rfl : k = n := by omega
      go_wp2_with fail
      go_ret
      exact ⟨w1.heap.size, rfl, (by rw [hfin.out]; exact hrow), hsz1, hB1.trans (hB2.mono hsz1)⟩
end Go.Proofs.YtedmpcadinjjdaaDoor
