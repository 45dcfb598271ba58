/- The order of a trace, as whensteadtop's orderOf makes it of what trace.Before tells; a row by clocks is a row of that order. What lay in memory lies as it lay. -/
import Derived.Test.YtkojkiggdbffhaaDoorBMb
import Derived.Test.YtkojkiggdbffhaaDoorBIs
import Derived.Test.YtkojkiggdbffhaaDoorBTr
import Derived.Test.YtkojkiggdbffhaaDoorBRf
namespace Go.Proofs.YtkojkiggdbffhaaDoor
open Go.RowKit
theorem ro_code {T : List (Int × Int)} (hn : T.length ≤ 12) : code (ints (M.ro T)) = 0 := by
  rw [code_ints (M.ro_ok T) (by rw [M.ro_length]; exact hn)]
  cases h : ringB (M.ro T) with
  | false => rfl
  | true => exact absurd (ringB_iff.1 h) (M.ro_ring T)
theorem ro_turned (T : List (Int × Int)) : M.turned (nats (ints (M.ro T))) = M.before T := by rw [nats_ints, M.turned_ro]
theorem row_is {T : List (Int × Int)} {n : Nat} (hl : T.length = n) (hn : n ≤ 12) {L : List Nat} (h : M.IsRw T n L) : isV (ints (M.ro T)) (ints L) = (true, 0) := by
  unfold isV
  rw [if_neg (fun e => e (ro_code (by omega))), if_neg (fun e => e (by rw [ints_length, ints_length, h.length, M.ro_length, hl])), ro_turned]
  have hbl : (M.before T).length = n := by rw [M.before_length, hl]
  have key : ∀ d k, k + d = n → isR (M.before T) (M.tk L k) ((ints L).drop k) = (true, 0) := by
    intro d
    induction d with
    | zero =>
      intro k hk
      rw [List.drop_eq_nil_of_le (by rw [ints_length, h.length]; omega)]
      rfl
    | succ d ih =>
      intro k hk
      have hkl : k < L.length := by rw [h.length]; omega
      rw [drop_at (by rw [ints_length]; exact hkl), ints_get, isR_cons, hbl]
      obtain ⟨h1, h2, h3⟩ := h.at hkl
      have ht : thingB ((M.row L k : Nat) : Int) n = true := by rw [thingB_nn (by omega)]; exact decide_eq_true (by omega)
      have hnx : M.nextB (M.before T) (M.tk L k) (M.row L k) = true := by
        unfold M.nextB
        rw [Bool.and_eq_true]
        constructor
        · cases e : (M.tk L k).testBit (M.row L k) with
          | false => rfl
          | true => exact absurd ((M.tk_bit L k _).1 e) h2
        · rw [M.subB_iff, M.before_row T (by omega)]
          intro j hj
          exact (M.tk_bit L k j).2 (h3 j hj)
      rw [ht, Int.toNat_natCast, if_pos rfl, if_pos hnx, ← M.tk_succ hkl]
      exact ih (k + 1) (by omega)
  have := key n 0 (by omega)
  rw [List.drop_zero] at this
  exact this
set_option maxRecDepth 100000 in
set_option maxHeartbeats 1500000 in
theorem oo_no (P : Int) (T : List (Int × Int)) (p : Option Addr) (n cap : Nat) (w : World) (hl : T.length = n) (hmax : n ≤ maxLen) (hc : HasE T p w) (h : M.tcode P T ≠ 0 ∨ 12 < n) :
    Calls Tryd.prog 6 #[trV P p n cap] w fun e w' => e = .returned (.tuple #[.slice none 0 0, .bool false]) ∧ Below w.heap.size w w' := by
  obtain ⟨wa, hwa⟩ : ∃ wa, w.alloc (.cells #[.int .i64 P, .slice p n cap] 24) = wa := ⟨_, rfl⟩
  have ta : TBox wa w.heap.size P p n cap := hwa ▸ tbox_new w P p n cap
  have hBa : Below w.heap.size w wa := by rw [← hwa]; exact bel_al (Below.refl _ _) _
  have k0 := ta.procs
  have k1 := ta.events
  have kl := ta.lt
  go_enter Tryd.func6, Tryd.ntmps6
  go_wp2_with fail
  clear hwa k0 k1 kl
  by_cases h0 : M.tcode P T = 0
  · have h12 : 12 < n := by rcases h with h | h; exact absurd h0 h; exact h
    refine (before_ok P T p n cap _ hl hmax (hc.later hBa) h0).mono ?_
    rintro e w1 ⟨A, rfl, hr, _, hB1⟩
    have t1 := ta.later hB1 ta.lt
    have k0 := t1.procs
    have k1 := t1.events
    have kl := t1.lt
    have HC : Hid (Below _ _ _) := bel_on hBa hB1
    have hd : decide ((12 : Int) < (n : Int)) = true := decide_eq_true (by omega)
    have hd2 : decide (12 < n) = true := decide_eq_true h12
    clear hBa hB1 ta hr h h0 h12 t1
    go_wp2_with fail
    go_ret2
    exact ⟨rfl, HC.out⟩
  · obtain ⟨c, hcc⟩ : ∃ c, M.tcode P T = c := ⟨_, rfl⟩
    rw [hcc] at h0
    refine (before_err P T p n cap c _ hl hmax (hc.later hBa) hcc h0).mono ?_
    rintro e w1 ⟨rfl, hB1⟩
    have HC : Hid (Below _ _ _) := bel_on hBa hB1
    clear hBa hB1 ta h h0
    go_wp2_with fail
    go_ret2
    exact ⟨rfl, HC.out⟩
set_option maxRecDepth 100000 in
set_option maxHeartbeats 1500000 in
theorem oo_ok (P : Int) (T : List (Int × Int)) (p : Option Addr) (n cap : Nat) (w : World) (hl : T.length = n) (hmax : n ≤ maxLen) (hc : HasE T p w) (h0 : M.tcode P T = 0) (h12 : n ≤ 12) :
    Calls Tryd.prog 6 #[trV P p n cap] w fun e w' => ∃ A, e = .returned (.tuple #[.slice (some ⟨A, 0, none⟩) n n, .bool true]) ∧ RowAt 3 w' A (M.ro T) ∧ Below w.heap.size w w' := by
  obtain ⟨wa, hwa⟩ : ∃ wa, w.alloc (.cells #[.int .i64 P, .slice p n cap] 24) = wa := ⟨_, rfl⟩
  have ta : TBox wa w.heap.size P p n cap := hwa ▸ tbox_new w P p n cap
  have hBa : Below w.heap.size w wa := by rw [← hwa]; exact bel_al (Below.refl _ _) _
  have k0 := ta.procs
  have k1 := ta.events
  have kl := ta.lt
  have hmk0 := run_make_row' (P := Tryd.prog) 25 3 (.int .i64 0) 8 Tryd.underlying25 infoInt rfl .i64 .i64 n (by omega) (by omega)
  go_enter Tryd.func6, Tryd.ntmps6
  go_wp2_with fail
  clear hwa k0 k1 kl
  refine (before_ok P T p n cap _ hl hmax (hc.later hBa) h0).mono ?_
  rintro e w1 ⟨A, rfl, hbf, _, hB1⟩
  have t1 := ta.later hB1 ta.lt
  have k0 := t1.procs
  have k1 := t1.events
  have kl := t1.lt
  have hC1 := bel_on hBa hB1
  have hd : decide ((12 : Int) < (n : Int)) = false := decide_eq_false (by omega)
  have hd2 : decide (12 < n) = false := decide_eq_false (by omega)
  obtain ⟨w3, hw3⟩ : ∃ w3, w1.alloc (.cells (madeCells #[.int .i64 0] n) 3) = w3 := ⟨_, rfl⟩
  have r3 : RowAt 3 w3 w1.heap.size (M.rq T n 0 0) := by
    subst hw3
    unfold RowAt
    rw [World.alloc_heap_new, made_noughts, M.rq_start]
  have hb3 : Below w1.heap.size w1 w3 := by rw [← hw3]; exact bel_al (Below.refl _ _) _
  have hAl := hbf.lt
  clear hBa hB1 ta t1
  go_wp2_with fail
  clear hw3 hmk0 k0 k1 kl hd hd2
  go_loopw [7] (fun v wr => ∃ i : Nat, v = .int .i64 i ∧ i ≤ n ∧ RowAt 3 wr w1.heap.size (M.rq T n i 0) ∧ Below w1.heap.size w1 wr) (fun v _ => n - (intOf v).toNat)
  case atStart => exact ⟨0, rfl, Nat.zero_le _, r3, hb3⟩
  case round =>
    clear r3 hb3
    obtain ⟨i, rfl, hi, hr, hB⟩ := hrel
    by_cases hlt : i < n
    · obtain ⟨w4, hw4⟩ : ∃ w4, w4 = wr := ⟨_, rfl⟩
      subst hw4
      go_wp2_with fail
      go_loopw [8] (fun v wr => ∃ j : Nat, v = .int .i64 j ∧ j ≤ i ∧ RowAt 3 wr w1.heap.size (M.rq T n i j) ∧ Below w1.heap.size w1 wr) (fun v _ => i - (intOf v).toNat)
      case atStart => exact ⟨0, rfl, Nat.zero_le _, hr, hB⟩
      case round =>
        clear hr hB
        obtain ⟨j, rfl, hj, hr, hB⟩ := hrel
        have hrl := hr.lt
        by_cases hjl : j < i
        · have hcb := (hbf.below hB hbf.lt).cell (k := i) (by rw [M.before_length]; omega)
          have hbl := (hbf.below hB hbf.lt).lt
          rw [M.before_row T (by omega)] at hcb
          have hbs := M.bs_lt T i
          have hp24 := pow_24 i (by omega)
          have hil : (i : Int) < (n : Int) := by omega
          have hjn : (j : Int) < (n : Int) := by omega
          have hcr := hr.cell (k := j) (by rw [M.rq_length]; omega)
          have hfz := hr.frozen j
          have hrb : M.row (M.rq T n i j) j < 1073741824 := by
            have h1 : M.row (M.rq T n i j) j < 2 ^ (i + 1) := by
              rw [M.rq_row T (by omega)]; exact M.cnt01_lt _ _
            have := pow_24 (i + 1) (by omega)
            omega
          have hhit := fun h => M.rq_hit (T := T) (n := n) (i := i) (k := j) (by omega) h
          have hmiss := fun h => M.rq_miss (T := T) (n := n) (i := i) (k := j) h
          have hset := hr.set j (M.row (M.rq T n i j) j ||| 1 <<< i)
          obtain ⟨y, hy⟩ : ∃ y, M.bs T i = y := ⟨_, rfl⟩
          rw [hy] at hcb hbs hhit hmiss
          obtain ⟨z, hz⟩ : ∃ z, M.row (M.rq T n i j) j = z := ⟨_, rfl⟩
          rw [hz] at hcr hrb hset hhit
          clear hy hz
          cases hyb : y.testBit j with
          | true =>
            rw [hhit hyb] at hset
            obtain ⟨x, hx⟩ : ∃ x, z ||| 1 <<< i = x := ⟨_, rfl⟩
            have hwith : ∀ W, Calls Tryd.prog 23 #[.int .i64 (z : Nat), .int .i64 (i : Nat)] W fun e w' => e = .returned (.int .i64 (x : Nat)) ∧ W = w' := fun W => by rw [← hx]; exact with_big z i W hrb (by omega)
            rw [hx] at hset
            have H1 : Hid (RowAt _ _ _ _) := hset
            have H2 : Hid (Below _ _ _) := hB.setCell (p := ⟨w1.heap.size, j, none⟩) (Nat.le_refl _) (.int .i64 (x : Nat))
            clear hset hhit hmiss hx hr hB
            go_wp2_with (first | (go_at_call 17; refine (bit_big y j _ (by omega) (by omega)).mono ?_; rw [hyb]; rintro e w' ⟨rfl, rfl⟩) | (go_at_call 23; refine (hwith _).mono ?_; rintro e w' ⟨rfl, rfl⟩))
            go_roundw
            case rel => exact ⟨j + 1, by go_num, by omega, H1.out, H2.out⟩
            case measure => simp [intOf]; omega
          | false =>
            have HN : Hid (RowAt 3 wr w1.heap.size (M.rq T n i (j + 1))) := by show RowAt _ _ _ _; rw [← hmiss hyb]; exact hr
            clear hset hhit hmiss hr
            go_wp2_with (go_at_call 17; refine (bit_big y j _ (by omega) (by omega)).mono ?_; rw [hyb]; rintro e w' ⟨rfl, rfl⟩)
            go_roundw
            case rel => exact ⟨j + 1, by go_num, by omega, HN.out, hB⟩
            case measure => simp [intOf]; omega
        · obtain rfl : j = i := by omega
          rw [M.rq_next] at hr
          go_wp2_with fail
          go_roundw
          case rel => exact ⟨j + 1, by go_num, by omega, hr, hB⟩
          case measure => simp [intOf]; omega
    · obtain rfl : n = i := by omega
      have hro : M.rq T n n 0 = M.ro T := by unfold M.ro; rw [hl]
      rw [hro] at hr
      have HC : Hid (Below _ _ _) := bel_on hC1 hB
      clear hB hlt hbf
      go_wp2_with fail
      go_ret2
      exact ⟨_, rfl, hr, HC.out⟩
end Go.Proofs.YtkojkiggdbffhaaDoor
