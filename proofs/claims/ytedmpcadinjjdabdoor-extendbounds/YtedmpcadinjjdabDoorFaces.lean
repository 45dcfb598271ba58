/- Package order's Check, Less and With, at whatever numbers: each tells what is wrong as the document has it, else whether a thing is ahead of another one, and the order with a step more; what lay in memory lies as it lay. -/
import Derived.Test.YtedmpcadinjjdabDoorOrder
import Derived.LaidEql
namespace Go.Proofs.YtedmpcadinjjdabDoor
open Go.RowKit

/-- The library's table lies where its variable is. -/
structure Env (w : World) : Prop where
  tab : Tab w
  two : 2 < w.heap.size
theorem Env.later {w w' : World} (h : Env w) (hb : Below w.heap.size w w') : Env w' := ⟨h.tab.below hb h.two, by have := hb.size; have := h.two; omega⟩
/-- The slice's address p leads to the numbers zs. -/
def Has (zs : List Int) (p : Option Addr) (w : World) : Prop := ∀ j, j < zs.length → ∃ b off, p = some ⟨b, off, none⟩ ∧ b < w.heap.size ∧ w.cell? ⟨b, off + j, none⟩ = some (.int .i64 (zs[j]?.getD 0))
theorem Has.later {zs : List Int} {p : Option Addr} {w w' : World} (h : Has zs p w) (hb : Below w.heap.size w w') : Has zs p w' := fun j hj => by
  obtain ⟨b, off, h1, h2, h3⟩ := h j hj
  exact ⟨b, off, h1, by have := hb.size; omega, (hb.cell (p := ⟨b, off + j, none⟩) h2).trans h3⟩
theorem RowAt.has {w : World} {A : Nat} {m : List Nat} (h : RowAt 3 w A m) : Has (ints m) (some ⟨A, 0, none⟩) w := fun j hj => by
  rw [ints_length] at hj
  exact ⟨A, 0, rfl, h.lt, by rw [ints_get, Nat.zero_add]; exact h.cell hj⟩
theorem nats_ints (m : List Nat) : nats (ints m) = m := by
  apply List.ext_getElem
  · rw [nats_length, ints_length]
  · intro i h1 h2
    simp [nats, ints]
theorem allSets_ints {m : List Nat} (h : M.Ok m) : allSets (ints m) = true := by
  rw [allSets_iff]
  intro k hk
  rw [ints_get, ints_length]
  unfold setB
  have h1 := h k
  have e : ((2 : Int) ^ m.length) = ((2 ^ m.length : Nat) : Int) := by simp
  rw [e]
  exact decide_eq_true (by omega)
theorem code_ints {m : List Nat} (h : M.Ok m) (hn : m.length ≤ 12) : code (ints m) = if ringB m then 6 else 0 := by
  have hl : ¬ 12 < (ints m).length := by rw [ints_length]; omega
  cases hr : ringB m with
  | true => rw [code_clash hl (allSets_ints h) (by rw [nats_ints]; exact hr)]; rfl
  | false => rw [code_ok hl (allSets_ints h) (by rw [nats_ints]; exact hr)]; rfl

theorem behind_ok (zs : List Int) (p : Option Addr) (n cap : Nat) (w : World) (hl : zs.length = n) (he : Env w) (hmax : n ≤ maxLen) (hc : Has zs p w) (h0 : code zs = 0) :
    Calls Tryd.prog 24 #[.slice p n cap] w fun e w' => ∃ A, e = .returned (.tuple #[.slice (some ⟨A, 0, none⟩) n n, .nilIface]) ∧ RowAt 3 w' A (M.clo (nats zs)) ∧ w.heap.size ≤ A ∧ Below w.heap.size w w' := by
  subst hl
  refine (behind_any zs p cap w he.tab he.two hmax hc).mono ?_
  rintro e w' ⟨r, rfl, hb, _, h2⟩
  obtain ⟨A, rfl, h3, h4⟩ := h2 h0
  exact ⟨A, by rw [h0]; rfl, h3, h4, hb⟩
theorem behind_err (zs : List Int) (p : Option Addr) (n cap c : Nat) (w : World) (hl : zs.length = n) (he : Env w) (hmax : n ≤ maxLen) (hc : Has zs p w) (h0 : code zs = c) (hne : c ≠ 0) :
    Calls Tryd.prog 24 #[.slice p n cap] w fun e w' => e = .returned (.tuple #[.slice none 0 0, .iface 44 (.int .i64 (c : Nat))]) ∧ Below w.heap.size w w' := by
  subst hl
  refine (behind_any zs p cap w he.tab he.two hmax hc).mono ?_
  rintro e w' ⟨r, rfl, hb, h1, _⟩
  rw [h1 (by rw [h0]; exact hne), h0]
  exact ⟨by simp [errV, hne], hb⟩

set_option maxHeartbeats 400000 in
theorem less_err (zs : List Int) (a b : Int) (p : Option Addr) (n cap c : Nat) (w : World) (hl : zs.length = n) (he : Env w) (hmax : n ≤ maxLen) (hc : Has zs p w) (h0 : code zs = c) (hne : c ≠ 0) :
    Calls Tryd.prog 23 #[.slice p n cap, .int .i64 a, .int .i64 b] w fun e w' => e = .returned (.tuple #[.bool false, .iface 44 (.int .i64 (c : Nat))]) ∧ Below w.heap.size w w' := by
  go_enter Tryd.func23, Tryd.ntmps23
  go_wp2_with (go_at_call 24; refine (behind_err zs p n cap c _ hl he hmax hc h0 hne).mono ?_; rintro e w' ⟨rfl, hB⟩)
  go_ret2
  exact ⟨rfl, hB⟩
set_option maxHeartbeats 400000 in
theorem less_range (zs : List Int) (a b : Int) (p : Option Addr) (n cap : Nat) (w : World) (hl : zs.length = n) (he : Env w) (hmax : n ≤ maxLen) (hc : Has zs p w) (h0 : code zs = 0) (hab : thingB a n = false ∨ thingB b n = false) :
    Calls Tryd.prog 23 #[.slice p n cap, .int .i64 a, .int .i64 b] w fun e w' => e = .returned (.tuple #[.bool false, .iface 44 (.int .i64 (1 : Nat))]) ∧ Below w.heap.size w w' := by
  cases ha : thingB a n with
  | false =>
    clear hab
    go_enter Tryd.func23, Tryd.ntmps23
    go_wp2_with (first | (go_at_call 24; refine (behind_ok zs p n cap _ hl he hmax hc h0).mono ?_; rintro e w' ⟨A, rfl, hr, hA, hB⟩) | (go_at_call 25; refine (isThing_any _ _ _).mono ?_; rintro e w' ⟨rfl, rfl⟩))
    go_ret2
    exact ⟨rfl, hB⟩
  | true =>
    have hb : thingB b n = false := by rw [ha] at hab; rcases hab with h | h; (· cases h); (· exact h)
    clear hab
    go_enter Tryd.func23, Tryd.ntmps23
    go_wp2_with (first | (go_at_call 24; refine (behind_ok zs p n cap _ hl he hmax hc h0).mono ?_; rintro e w' ⟨A, rfl, hr, hA, hB⟩) | (go_at_call 25; refine (isThing_any _ _ _).mono ?_; rintro e w' ⟨rfl, rfl⟩))
    go_ret2
    exact ⟨rfl, hB⟩
theorem thingB_nat {i n : Nat} (h : i < n) : thingB (i : Int) n = true := by unfold thingB; exact decide_eq_true (by omega)
theorem thing_nat {z : Int} {n : Nat} (h : thingB z n = true) : ∃ i : Nat, z = i ∧ i < n := by
  unfold thingB at h
  have := of_decide_eq_true h
  exact ⟨z.toNat, by omega, by omega⟩
set_option maxHeartbeats 400000 in
theorem less_ok (zs : List Int) (i j : Nat) (p : Option Addr) (n cap : Nat) (w : World) (hl : zs.length = n) (he : Env w) (hmax : n ≤ maxLen) (hc : Has zs p w) (h0 : code zs = 0) (hi : i < n) (hj : j < n) :
    Calls Tryd.prog 23 #[.slice p n cap, .int .i64 (i : Nat), .int .i64 (j : Nat)] w fun e w' => e = .returned (.tuple #[.bool ((M.row (M.clo (nats zs)) i).testBit j), .nilIface]) ∧ Below w.heap.size w w' := by
  have hz := code_zero h0
  have hn : n ≤ 12 := by omega
  have hlen : (M.clo (nats zs)).length = n := by rw [M.clo_length, nats_length, hl]
  have hrk : M.row (M.clo (nats zs)) i < 4096 := by have := M.clo_ok (nats_ok hz.2.1) i; rw [hlen] at this; have := pow_lt n hn; omega
  have ha := thingB_nat hi
  have hb := thingB_nat hj
  clear hz
  go_enter Tryd.func23, Tryd.ntmps23
  go_wp2_with (first | (go_at_call 24; refine (behind_ok zs p n cap _ hl he hmax hc h0).mono ?_; rintro e w' ⟨A, rfl, hr, hA, hB⟩; have hcell := hr.cell (k := i) (by rw [hlen]; exact hi)) | (go_at_call 25; refine (isThing_any _ _ _).mono ?_; rintro e w' ⟨rfl, rfl⟩) | (go_at_call 40; refine (has_any _ _ _ hrk (by omega)).mono ?_; rintro e w' ⟨rfl, rfl⟩))
  go_ret2
  exact ⟨rfl, hB⟩

/-! ### With -/
set_option maxHeartbeats 400000 in
theorem with_err (zs : List Int) (a b : Int) (p : Option Addr) (n cap c : Nat) (w : World) (hl : zs.length = n) (he : Env w) (hmax : n ≤ maxLen) (hc : Has zs p w) (h0 : code zs = c) (hne : c ≠ 0) :
    Calls Tryd.prog 9 #[.slice p n cap, .int .i64 a, .int .i64 b] w fun e w' => e = .returned (.tuple #[.slice none 0 0, .iface 44 (.int .i64 (c : Nat))]) ∧ Below w.heap.size w w' := by
  go_enter Tryd.func9, Tryd.ntmps9
  go_wp2_with (go_at_call 24; refine (behind_err zs p n cap c _ hl he hmax hc h0 hne).mono ?_; rintro e w' ⟨rfl, hB⟩)
  go_ret2
  exact ⟨rfl, hB⟩
set_option maxHeartbeats 400000 in
theorem with_range (zs : List Int) (a b : Int) (p : Option Addr) (n cap : Nat) (w : World) (hl : zs.length = n) (he : Env w) (hmax : n ≤ maxLen) (hc : Has zs p w) (h0 : code zs = 0) (hab : thingB a n = false ∨ thingB b n = false) :
    Calls Tryd.prog 9 #[.slice p n cap, .int .i64 a, .int .i64 b] w fun e w' => e = .returned (.tuple #[.slice none 0 0, .iface 44 (.int .i64 (1 : Nat))]) ∧ Below w.heap.size w w' := by
  cases ha : thingB a n with
  | false =>
    clear hab
    go_enter Tryd.func9, Tryd.ntmps9
    go_wp2_with (first | (go_at_call 24; refine (behind_ok zs p n cap _ hl he hmax hc h0).mono ?_; rintro e w' ⟨A, rfl, hr, hA, hB⟩) | (go_at_call 25; refine (isThing_any _ _ _).mono ?_; rintro e w' ⟨rfl, rfl⟩))
    go_ret2
    exact ⟨rfl, hB⟩
  | true =>
    have hb : thingB b n = false := by rw [ha] at hab; rcases hab with h | h; (· cases h); (· exact h)
    clear hab
    go_enter Tryd.func9, Tryd.ntmps9
    go_wp2_with (first | (go_at_call 24; refine (behind_ok zs p n cap _ hl he hmax hc h0).mono ?_; rintro e w' ⟨A, rfl, hr, hA, hB⟩) | (go_at_call 25; refine (isThing_any _ _ _).mono ?_; rintro e w' ⟨rfl, rfl⟩))
    go_ret2
    exact ⟨rfl, hB⟩
theorem ringB_more_clo {r : List Nat} (hr : M.Ok r) {a b : Nat} (ha : a < r.length) (hb : b < r.length) : ringB (M.more (M.clo r) a b) = ringB (M.more r a b) := by
  unfold ringB
  rw [M.clo_more_clo hr ha hb, M.more_length, M.more_length, M.clo_length]
theorem shl_one (j : Nat) : (2 : Int) ^ j = ((1 <<< j : Nat) : Int) := by rw [Nat.shiftLeft_eq, Nat.one_mul]; simp
theorem i64_shl (j : Nat) (hj : j ≤ 12) : IntKind.i64.wrap (2 ^ j) = ((1 <<< j : Nat) : Int) := by
  rw [shl_one]
  refine i64_wrap_nat _ ?_
  rw [Nat.shiftLeft_eq, Nat.one_mul]; have := pow_lt j hj; omega
set_option maxRecDepth 100000 in
set_option maxHeartbeats 1000000 in
theorem with_step (zs : List Int) (i j : Nat) (p : Option Addr) (n cap : Nat) (w : World) (hl : zs.length = n) (he : Env w) (hmax : n ≤ maxLen) (hc : Has zs p w) (h0 : code zs = 0) (hi : i < n) (hj : j < n) :
    Calls Tryd.prog 9 #[.slice p n cap, .int .i64 (i : Nat), .int .i64 (j : Nat)] w fun e w' =>
      (ringB (M.more (nats zs) i j) = true ∧ e = .returned (.tuple #[.slice none 0 0, .iface 44 (.int .i64 (6 : Nat))]) ∧ Below w.heap.size w w') ∨
      (ringB (M.more (nats zs) i j) = false ∧ ∃ A, e = .returned (.tuple #[.slice (some ⟨A, 0, none⟩) n n, .nilIface]) ∧ RowAt 3 w' A (M.clo (M.more (nats zs) i j)) ∧ w.heap.size ≤ A ∧ Below w.heap.size w w') := by
  have hz := code_zero h0
  have hn : n ≤ 12 := by omega
  have hlen : (M.clo (nats zs)).length = n := by rw [M.clo_length, nats_length, hl]
  have hpw := pow_lt n hn
  have hrk : M.row (M.clo (nats zs)) i < 4096 := by have := M.clo_ok (nats_ok hz.2.1) i; rw [hlen] at this; omega
  have ha := thingB_nat hi
  have hb := thingB_nat hj
  have hsh : IntKind.i64.wrap (2 ^ j) = ((1 <<< j : Nat) : Int) := i64_shl j (by omega)
  have hjp : 1 <<< j < 65536 := by rw [Nat.shiftLeft_eq, Nat.one_mul]; have := pow_lt j (by omega); omega
  obtain ⟨q, hq⟩ : ∃ q : Nat, 1 <<< j = q := ⟨_, rfl⟩
  rw [hq] at hsh hjp
  have HQ : Hid (1 <<< j = q) := hq
  clear hq
  go_enter Tryd.func9, Tryd.ntmps9
  go_wp2_with (first | (go_at_call 24; refine (behind_ok zs p n cap _ hl he hmax hc h0).mono ?_; rintro e w' ⟨A, rfl, hr, hA, hB⟩; have hcell := hr.cell (k := i) (by rw [hlen]; exact hi); have hfr := hr.frozen i) | (go_at_call 25; refine (isThing_any _ _ _).mono ?_; rintro e w' ⟨rfl, rfl⟩))
  go_still_tail 7, (by kernel_rfl)
  go_wp2_with fail
  have hor := i64_or_nat (M.row (M.clo (nats zs)) i) q (by omega) hjp
  rw [hor, ← HQ.out]
  have hok := nats_ok hz.2.1
  have hr2 : RowAt 3 (w'.setCell ⟨A, i, none⟩ (.int .i64 ((M.row (M.clo (nats zs)) i ||| 1 <<< j : Nat) : Int))).drew A (M.more (M.clo (nats zs)) i j) := (hr.set i _).drew
  have hB2 : Below w.heap.size w (w'.setCell ⟨A, i, none⟩ (.int .i64 ((M.row (M.clo (nats zs)) i ||| 1 <<< j : Nat) : Int))).drew := (hB.setCell (p := ⟨A, i, none⟩) hA _).drew
  have hin : i < (nats zs).length := by rw [nats_length]; omega
  have hjn : j < (nats zs).length := by rw [nats_length]; omega
  have hok2 : M.Ok (M.more (M.clo (nats zs)) i j) := M.more_ok (M.clo_ok hok) (by rw [M.clo_length]; exact hjn)
  have hl2 : (ints (M.more (M.clo (nats zs)) i j)).length = n := by rw [ints_length, M.more_length, hlen]
  have hcode := code_ints hok2 (by rw [M.more_length, hlen]; exact hn)
  rw [ringB_more_clo hok hin hjn] at hcode
  cases hring : ringB (M.more (nats zs) i j) with
  | true =>
    rw [hring, if_pos rfl] at hcode
    refine (behind_err (ints (M.more (M.clo (nats zs)) i j)) (some ⟨A, 0, none⟩) n n 6 _ hl2 (he.later hB2) hmax hr2.has hcode (by omega)).mono ?_
    rintro e w3 ⟨rfl, hB3⟩
    go_wp2
    go_ret2
    exact .inl ⟨hring, rfl, hB2.trans (hB3.mono hB2.size)⟩
  | false =>
    rw [hring, if_neg (by simp)] at hcode
    refine (behind_ok (ints (M.more (M.clo (nats zs)) i j)) (some ⟨A, 0, none⟩) n n _ hl2 (he.later hB2) hmax hr2.has hcode).mono ?_
    rintro e w3 ⟨A3, rfl, hr3, hA3, hB3⟩
    rw [nats_ints, M.clo_more_clo hok hin hjn] at hr3
    go_wp2
    go_ret2
    exact .inr ⟨hring, A3, rfl, hr3, Nat.le_trans hB2.size hA3, hB2.trans (hB3.mono hB2.size)⟩
end Go.Proofs.YtedmpcadinjjdabDoor
