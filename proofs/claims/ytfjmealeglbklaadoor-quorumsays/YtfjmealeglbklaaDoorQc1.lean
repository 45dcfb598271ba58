/- Package quorum: whether a set is in another one (isIn), what is left of all (others), and whether one of some sets is as it is asked (has, hasOther, and of a set in checkSet: package slices, ContainsFunc, IndexFunc, at a closure); what lay in memory lies as it lay. -/
import Derived.Test.YtfjmealeglbklaaDoorQm0
import Derived.Test.YtfjmealeglbklaaDoorDmt
import Derived.WalkMore
namespace Go.Proofs.YtfjmealeglbklaaDoor
open Go.RowKit

/-- The slice's address p leads to n numbers. -/
def HasN (f : Nat → Nat) (n : Nat) (p : Option Addr) (w : World) : Prop := ∀ j, j < n → ∃ b off, p = some ⟨b, off, none⟩ ∧ b < w.heap.size ∧ w.cell? ⟨b, off + j, none⟩ = some (.int .i64 (f j : Nat))
theorem HasN.later {f : Nat → Nat} {n : Nat} {p : Option Addr} {w w' : World} (h : HasN f n p w) (hb : Below w.heap.size w w') : HasN f n p w' := fun j hj => by
  obtain ⟨b, off, h1, h2, h3⟩ := h j hj
  exact ⟨b, off, h1, by have := hb.size; omega, (hb.cell (p := ⟨b, off + j, none⟩) h2).trans h3⟩
theorem HasI.toN {S : List Nat} {p : Option Addr} {w : World} (h : HasI (ints S) p w) : HasN (M.row S) S.length p w := fun j hj => by
  obtain ⟨b, off, h1, h2, h3⟩ := h j (by rw [ints_length]; exact hj)
  rw [ints_get] at h3
  exact ⟨b, off, h1, h2, h3⟩
/-- is one of them so? -/
def anyN (P : Nat → Bool) (f : Nat → Nat) (n : Nat) : Bool := (List.range n).any fun j => P (f j)
theorem anyN_hit {P : Nat → Bool} {f : Nat → Nat} {n i : Nat} (hi : i < n) (h : P (f i) = true) : anyN P f n = true := by
  unfold anyN; rw [List.any_eq_true]; exact ⟨i, List.mem_range.2 hi, h⟩
theorem anyN_no {P : Nat → Bool} {f : Nat → Nat} {n : Nat} (h : ∀ i, i < n → P (f i) = false) : anyN P f n = false := by
  unfold anyN; rw [List.any_eq_false]; intro j hj; rw [h j (List.mem_range.1 hj)]; simp
theorem anyN_row (P : Nat → Bool) (S : List Nat) : anyN P (M.row S) S.length = S.any P := by
  rw [Bool.eq_iff_iff]
  unfold anyN
  rw [List.any_eq_true, List.any_eq_true]
  constructor
  · rintro ⟨j, hj, h⟩; exact ⟨_, M.row_inS (List.mem_range.1 hj), h⟩
  · rintro ⟨a, ha, h⟩
    obtain ⟨i, hi, rfl⟩ := M.row_get ha
    exact ⟨i, List.mem_range.2 hi, h⟩

theorem andNot_sub {a b r : Nat} (h : ∀ j, r.testBit j = (a.testBit j && !b.testBit j)) : ((r : Int) == 0) = M.subB a b := by
  rw [Bool.eq_iff_iff, M.subB_iff]
  have := andNot_zero h
  constructor
  · intro e; exact this.1 (by simpa using e)
  · intro e; have := this.2 e; simp [this]
set_option maxHeartbeats 400000 in
theorem qin_ok (a b : Nat) (w : World) (ha : a < 65536) (hb : b < 65536) :
    Calls Tryd.prog 48 #[.int .i64 (a : Nat), .int .i64 (b : Nat)] w fun e w' => e = .returned (.bool (M.subB a b)) ∧ w = w' := by
  obtain ⟨r, hr1, _, hr3⟩ := i64_andNot_bits a b ha hb
  have HR : Hid (((r : Int) == 0) = M.subB a b) := andNot_sub hr3
  clear hr3
  go_enter Tryd.func48, Tryd.ntmps48
  go_wp2_with fail
  go_ret
  exact ⟨bool_ret HR.out, rfl⟩
set_option maxHeartbeats 400000 in
theorem qothers_ok (n s : Nat) (w : World) (hn : n ≤ 8) (hs : s < 2 ^ n) :
    Calls Tryd.prog 35 #[.int .i64 (n : Nat), .int .i64 (s : Nat)] w fun e w' => e = .returned (.int .i64 (M.cpl n s : Nat)) ∧ w = w' := by
  have h2 : 2 ^ n ≤ 2 ^ 8 := Nat.pow_le_pow_right (by omega) hn
  have hsh : IntKind.i64.wrap (2 ^ n) = ((1 <<< n : Nat) : Int) := i64_shl_big n (by omega)
  have e : 1 <<< n = 2 ^ n := by rw [Nat.shiftLeft_eq, Nat.one_mul]
  rw [e] at hsh
  have hc : M.cpl n s = 2 ^ n - 1 - s := rfl
  obtain ⟨q, hq⟩ : ∃ q : Nat, 2 ^ n = q := ⟨_, rfl⟩
  rw [hq] at h2 hs hc hsh
  have hn64 : (n : Int) < 64 := by omega
  have HC : Hid ((q : Int) - 1 - (s : Int) = (M.cpl n s : Int)) := by show _ = _; rw [hc]; omega
  clear hc hq e
  go_enter Tryd.func35, Tryd.ntmps35
  go_wp2_with fail
  go_ret
  exact ⟨by rw [← HC.out]; rfl, rfl⟩
theorem nat_beq (a b : Nat) : ((a : Int) == (b : Int)) = (a == b) := by rw [Bool.eq_iff_iff]; simp only [beq_iff_eq]; omega

set_option maxRecDepth 100000 in
set_option maxHeartbeats 1000000 in
theorem qpc_ok (a x X : Nat) (w : World) (ha : a < 4096) (hx : x < 4096) (h0 : w.cell? ⟨X, 0, none⟩ = some (.int .i64 (x : Nat))) :
    Calls Tryd.prog 45 #[.int .i64 (a : Nat), .pointer (some ⟨X, 0, none⟩)] w fun e w' => e = .returned (.bool ((a &&& x) == 0)) ∧ Below w.heap.size w w' := by
  have lX := World.block_lt_of_cell? _ _ h0
  simp only at lX
  have hand := i64_and_nat a x (by omega) (by omega)
  obtain ⟨r, hr⟩ : ∃ r : Nat, a &&& x = r := ⟨_, rfl⟩
  rw [hr] at hand
  have HR : Hid (((r : Int) == 0) = (r == 0)) := nat_beq r 0
  rw [hr]
  clear hr
  go_enter Tryd.func45, Tryd.ntmps45
  go_wp2_with fail
  go_ret
  exact ⟨bool_ret HR.out, Below.refl _ _⟩
set_option maxRecDepth 100000 in
set_option maxHeartbeats 1000000 in
theorem qic_ok (f : Nat → Nat) (x X : Nat) (p : Option Addr) (n cap : Nat) (w : World) (hmax : n ≤ maxLen) (hf : ∀ j, j < n → f j < 4096) (hx : x < 4096) (hc : HasN f n p w) (h0 : w.cell? ⟨X, 0, none⟩ = some (.int .i64 (x : Nat))) :
    Calls Tryd.prog 57 #[.slice p n cap, .func (.func 45) #[] #[.pointer (some ⟨X, 0, none⟩)]] w fun e w' => ∃ z : Int, e = .returned (.int .i64 z) ∧ decide (0 ≤ z) = anyN (fun a => (a &&& x) == 0) f n ∧ Below w.heap.size w w' := by
  unfold maxLen at hmax
  have lX := World.block_lt_of_cell? _ _ h0
  simp only at lX
  have HP : Hid (∀ (a : Nat) w', a < 4096 → Below w.heap.size w w' → Calls Tryd.prog 45 #[.int .i64 (a : Nat), .pointer (some ⟨X, 0, none⟩)] w' fun e w'' => e = .returned (.bool ((a &&& x) == 0)) ∧ Below w'.heap.size w' w'') := fun a w' ha hb =>
    qpc_ok a x X w' ha hx ((hb.cell (p := ⟨X, 0, none⟩) lX).trans h0)
  have HC : Hid (HasN f n p w) := hc
  have HF : Hid (∀ j, j < n → f j < 4096) := hf
  clear h0 hc hf
  go_enter Tryd.func57, Tryd.ntmps57
  go_wp2_with fail
  go_loopw [5, 8] (fun _ v wr => ∃ k : Nat, v = .int .i64 (k : Nat) ∧ k ≤ n ∧ Hid (∀ j, j < k → (((f j) &&& x) == 0) = false) ∧ Hid (Below w.heap.size w wr)) (fun _ v _ => n - (intOf v).toNat)
  case atStart => exact ⟨0, rfl, Nat.zero_le _, fun j h => absurd h (Nat.not_lt_zero _), Below.refl _ _⟩
  case round =>
    obtain ⟨k, rfl, hk, hz, hB⟩ := hrel
    by_cases hlt : k < n
    · obtain ⟨b, off, rfl, hb, hcell⟩ := (HC.out.later hB.out) k hlt
      have hfk := HF.out k hlt
      obtain ⟨o, ho⟩ : ∃ o, f k = o := ⟨_, rfl⟩
      rw [ho] at hcell hfk
      have HO : Hid (f k = o) := ho
      have hin : (k : Int) < (n : Int) := by omega
      have hcall := HP.out o wr hfk hB.out
      have HE : Hid ((((f k) &&& x) == 0) = ((o &&& x) == 0)) := by show _ = _; rw [HO.out]
      obtain ⟨q, hq⟩ : ∃ q, ((o &&& x) == 0) = q := ⟨_, rfl⟩
      rw [hq] at hcall HE
      clear ho hq
      cases q with
      | true =>
        have HG : Hid (anyN (fun a => (a &&& x) == 0) f n = true) := anyN_hit (i := k) hlt HE.out
        go_wp2_with fail
        refine hcall.mono ?_
        rintro e w2 ⟨rfl, hB2⟩
        have hC : Hid (Below w.heap.size w w2) := bel_on hB.out hB2
        clear hcall hB2
        go_wp2_with fail
        go_ret
        exact ⟨k, rfl, by rw [HG.out, decide_eq_true_eq]; omega, hC.out⟩
      | false =>
        have HN : Hid (∀ j, j < k + 1 → (((f j) &&& x) == 0) = false) := fun j hj => by
          by_cases e : j = k
          · rw [e]; exact HE.out
          · exact hz.out j (by omega)
        go_wp2_with fail
        refine hcall.mono ?_
        rintro e w2 ⟨rfl, hB2⟩
        have hC : Hid (Below w.heap.size w w2) := bel_on hB.out hB2
        clear hcall hB2
        go_wp2_with fail
        go_roundw
        case rel => exact ⟨k + 1, by go_num, by omega, HN, hC⟩
        case measure => simp [intOf]; omega
    · obtain rfl : n = k := by omega
      have HG : Hid (anyN (fun a => (a &&& x) == 0) f n = false) := anyN_no (fun i hi => hz.out i hi)
      go_wp2_with fail
      go_ret
      exact ⟨-1, rfl, by rw [HG.out]; rfl, hB.out⟩
set_option maxRecDepth 100000 in
set_option maxHeartbeats 1000000 in
theorem qcc_ok (f : Nat → Nat) (x X : Nat) (p : Option Addr) (n cap : Nat) (w : World) (hmax : n ≤ maxLen) (hf : ∀ j, j < n → f j < 4096) (hx : x < 4096) (hc : HasN f n p w) (h0 : w.cell? ⟨X, 0, none⟩ = some (.int .i64 (x : Nat))) :
    Calls Tryd.prog 44 #[.slice p n cap, .func (.func 45) #[] #[.pointer (some ⟨X, 0, none⟩)]] w fun e w' => e = .returned (.bool (anyN (fun a => (a &&& x) == 0) f n)) ∧ Below w.heap.size w w' := by
  have hi := qic_ok f x X p n cap w hmax hf hx hc h0
  clear h0 hc hf
  go_enter Tryd.func44, Tryd.ntmps44
  go_wp2_with fail
  refine hi.mono ?_
  rintro e w2 ⟨z, rfl, hz, hB2⟩
  have HZ : Hid (decide (0 ≤ z) = anyN (fun a => (a &&& x) == 0) f n ∧ Below w.heap.size w w2) := ⟨hz, hB2⟩
  clear hi hz hB2
  go_wp2
  go_ret
  exact ⟨bool_ret HZ.out.1, HZ.out.2⟩

set_option maxRecDepth 100000 in
set_option maxHeartbeats 1000000 in
theorem qph_ok (a x X : Nat) (w : World) (ha : a < 4096) (hx : x < 4096) (h0 : w.cell? ⟨X, 0, none⟩ = some (.int .i64 (x : Nat))) :
    Calls Tryd.prog 49 #[.int .i64 (a : Nat), .pointer (some ⟨X, 0, none⟩)] w fun e w' => e = .returned (.bool (M.subB a x)) ∧ Below w.heap.size w w' := by
  have lX := World.block_lt_of_cell? _ _ h0
  simp only at lX
  have hin := fun W => qin_ok a x W (by omega) (by omega)
  obtain ⟨r, hr⟩ : ∃ r, M.subB a x = r := ⟨_, rfl⟩
  rw [hr]
  rw [hr] at hin
  clear hr
  go_enter Tryd.func49, Tryd.ntmps49
  go_wp2_with fail
  refine (hin _).mono ?_
  rintro e w2 ⟨rfl, rfl⟩
  go_wp2_with fail
  go_ret
  exact ⟨rfl, Below.refl _ _⟩
set_option maxRecDepth 100000 in
set_option maxHeartbeats 1000000 in
theorem qih_ok (f : Nat → Nat) (x X : Nat) (p : Option Addr) (n cap : Nat) (w : World) (hmax : n ≤ maxLen) (hf : ∀ j, j < n → f j < 4096) (hx : x < 4096) (hc : HasN f n p w) (h0 : w.cell? ⟨X, 0, none⟩ = some (.int .i64 (x : Nat))) :
    Calls Tryd.prog 57 #[.slice p n cap, .func (.func 49) #[] #[.pointer (some ⟨X, 0, none⟩)]] w fun e w' => ∃ z : Int, e = .returned (.int .i64 z) ∧ decide (0 ≤ z) = anyN (fun a => M.subB a x) f n ∧ Below w.heap.size w w' := by
  unfold maxLen at hmax
  have lX := World.block_lt_of_cell? _ _ h0
  simp only at lX
  have HP : Hid (∀ (a : Nat) w', a < 4096 → Below w.heap.size w w' → Calls Tryd.prog 49 #[.int .i64 (a : Nat), .pointer (some ⟨X, 0, none⟩)] w' fun e w'' => e = .returned (.bool (M.subB a x)) ∧ Below w'.heap.size w' w'') := fun a w' ha hb =>
    qph_ok a x X w' ha hx ((hb.cell (p := ⟨X, 0, none⟩) lX).trans h0)
  have HC : Hid (HasN f n p w) := hc
  have HF : Hid (∀ j, j < n → f j < 4096) := hf
  clear h0 hc hf
  go_enter Tryd.func57, Tryd.ntmps57
  go_wp2_with fail
  go_loopw [5, 8] (fun _ v wr => ∃ k : Nat, v = .int .i64 (k : Nat) ∧ k ≤ n ∧ Hid (∀ j, j < k → (M.subB (f j) x) = false) ∧ Hid (Below w.heap.size w wr)) (fun _ v _ => n - (intOf v).toNat)
  case atStart => exact ⟨0, rfl, Nat.zero_le _, fun j h => absurd h (Nat.not_lt_zero _), Below.refl _ _⟩
  case round =>
    obtain ⟨k, rfl, hk, hz, hB⟩ := hrel
    by_cases hlt : k < n
    · obtain ⟨b, off, rfl, hb, hcell⟩ := (HC.out.later hB.out) k hlt
      have hfk := HF.out k hlt
      obtain ⟨o, ho⟩ : ∃ o, f k = o := ⟨_, rfl⟩
      rw [ho] at hcell hfk
      have HO : Hid (f k = o) := ho
      have hin : (k : Int) < (n : Int) := by omega
      have hcall := HP.out o wr hfk hB.out
      have HE : Hid ((M.subB (f k) x) = (M.subB o x)) := by show _ = _; rw [HO.out]
      obtain ⟨q, hq⟩ : ∃ q, (M.subB o x) = q := ⟨_, rfl⟩
      rw [hq] at hcall HE
      clear ho hq
      cases q with
      | true =>
        have HG : Hid (anyN (fun a => M.subB a x) f n = true) := anyN_hit (i := k) hlt HE.out
        go_wp2_with fail
        refine hcall.mono ?_
        rintro e w2 ⟨rfl, hB2⟩
        have hC : Hid (Below w.heap.size w w2) := bel_on hB.out hB2
        clear hcall hB2
        go_wp2_with fail
        go_ret
        exact ⟨k, rfl, by rw [HG.out, decide_eq_true_eq]; omega, hC.out⟩
      | false =>
        have HN : Hid (∀ j, j < k + 1 → (M.subB (f j) x) = false) := fun j hj => by
          by_cases e : j = k
          · rw [e]; exact HE.out
          · exact hz.out j (by omega)
        go_wp2_with fail
        refine hcall.mono ?_
        rintro e w2 ⟨rfl, hB2⟩
        have hC : Hid (Below w.heap.size w w2) := bel_on hB.out hB2
        clear hcall hB2
        go_wp2_with fail
        go_roundw
        case rel => exact ⟨k + 1, by go_num, by omega, HN, hC⟩
        case measure => simp [intOf]; omega
    · obtain rfl : n = k := by omega
      have HG : Hid (anyN (fun a => M.subB a x) f n = false) := anyN_no (fun i hi => hz.out i hi)
      go_wp2_with fail
      go_ret
      exact ⟨-1, rfl, by rw [HG.out]; rfl, hB.out⟩
set_option maxRecDepth 100000 in
set_option maxHeartbeats 1000000 in
theorem qch_ok (f : Nat → Nat) (x X : Nat) (p : Option Addr) (n cap : Nat) (w : World) (hmax : n ≤ maxLen) (hf : ∀ j, j < n → f j < 4096) (hx : x < 4096) (hc : HasN f n p w) (h0 : w.cell? ⟨X, 0, none⟩ = some (.int .i64 (x : Nat))) :
    Calls Tryd.prog 44 #[.slice p n cap, .func (.func 49) #[] #[.pointer (some ⟨X, 0, none⟩)]] w fun e w' => e = .returned (.bool (anyN (fun a => M.subB a x) f n)) ∧ Below w.heap.size w w' := by
  have hi := qih_ok f x X p n cap w hmax hf hx hc h0
  clear h0 hc hf
  go_enter Tryd.func44, Tryd.ntmps44
  go_wp2_with fail
  refine hi.mono ?_
  rintro e w2 ⟨z, rfl, hz, hB2⟩
  have HZ : Hid (decide (0 ≤ z) = anyN (fun a => M.subB a x) f n ∧ Below w.heap.size w w2) := ⟨hz, hB2⟩
  clear hi hz hB2
  go_wp2
  go_ret
  exact ⟨bool_ret HZ.out.1, HZ.out.2⟩

set_option maxRecDepth 100000 in
set_option maxHeartbeats 1000000 in
theorem qpo_ok (a x X : Nat) (w : World) (ha : a < 4096) (hx : x < 4096) (h0 : w.cell? ⟨X, 0, none⟩ = some (.int .i64 (x : Nat))) :
    Calls Tryd.prog 47 #[.int .i64 (a : Nat), .pointer (some ⟨X, 0, none⟩)] w fun e w' => e = .returned (.bool (a != x && M.subB a x)) ∧ Below w.heap.size w w' := by
  have lX := World.block_lt_of_cell? _ _ h0
  simp only at lX
  have hin := fun W => qin_ok a x W (by omega) (by omega)
  by_cases hax : a = x
  · have hg : ((a : Int) != (x : Int)) = false := by simp [hax]
    have HR : Hid ((a != x && M.subB a x) = false) := (by simp [hax] : (a != x && M.subB a x) = false)
    clear hax
    go_enter Tryd.func47, Tryd.ntmps47
    go_wp2_with fail
    go_ret
    exact ⟨by rw [HR.out]; rfl, Below.refl _ _⟩
  · have hg : ((a : Int) != (x : Int)) = true := by simp; omega
    obtain ⟨r, hr⟩ : ∃ r, M.subB a x = r := ⟨_, rfl⟩
    have HR : Hid ((a != x && M.subB a x) = r) := (by rw [bne_iff_ne.2 hax, Bool.true_and, hr] : (a != x && M.subB a x) = r)
    rw [hr] at hin
    clear hax hr
    go_enter Tryd.func47, Tryd.ntmps47
    go_wp2_with fail
    refine (hin _).mono ?_
    rintro e w2 ⟨rfl, rfl⟩
    go_wp2_with fail
    go_ret
    exact ⟨by rw [HR.out]; rfl, Below.refl _ _⟩
set_option maxRecDepth 100000 in
set_option maxHeartbeats 1000000 in
theorem qio_ok (f : Nat → Nat) (x X : Nat) (p : Option Addr) (n cap : Nat) (w : World) (hmax : n ≤ maxLen) (hf : ∀ j, j < n → f j < 4096) (hx : x < 4096) (hc : HasN f n p w) (h0 : w.cell? ⟨X, 0, none⟩ = some (.int .i64 (x : Nat))) :
    Calls Tryd.prog 57 #[.slice p n cap, .func (.func 47) #[] #[.pointer (some ⟨X, 0, none⟩)]] w fun e w' => ∃ z : Int, e = .returned (.int .i64 z) ∧ decide (0 ≤ z) = anyN (fun a => a != x && M.subB a x) f n ∧ Below w.heap.size w w' := by
  unfold maxLen at hmax
  have lX := World.block_lt_of_cell? _ _ h0
  simp only at lX
  have HP : Hid (∀ (a : Nat) w', a < 4096 → Below w.heap.size w w' → Calls Tryd.prog 47 #[.int .i64 (a : Nat), .pointer (some ⟨X, 0, none⟩)] w' fun e w'' => e = .returned (.bool (a != x && M.subB a x)) ∧ Below w'.heap.size w' w'') := fun a w' ha hb =>
    qpo_ok a x X w' ha hx ((hb.cell (p := ⟨X, 0, none⟩) lX).trans h0)
  have HC : Hid (HasN f n p w) := hc
  have HF : Hid (∀ j, j < n → f j < 4096) := hf
  clear h0 hc hf
  go_enter Tryd.func57, Tryd.ntmps57
  go_wp2_with fail
  go_loopw [5, 8] (fun _ v wr => ∃ k : Nat, v = .int .i64 (k : Nat) ∧ k ≤ n ∧ Hid (∀ j, j < k → ((f j) != x && M.subB (f j) x) = false) ∧ Hid (Below w.heap.size w wr)) (fun _ v _ => n - (intOf v).toNat)
  case atStart => exact ⟨0, rfl, Nat.zero_le _, fun j h => absurd h (Nat.not_lt_zero _), Below.refl _ _⟩
  case round =>
    obtain ⟨k, rfl, hk, hz, hB⟩ := hrel
    by_cases hlt : k < n
    · obtain ⟨b, off, rfl, hb, hcell⟩ := (HC.out.later hB.out) k hlt
      have hfk := HF.out k hlt
      obtain ⟨o, ho⟩ : ∃ o, f k = o := ⟨_, rfl⟩
      rw [ho] at hcell hfk
      have HO : Hid (f k = o) := ho
      have hin : (k : Int) < (n : Int) := by omega
      have hcall := HP.out o wr hfk hB.out
      have HE : Hid (((f k) != x && M.subB (f k) x) = (o != x && M.subB o x)) := by show _ = _; rw [HO.out]
      obtain ⟨q, hq⟩ : ∃ q, (o != x && M.subB o x) = q := ⟨_, rfl⟩
      rw [hq] at hcall HE
      clear ho hq
      cases q with
      | true =>
        have HG : Hid (anyN (fun a => a != x && M.subB a x) f n = true) := anyN_hit (i := k) hlt HE.out
        go_wp2_with fail
        refine hcall.mono ?_
        rintro e w2 ⟨rfl, hB2⟩
        have hC : Hid (Below w.heap.size w w2) := bel_on hB.out hB2
        clear hcall hB2
        go_wp2_with fail
        go_ret
        exact ⟨k, rfl, by rw [HG.out, decide_eq_true_eq]; omega, hC.out⟩
      | false =>
        have HN : Hid (∀ j, j < k + 1 → ((f j) != x && M.subB (f j) x) = false) := fun j hj => by
          by_cases e : j = k
          · rw [e]; exact HE.out
          · exact hz.out j (by omega)
        go_wp2_with fail
        refine hcall.mono ?_
        rintro e w2 ⟨rfl, hB2⟩
        have hC : Hid (Below w.heap.size w w2) := bel_on hB.out hB2
        clear hcall hB2
        go_wp2_with fail
        go_roundw
        case rel => exact ⟨k + 1, by go_num, by omega, HN, hC⟩
        case measure => simp [intOf]; omega
    · obtain rfl : n = k := by omega
      have HG : Hid (anyN (fun a => a != x && M.subB a x) f n = false) := anyN_no (fun i hi => hz.out i hi)
      go_wp2_with fail
      go_ret
      exact ⟨-1, rfl, by rw [HG.out]; rfl, hB.out⟩
set_option maxRecDepth 100000 in
set_option maxHeartbeats 1000000 in
theorem qco_ok (f : Nat → Nat) (x X : Nat) (p : Option Addr) (n cap : Nat) (w : World) (hmax : n ≤ maxLen) (hf : ∀ j, j < n → f j < 4096) (hx : x < 4096) (hc : HasN f n p w) (h0 : w.cell? ⟨X, 0, none⟩ = some (.int .i64 (x : Nat))) :
    Calls Tryd.prog 44 #[.slice p n cap, .func (.func 47) #[] #[.pointer (some ⟨X, 0, none⟩)]] w fun e w' => e = .returned (.bool (anyN (fun a => a != x && M.subB a x) f n)) ∧ Below w.heap.size w w' := by
  have hi := qio_ok f x X p n cap w hmax hf hx hc h0
  clear h0 hc hf
  go_enter Tryd.func44, Tryd.ntmps44
  go_wp2_with fail
  refine hi.mono ?_
  rintro e w2 ⟨z, rfl, hz, hB2⟩
  have HZ : Hid (decide (0 ≤ z) = anyN (fun a => a != x && M.subB a x) f n ∧ Below w.heap.size w w2) := ⟨hz, hB2⟩
  clear hi hz hB2
  go_wp2
  go_ret
  exact ⟨bool_ret HZ.out.1, HZ.out.2⟩

set_option maxRecDepth 100000 in
set_option maxHeartbeats 1000000 in
theorem qhas_ok (S : List Nat) (s : Nat) (p : Option Addr) (n cap : Nat) (w : World) (hl : S.length = n) (hmax : n ≤ maxLen) (hS : ∀ j, M.row S j < 4096) (hs : s < 4096) (hc : HasI (ints S) p w) :
    Calls Tryd.prog 34 #[.slice p n cap, .int .i64 (s : Nat)] w fun e w' => e = .returned (.bool (M.hasQ S s)) ∧ Below w.heap.size w w' := by
  have hB1 : Below w.heap.size w (w.alloc (.cells #[.int .i64 (s : Nat)] 3)) := bel_al (Below.refl _ _) _
  have hall := qch_ok (M.row S) s w.heap.size p n cap (w.alloc (.cells #[.int .i64 (s : Nat)] 3)) hmax (fun j _ => hS j) hs (by have := hc.later hB1; have := this.toN; rwa [hl] at this) (by simp)
  have HE : Hid (anyN (fun a => M.subB a s) (M.row S) n = M.hasQ S s) := (by rw [← hl, anyN_row]; rfl : anyN (fun a => M.subB a s) (M.row S) n = M.hasQ S s)
  obtain ⟨q, hq⟩ : ∃ q, anyN (fun a => M.subB a s) (M.row S) n = q := ⟨_, rfl⟩
  rw [hq] at hall HE
  have HB : Hid (Below w.heap.size w (w.alloc (.cells #[.int .i64 (s : Nat)] 3))) := hB1
  clear hq hc hS hB1 hl
  go_enter Tryd.func34, Tryd.ntmps34
  go_wp2_with fail
  refine hall.mono ?_
  rintro e w2 ⟨rfl, hB2⟩
  have FB : Hid (Below w.heap.size w w2) := bel_on HB.out hB2
  clear hall hB2 HB
  go_wp2_with fail
  go_ret
  exact ⟨bool_ret HE.out, FB.out⟩

set_option maxRecDepth 100000 in
set_option maxHeartbeats 1000000 in
theorem qother_ok (S : List Nat) (s : Nat) (p : Option Addr) (n cap : Nat) (w : World) (hl : S.length = n) (hmax : n ≤ maxLen) (hS : ∀ j, M.row S j < 4096) (hs : s < 4096) (hc : HasI (ints S) p w) :
    Calls Tryd.prog 33 #[.slice p n cap, .int .i64 (s : Nat)] w fun e w' => e = .returned (.bool (M.hasO S s)) ∧ Below w.heap.size w w' := by
  have hB1 : Below w.heap.size w (w.alloc (.cells #[.int .i64 (s : Nat)] 3)) := bel_al (Below.refl _ _) _
  have hall := qco_ok (M.row S) s w.heap.size p n cap (w.alloc (.cells #[.int .i64 (s : Nat)] 3)) hmax (fun j _ => hS j) hs (by have := hc.later hB1; have := this.toN; rwa [hl] at this) (by simp)
  have HE : Hid (anyN (fun a => a != s && M.subB a s) (M.row S) n = M.hasO S s) := (by rw [← hl, anyN_row]; rfl : anyN (fun a => a != s && M.subB a s) (M.row S) n = M.hasO S s)
  obtain ⟨q, hq⟩ : ∃ q, anyN (fun a => a != s && M.subB a s) (M.row S) n = q := ⟨_, rfl⟩
  rw [hq] at hall HE
  have HB : Hid (Below w.heap.size w (w.alloc (.cells #[.int .i64 (s : Nat)] 3))) := hB1
  clear hq hc hS hB1 hl
  go_enter Tryd.func33, Tryd.ntmps33
  go_wp2_with fail
  refine hall.mono ?_
  rintro e w2 ⟨rfl, hB2⟩
  have FB : Hid (Below w.heap.size w w2) := bel_on HB.out hB2
  clear hall hB2 HB
  go_wp2_with fail
  go_ret
  exact ⟨bool_ret HE.out, FB.out⟩
end Go.Proofs.YtfjmealeglbklaaDoor
