/- Plain mathematics: what happened before, of a trace of few events, is an order; its ranks are the plain clocks, less one; it is no wider than there are processes; its closed sets are the whole cuts. No program text is named. -/
import Derived.Test.YtlhpkpjcfjdgaaaDoorCtc
import Derived.Test.YtlhpkpjcfjdgaaaDoorWys
namespace Go.Proofs.YtlhpkpjcfjdgaaaDoor.M

/-- of each event those behind it: of the first i events, and of event i those below k -/
def rq (T : List (Int × Int)) (n i k : Nat) : List Nat := (List.range n).map fun j => cnt01 (i + 1) fun e => (bs T e).testBit j && (decide (e < i) || decide (j < k))
theorem rq_length (T : List (Int × Int)) (n i k : Nat) : (rq T n i k).length = n := by simp [rq]
theorem rq_row (T : List (Int × Int)) {n i k j : Nat} (h : j < n) : row (rq T n i k) j = cnt01 (i + 1) fun e => (bs T e).testBit j && (decide (e < i) || decide (j < k)) := by simp [row, rq, h]
theorem rq_bit (T : List (Int × Int)) (n i k j e : Nat) : (row (rq T n i k) j).testBit e = true ↔ j < n ∧ (bs T e).testBit j = true ∧ (e < i ∨ (e = i ∧ j < k)) := by
  by_cases h : j < n
  · rw [rq_row T h, cnt01_bit]
    simp only [Bool.and_eq_true, Bool.or_eq_true, decide_eq_true_eq]
    constructor
    · rintro ⟨h1, h2, h3⟩
      refine ⟨h, h2, ?_⟩
      rcases h3 with h3 | h3
      · exact .inl h3
      · by_cases e2 : e < i
        · exact .inl e2
        · exact .inr ⟨by omega, h3⟩
    · rintro ⟨_, h2, h3⟩
      refine ⟨by omega, h2, ?_⟩
      rcases h3 with h3 | h3
      · exact .inl h3
      · exact .inr h3.2
  · rw [row_out _ _ (by rw [rq_length]; omega)]
    simp only [Nat.zero_testBit, Bool.false_eq_true, false_iff]
    exact fun hh => h hh.1
theorem rq_start (T : List (Int × Int)) (n : Nat) : rq T n 0 0 = List.replicate n 0 := by
  apply ext_rows
  · simp [rq_length]
  · intro j hj e
    rw [Bool.eq_iff_iff, rq_bit, row_replicate]
    simp
theorem rq_next (T : List (Int × Int)) (n i : Nat) : rq T n i i = rq T n (i + 1) 0 := by
  apply ext_rows
  · rw [rq_length, rq_length]
  · intro j hj e
    rw [Bool.eq_iff_iff, rq_bit, rq_bit]
    constructor
    · rintro ⟨h1, h2, h3⟩
      exact ⟨h1, h2, .inl (by omega)⟩
    · rintro ⟨h1, h2, h3⟩
      have := bs_in T e j h2
      refine ⟨h1, h2, ?_⟩
      by_cases e2 : e < i
      · exact .inl e2
      · exact .inr ⟨by omega, by omega⟩
theorem rq_hit {T : List (Int × Int)} {n i k : Nat} (hk : k < n) (h : (bs T i).testBit k = true) : (rq T n i k).set k (row (rq T n i k) k ||| 1 <<< i) = rq T n i (k + 1) := by
  apply ext_rows
  · simp [rq_length]
  · intro j hj e
    rw [Bool.eq_iff_iff, row_set, rq_bit]
    rw [List.length_set, rq_length] at hj
    by_cases e1 : k = j
    · subst e1
      rw [if_pos ⟨rfl, by rw [rq_length]; exact hk⟩, Nat.testBit_or, Bool.or_eq_true, rq_bit, Nat.shiftLeft_eq, Nat.one_mul, Nat.testBit_two_pow]
      simp only [decide_eq_true_eq]
      constructor
      · rintro (⟨h1, h2, h3⟩ | h1)
        · exact ⟨h1, h2, by omega⟩
        · subst h1; exact ⟨hk, h, .inr ⟨rfl, by omega⟩⟩
      · rintro ⟨h1, h2, h3⟩
        by_cases e2 : e < i
        · exact .inl ⟨h1, h2, .inl e2⟩
        · exact .inr (by omega)
    · rw [if_neg (fun hh => e1 hh.1), rq_bit]
      constructor
      · rintro ⟨h1, h2, h3⟩; exact ⟨h1, h2, by omega⟩
      · rintro ⟨h1, h2, h3⟩; exact ⟨h1, h2, by omega⟩
theorem rq_miss {T : List (Int × Int)} {n i k : Nat} (h : (bs T i).testBit k = false) : rq T n i k = rq T n i (k + 1) := by
  apply ext_rows
  · rw [rq_length, rq_length]
  · intro j hj e
    rw [Bool.eq_iff_iff, rq_bit, rq_bit]
    constructor
    · rintro ⟨h1, h2, h3⟩; exact ⟨h1, h2, by omega⟩
    · rintro ⟨h1, h2, h3⟩
      refine ⟨h1, h2, ?_⟩
      by_cases e2 : e < i
      · exact .inl e2
      · by_cases e3 : j = k
        · subst e3
          obtain rfl : e = i := by omega
          rw [h] at h2; cases h2
        · omega
/-- the order -/
def ro (T : List (Int × Int)) : List Nat := rq T T.length T.length 0
theorem ro_length (T : List (Int × Int)) : (ro T).length = T.length := rq_length _ _ _ _
theorem ro_bit (T : List (Int × Int)) (j i : Nat) : (row (ro T) j).testBit i = true ↔ i < T.length ∧ (bs T i).testBit j = true := by
  unfold ro
  rw [rq_bit]
  constructor
  · rintro ⟨_, h2, h3⟩; exact ⟨by omega, h2⟩
  · rintro ⟨h1, h2⟩
    have := bs_in T i j h2
    exact ⟨by omega, h2, .inl h1⟩
theorem ro_ok (T : List (Int × Int)) : Ok (ro T) := fun j => by
  rw [ro_length]
  apply Nat.lt_pow_two_of_testBit
  intro i hi
  cases e : (row (ro T) j).testBit i with
  | false => rfl
  | true => have := ((ro_bit T j i).1 e).1; omega
theorem ro_clo (T : List (Int × Int)) (i j : Nat) : Clo (ro T) i j ↔ (row (ro T) i).testBit j = true :=
  clo_of_closed (fun i j k h1 h2 => by
    rw [ro_bit] at *
    exact ⟨h2.1, bs_trans T k j i h2.2 h1.2⟩) i j
theorem clo_ro (T : List (Int × Int)) : clo (ro T) = ro T := by
  apply ext_rows (clo_length _)
  intro i _ j
  rw [Bool.eq_iff_iff, clo_bit, ro_clo]
theorem ro_ring (T : List (Int × Int)) : ¬ Ring (ro T) := fun ⟨i, h⟩ => by
  rw [ro_clo, ro_bit] at h
  have := bs_in T i i h.2
  omega
theorem turned_ro (T : List (Int × Int)) : turned (ro T) = before T := by
  apply ext_rows
  · rw [turned_length, ro_length, before_length]
  · intro i hi j
    rw [turned_length, ro_length] at hi
    rw [Bool.eq_iff_iff, turned_bit (ro_ok T), ro_clo, ro_bit, before_row T hi]
    exact ⟨fun h => h.2, fun h => ⟨hi, h⟩⟩
theorem before_bit (T : List (Int × Int)) (i j : Nat) : (row (before T) i).testBit j = true ↔ i < T.length ∧ (bs T i).testBit j = true := by
  by_cases hi : i < T.length
  · rw [before_row T hi]; exact ⟨fun h => ⟨hi, h⟩, fun h => h.2⟩
  · rw [row_out _ _ (by rw [before_length]; omega)]
    simp only [Nat.zero_testBit, Bool.false_eq_true, false_iff]
    exact fun h => hi h.1
theorem before_tr (T : List (Int × Int)) : Tr (before T) := by
  constructor
  · intro i
    cases e : (row (before T) i).testBit i with
    | false => rfl
    | true =>
      have := bs_in T i i ((before_bit T i i).1 e).2
      omega
  · intro i j k h1 h2
    rw [before_bit] at *
    exact ⟨h1.1, bs_trans T i j k h1.2 h2.2⟩
theorem before_ok' (T : List (Int × Int)) : Ok (before T) := by rw [← turned_ro]; exact turned_ok _
/-- ITS RANKS ARE THE PLAIN CLOCKS, LESS ONE -/
theorem ranks_ck {T : List (Int × Int)} (hn : T.length ≤ 12) (i : Nat) : i < T.length → row (ranks (before T)) i + 1 = ck T i := by
  induction i using Nat.strongRecOn with
  | _ i ih =>
    intro hi
    have hl : (before T).length = T.length := before_length T
    have hb := before_ok' T
    have ht := before_tr T
    apply Nat.le_antisymm
    · rcases ranks_step hb (by omega) ht i (by omega) with e | ⟨j, h1, h2, h3⟩
      · have := ck_pos T i; omega
      · have h4 := (before_bit T i j).1 h2
        have h5 := ih j (bs_in T i j h4.2) (by omega)
        have := ck_lt h4.2
        omega
    · rcases ck_step T i with ⟨e, _⟩ | ⟨j, h1, h2, h3⟩
      · omega
      · have h5 := ih j h1 (by omega)
        have := ranks_less hb (by omega) ht ((before_bit T i j).2 ⟨hi, h2⟩)
        omega
/-- IT IS NO WIDER THAN THERE ARE PROCESSES -/
theorem wide_ro {P : Nat} {T : List (Int × Int)} (hk : TOk (P : Int) T) (hn : T.length ≤ 12) : pc (widest (ro T)) ≤ P := by
  have hw := widest_is (ro T)
  have hlt := hw.lt
  rw [ro_length] at hlt
  rw [pc_cnt hn hlt, cb_cnt]
  refine pigeon_all (f := fun i => (pr T i).toNat) (fun i hi _ => ?_) (fun i j hi hj ha hb e => ?_)
  · have h0 := hk.pr0 i hi
    have h1 := hk.prP i hi
    show (pr T i).toNat < P
    omega
  · have e' : pr T i = pr T j := by
      have h0 := hk.pr0 i hi
      have h1 := hk.pr0 j hj
      have : (pr T i).toNat = (pr T j).toNat := e
      omega
    have hno : ∀ a b, a < b → b < T.length → pr T a = pr T b → (widest (ro T)).testBit a = true → (widest (ro T)).testBit b = true → False := fun a b h1 h2 h3 h4 h5 => by
      have hs := (and_zero_iff _ _).1 (side_iff.1 hw.ok a (by omega) h4) b ((ro_bit T a b).2 ⟨h2, bs_must h1 (must_pr h3)⟩)
      rw [h5] at hs; cases hs
    rcases Nat.lt_trichotomy i j with h | h | h
    · exact (hno i j h hj e' ha hb).elim
    · exact h
    · exact (hno j i h hi e'.symm hb ha).elim
/-- ITS CLOSED SETS ARE THE WHOLE CUTS -/
theorem downs_ro {P : Nat} {T : List (Int × Int)} (hk : TOk (P : Int) T) : downs (turned (ro T)) = cts T P [] := by
  rw [turned_ro, cts_sets hk]
  unfold downs
  rw [before_length]
  refine cb_congr fun s hs => ?_
  rw [Bool.eq_iff_iff, closB_iff, clS_iff]
  constructor
  · intro h i hi a k hb
    exact h i k a ((before_bit T i k).2 ⟨hi, hb⟩)
  · intro h i j a hb
    rw [before_bit] at hb
    exact h i hb.1 a j hb.2
end Go.Proofs.YtlhpkpjcfjdgaaaDoor.M
