/- Plain mathematics of how many whole cuts there are: as many as sets of events that have all that happened before; at least one for each event, and one; at most as many as there are cuts. No program text is named. -/
import Derived.Test.YtlhpkpjcfjdgaaaDoorCts
import Derived.Test.YtlhpkpjcfjdgaaaDoorDwn
namespace Go.Proofs.YtlhpkpjcfjdgaaaDoor.M

/-! ### all cuts -/
/-- all cuts that go on from c by d numbers -/
def allL (T : List (Int × Int)) : Nat → List Nat → List (List Nat)
  | 0, c => [c]
  | d + 1, c => (List.range (evn T c.length T.length + 1)).flatMap fun k => allL T d (c ++ [k])
/-- how many of them are whole -/
def cts (T : List (Int × Int)) : Nat → List Nat → Nat
  | 0, c => if whB T c = true then 1 else 0
  | d + 1, c => ((List.range (evn T c.length T.length + 1)).map fun k => cts T d (c ++ [k])).sum
theorem cts_len (T : List (Int × Int)) (d : Nat) : ∀ c, cts T d c = ((allL T d c).filter (whB T)).length := by
  induction d with
  | zero => intro c; cases h : whB T c <;> simp [cts, allL, h]
  | succ d ih =>
    intro c
    simp only [cts, allL, List.filter_flatMap, List.length_flatMap]
    congr 1
    apply List.map_congr_left
    intro k _
    exact ih (c ++ [k])
theorem mem_allL (T : List (Int × Int)) (d : Nat) : ∀ c x, x ∈ allL T d c ↔ x.length = c.length + d ∧ (∀ p, p < c.length → row x p = row c p) ∧ ∀ p, c.length ≤ p → p < x.length → row x p ≤ evn T p T.length := by
  induction d with
  | zero =>
    intro c x
    simp only [allL, List.mem_singleton, Nat.add_zero]
    constructor
    · rintro rfl
      exact ⟨rfl, fun _ _ => rfl, fun p h1 h2 => by omega⟩
    · rintro ⟨h1, h2, _⟩
      apply List.ext_getElem h1
      intro p a b
      have := h2 p b
      simpa [row, a, b] using this
  | succ d ih =>
    intro c x
    simp only [allL, List.mem_flatMap, List.mem_range, ih, List.length_append, List.length_singleton]
    constructor
    · rintro ⟨k, hk, h1, h2, h3⟩
      refine ⟨by omega, fun p hp => ?_, fun p hp hx => ?_⟩
      · rw [h2 p (by omega), row_snoc, if_pos hp]
      · by_cases e : p = c.length
        · subst e
          rw [h2 _ (by omega), row_snoc, if_neg (by omega), if_pos rfl]
          omega
        · exact h3 p (by omega) hx
    · rintro ⟨h1, h2, h3⟩
      refine ⟨row x c.length, by have := h3 c.length (Nat.le_refl _) (by omega); omega, by omega, fun p hp => ?_, fun p hp hx => h3 p (by omega) hx⟩
      rw [row_snoc]
      by_cases e : p < c.length
      · rw [if_pos e]; exact h2 p e
      · rw [if_neg e, if_pos (by omega)]
        congr 1
        omega
theorem nodup_flat {α β : Type} {f : α → List β} : ∀ (l : List α), l.Nodup → (∀ a, a ∈ l → (f a).Nodup) → (∀ a b, a ∈ l → b ∈ l → a ≠ b → ∀ x, x ∈ f a → x ∉ f b) → (l.flatMap f).Nodup := by
  intro l
  induction l with
  | nil => intro _ _ _; simp
  | cons a l ih =>
    intro h1 h2 h3
    rw [List.flatMap_cons, List.nodup_append]
    rw [List.nodup_cons] at h1
    refine ⟨h2 a (by simp), ih h1.2 (fun b hb => h2 b (by simp [hb])) (fun b c hb hc => h3 b c (by simp [hb]) (by simp [hc])), ?_⟩
    intro x hx y hy e
    subst e
    obtain ⟨b, hb, hxb⟩ := List.mem_flatMap.1 hy
    exact h3 a b (by simp) (by simp [hb]) (fun e => h1.1 (e ▸ hb)) x hx hxb
theorem allL_nodup (T : List (Int × Int)) (d : Nat) : ∀ c, (allL T d c).Nodup := by
  induction d with
  | zero => intro c; simp [allL]
  | succ d ih =>
    intro c
    simp only [allL]
    refine nodup_flat _ List.nodup_range (fun k _ => ih _) (fun a b _ _ hab x hx hy => hab ?_)
    have ha := ((mem_allL T d _ x).1 hx).2.1 c.length (by simp)
    have hb := ((mem_allL T d _ x).1 hy).2.1 c.length (by simp)
    rw [row_snoc, if_neg (by omega), if_pos rfl] at ha hb
    omega
/-- how many cuts there are of the first p processes -/
def pE (T : List (Int × Int)) : Nat → Nat
  | 0 => 1
  | p + 1 => pE T p * (evn T p T.length + 1)
theorem sum_same (a n : Nat) : ((List.range n).map fun _ => a).sum = n * a := by
  induction n with
  | zero => simp
  | succ n ih => rw [List.range_succ, List.map_append, List.sum_append_nat, ih]; simp [Nat.succ_mul]
theorem allL_length (T : List (Int × Int)) (d : Nat) : ∀ c, (allL T d c).length * pE T c.length = pE T (c.length + d) := by
  induction d with
  | zero => intro c; simp [allL]
  | succ d ih =>
    intro c
    have hall : ∀ k, (allL T d (c ++ [k])).length * pE T (c.length + 1) = pE T (c.length + (d + 1)) := fun k => by
      have := ih (c ++ [k])
      rw [List.length_append, List.length_singleton] at this
      rw [this]; congr 1; omega
    have hpos : ∀ p, 0 < pE T p := fun p => by
      induction p with
      | zero => simp [pE]
      | succ p ihp => simp only [pE]; exact Nat.mul_pos ihp (by omega)
    have hsame : ∀ k, (allL T d (c ++ [k])).length = (allL T d (c ++ [0])).length := fun k => Nat.eq_of_mul_eq_mul_right (hpos (c.length + 1)) ((hall k).trans (hall 0).symm)
    have hsum : ((List.range (evn T c.length T.length + 1)).map fun k => (allL T d (c ++ [k])).length).sum = (evn T c.length T.length + 1) * (allL T d (c ++ [0])).length := by
      rw [List.map_congr_left (g := fun _ => (allL T d (c ++ [0])).length) (fun k _ => hsame k)]
      exact sum_same _ _
    simp only [allL, List.length_flatMap]
    rw [hsum, ← hall 0]
    simp only [pE]
    rw [Nat.mul_comm (evn T c.length T.length + 1), Nat.mul_assoc, Nat.mul_comm (evn T c.length T.length + 1)]
theorem cts_most (T : List (Int × Int)) (P : Nat) : cts T P [] ≤ pE T P := by
  rw [cts_len]
  have h := allL_length T P []
  rw [List.length_nil, Nat.zero_add] at h
  rw [← h]
  simp only [pE, Nat.mul_one]
  exact List.length_filter_le _ _

/-! ### sets that have all that happened before -/
/-- has a set, of events below n, all that happened before any of it? -/
def clS (T : List (Int × Int)) (s : Nat) : Nat → Bool
  | 0 => true
  | k + 1 => clS T s k && (!s.testBit k || subB (bs T k) s)
theorem clS_iff (T : List (Int × Int)) (s n : Nat) : clS T s n = true ↔ ∀ i, i < n → s.testBit i = true → ∀ k, (bs T i).testBit k = true → s.testBit k = true := by
  induction n with
  | zero => simp [clS]
  | succ n ih =>
    simp only [clS, Bool.and_eq_true, Bool.or_eq_true, Bool.not_eq_true', ih, subB_iff]
    constructor
    · rintro ⟨h1, h2⟩ i hi a k
      by_cases e : i = n
      · subst e
        rcases h2 with h2 | h2
        · rw [a] at h2; cases h2
        · exact h2 k
      · exact h1 i (by omega) a k
    · intro h
      refine ⟨fun i hi => h i (by omega), ?_⟩
      cases e : s.testBit n with
      | false => exact .inl rfl
      | true => exact .inr (h n (by omega) e)
/-- how many of each process a set has -/
def cof (T : List (Int × Int)) (s P : Nat) : List Nat := (List.range P).map fun (p : Nat) => cb T.length fun i => pr T i == ((p : Nat) : Int) && s.testBit i
theorem cof_length (T : List (Int × Int)) (s P : Nat) : (cof T s P).length = P := by simp [cof]
theorem cof_row (T : List (Int × Int)) (s : Nat) {P p : Nat} (h : p < P) : row (cof T s P) p = cb T.length fun i => pr T i == (p : Int) && s.testBit i := by simp [row, cof, h]
theorem cof_first {T : List (Int × Int)} {s : Nat} (h : clS T s T.length = true) (p : Nat) :
    cb T.length (fun i => pr T i == (p : Int) && s.testBit i) ≤ evn T p T.length ∧ ∀ j, j < T.length → pr T j = (p : Int) → (s.testBit j = true ↔ nth T j < cb T.length (fun i => pr T i == (p : Int) && s.testBit i)) :=
  first_iff (Q := s.testBit) T.length fun i j h1 h2 e1 e2 hh => (clS_iff T s _).1 h j h2 hh i (bs_must h1 (must_pr (e1.trans e2.symm)))
theorem cof_ok {T : List (Int × Int)} {s P : Nat} (h : clS T s T.length = true) : COk (P : Int) T (cof T s P) :=
  ⟨by rw [cof_length], fun p hp => by rw [cof_length] at hp; rw [cof_row T s hp]; exact (cof_first h p).1⟩
theorem cof_in {T : List (Int × Int)} {s P : Nat} (hk : TOk (P : Int) T) (h : clS T s T.length = true) {j : Nat} (hj : j < T.length) : inC T (cof T s P) j = s.testBit j := by
  obtain ⟨p, hp, hpP⟩ := pr_nat hk hj
  rw [Bool.eq_iff_iff, inC_iff hp, cof_row T s (by omega), (cof_first h p).2 j hj hp]
theorem cof_set {T : List (Int × Int)} {s P : Nat} (hk : TOk (P : Int) T) (hs : s < 2 ^ T.length) (h : clS T s T.length = true) : cset T (cof T s P) T.length = s := by
  apply Nat.eq_of_testBit_eq
  intro j
  rw [cset_bit]
  by_cases hj : j < T.length
  · rw [cof_in hk h hj]; simp [hj]
  · rw [Nat.testBit_lt_two_pow (Nat.lt_of_lt_of_le hs (Nat.pow_le_pow_right (by omega) (by omega : T.length ≤ j)))]
    simp [hj]
theorem cset_cl {P : Int} {T : List (Int × Int)} (hk : TOk P T) {c : List Nat} : clS T (cset T c T.length) T.length = whB T c := by
  rw [Bool.eq_iff_iff, clS_iff, wh_bs hk]
  constructor
  · intro h i hi a k hb
    have := h i hi (by rw [cset_bit, a]; simp [hi]) k hb
    rw [cset_bit, Bool.and_eq_true] at this
    exact this.2
  · intro h i hi a k hb
    rw [cset_bit, Bool.and_eq_true] at *
    have := bs_in T i k hb
    exact ⟨decide_eq_true (by omega), h i hi a.2 k hb⟩
theorem set_cof {P : Nat} {T : List (Int × Int)} {c : List Nat} (hc : COk (P : Int) T c) : cof T (cset T c T.length) P = c := by
  have hl := hc.len
  apply List.ext_getElem
  · rw [cof_length]; omega
  · intro p h1 h2
    have e1 : row (cof T (cset T c T.length) P) p = (cof T (cset T c T.length) P)[p] := by simp [row, h1]
    have e2 : row c p = c[p] := by simp [row, h2]
    rw [← e1, ← e2, cof_row T _ (by omega)]
    have : (cb T.length fun i => pr T i == (p : Int) && (cset T c T.length).testBit i) = cb T.length fun i => pr T i == (p : Int) && decide (nth T i < row c p) := by
      refine cb_congr fun j hj => ?_
      rw [cset_bit, decide_eq_true hj, Bool.true_and]
      cases e : pr T j == (p : Int) with
      | false => rfl
      | true =>
        rw [Bool.true_and, Bool.true_and, Bool.eq_iff_iff, inC_iff (by simpa using e), decide_eq_true_eq]
    rw [this, first_min]
    have := hc.rng p h2
    omega
/-- AS MANY WHOLE CUTS AS SETS THAT HAVE ALL THAT HAPPENED BEFORE -/
theorem cts_sets {P : Nat} {T : List (Int × Int)} (hk : TOk (P : Int) T) : cts T P [] = cb (2 ^ T.length) fun s => clS T s T.length := by
  rw [cts_len, cb_filter]
  have hmem : ∀ c, c ∈ (allL T P []).filter (whB T) ↔ COk (P : Int) T c ∧ whB T c = true := fun c => by
    rw [List.mem_filter, mem_allL]
    constructor
    · rintro ⟨⟨h1, _, h3⟩, h4⟩
      exact ⟨⟨by rw [h1]; simp, fun p hp => h3 p (by simp) hp⟩, h4⟩
    · rintro ⟨h1, h2⟩
      exact ⟨⟨by have := h1.len; simp; omega, fun p hp => by simp at hp, fun p _ hp => h1.rng p hp⟩, h2⟩
  have e : ((allL T P []).filter (whB T)).length = (((allL T P []).filter (whB T)).map fun c => cset T c T.length).length := by rw [List.length_map]
  rw [e]
  refine nodup_len_eq ?_ (List.nodup_range.filter _) (fun s => ?_)
  · have hnd : ((allL T P []).filter (whB T)).Nodup := (allL_nodup T P []).filter _
    rw [List.nodup_iff_pairwise_ne] at *
    rw [List.pairwise_map]
    refine List.Pairwise.imp_of_mem (fun {a b} ha hb hne e => hne ?_) hnd
    rw [← set_cof ((hmem a).1 ha).1, ← set_cof ((hmem b).1 hb).1, e]
  · rw [List.mem_map, List.mem_filter, List.mem_range]
    constructor
    · rintro ⟨c, hc, rfl⟩
      obtain ⟨h1, h2⟩ := (hmem c).1 hc
      exact ⟨cset_lt T c _, by rw [cset_cl hk]; exact h2⟩
    · rintro ⟨h1, h2⟩
      exact ⟨cof T s P, (hmem _).2 ⟨cof_ok h2, by rw [← cset_cl hk, cof_set hk h1 h2]; exact h2⟩, cof_set hk h1 h2⟩
theorem cts_pow {P : Nat} {T : List (Int × Int)} (hk : TOk (P : Int) T) : cts T P [] ≤ 2 ^ T.length := by
  rw [cts_sets hk]; exact cb_le _ _
/-- AT LEAST ONE FOR EACH EVENT, AND ONE -/
theorem cts_least {P : Nat} {T : List (Int × Int)} (hk : TOk (P : Int) T) : T.length + 1 ≤ cts T P [] := by
  rw [cts_sets hk]
  have hnd : ((List.range (T.length + 1)).map fun k => 2 ^ k - 1).Nodup := by
    rw [List.nodup_iff_pairwise_ne, List.pairwise_map]
    have h := (List.nodup_range (n := T.length + 1))
    rw [List.nodup_iff_pairwise_ne] at h
    refine h.imp fun {a b} hne e => hne ?_
    have h1 := Nat.two_pow_pos a
    have h2 := Nat.two_pow_pos b
    exact (Nat.pow_right_inj (by omega : 1 < 2)).1 (show 2 ^ a = 2 ^ b by omega)
  have := cb_ge_list (n := 2 ^ T.length) (p := fun s => clS T s T.length) hnd (fun x hx => by
    obtain ⟨k, hk2, rfl⟩ := List.mem_map.1 hx
    rw [List.mem_range] at hk2
    have hp := Nat.pow_le_pow_right (show 0 < 2 by omega) (show k ≤ T.length by omega)
    have h0 := Nat.two_pow_pos k
    refine ⟨by omega, (clS_iff T _ _).2 fun i hi a m hb => ?_⟩
    rw [Nat.testBit_two_pow_sub_one, decide_eq_true_eq] at *
    have := bs_in T i m hb
    omega)
  simpa using this
end Go.Proofs.YtlhpkpjcfjdgaaaDoor.M
