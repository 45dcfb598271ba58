/- What is wrong with a cut, and its five numbers (package cut, numbersOf), at whatever numbers; what lay in memory lies as it lay. Whole cuts are found from that of nothing on, event by event. No walk. Cuts that may be, as lists of numbers. No walk. -/
import Derived.Test.YtkojkiggdbffhaaDoorBCa
import Derived.Test.YtkojkiggdbffhaaDoorBTr
import Derived.Test.YtkojkiggdbffhaaDoorBMb
namespace Go.Proofs.YtkojkiggdbffhaaDoor
open Go.RowKit
namespace M
/-- all of the first k numbers may be -/
def cTo (T : List (Int × Int)) (zs : List Int) : Nat → Bool
  | 0 => true
  | k + 1 => cTo T zs k && decide (0 ≤ zs[k]?.getD 0 ∧ zs[k]?.getD 0 ≤ (evn T k T.length : Nat))
theorem cTo_iff (T : List (Int × Int)) (zs : List Int) (n : Nat) : cTo T zs n = true ↔ ∀ k, k < n → 0 ≤ zs[k]?.getD 0 ∧ zs[k]?.getD 0 ≤ (evn T k T.length : Nat) := by
  induction n with
  | zero => simp [cTo]
  | succ n ih =>
    simp only [cTo, Bool.and_eq_true, decide_eq_true_eq, ih]
    constructor
    · rintro ⟨h1, h2⟩ k hk
      by_cases e : k = n
      · subst e; exact h2
      · exact h1 k (by omega)
    · exact fun h => ⟨fun k hk => h k (by omega), h n (by omega)⟩
theorem cTo_false {T : List (Int × Int)} {zs : List Int} {k n : Nat} (hk : k < n) (h : ¬ (0 ≤ zs[k]?.getD 0 ∧ zs[k]?.getD 0 ≤ (evn T k T.length : Nat))) : ¬ cTo T zs n = true := fun e => h ((cTo_iff T zs n).1 e k hk)
/-- what is wrong with a cut of a trace -/
def ccode (P : Int) (T : List (Int × Int)) (zs : List Int) : Nat := if tcode P T ≠ 0 then tcode P T else if (zs.length : Int) ≠ P then 3 else if cTo T zs zs.length = true then 0 else 1
/-- the numbers of a cut -/
def cof0 (zs : List Int) : List Nat := zs.map Int.toNat
theorem cof0_length (zs : List Int) : (cof0 zs).length = zs.length := by simp [cof0]
theorem cof0_row (zs : List Int) (k : Nat) : row (cof0 zs) k = (zs[k]?.getD 0).toNat := by
  unfold row cof0
  rw [List.getElem?_map]
  cases zs[k]? <;> rfl
theorem ccode_zero {P : Int} {T : List (Int × Int)} {zs : List Int} : ccode P T zs = 0 ↔ TOk P T ∧ COk P T (cof0 zs) ∧ zs = (cof0 zs).map (fun x => ((x : Nat) : Int)) := by
  unfold ccode
  constructor
  · intro h
    split at h
    · rename_i h1; exact absurd h h1
    · rename_i h1
      split at h
      · omega
      · rename_i h2
        split at h
        · rename_i h3
          rw [cTo_iff] at h3
          refine ⟨tcode_zero.1 (by simpa using h1), ⟨by rw [cof0_length]; simpa using h2, fun p hp => ?_⟩, ?_⟩
          · rw [cof0_length] at hp
            rw [cof0_row]
            have := h3 p hp
            omega
          · refine List.ext_getElem (by simp [cof0]) fun k hk _ => ?_
            have := h3 k hk
            rw [List.getElem?_eq_getElem hk] at this
            simp only [cof0, List.map_map, List.getElem_map, Function.comp]
            simp at this
            omega
        · omega
  · rintro ⟨h1, h2, h3⟩
    have hl : (zs.length : Int) = P := by have := h2.len; rw [cof0_length] at this; exact this
    rw [if_neg (fun e => e (tcode_zero.2 h1)), if_neg (fun e => e hl), if_pos]
    rw [cTo_iff]
    intro k hk
    have := h2.rng k (by rw [cof0_length]; exact hk)
    rw [cof0_row] at this
    have e : zs[k]?.getD 0 = ((row (cof0 zs) k : Nat) : Int) := (congrArg (fun l : List Int => l[k]?.getD 0) h3).trans (ints_get _ k)
    rw [cof0_row] at e
    omega
/-- the first k numbers of a cut, in five places -/
def nuTo (c : List Nat) (k : Nat) : List Nat := [if 0 < k then row c 0 else 0, if 1 < k then row c 1 else 0, if 2 < k then row c 2 else 0, if 3 < k then row c 3 else 0, if 4 < k then row c 4 else 0]
theorem nuTo_zero (c : List Nat) : nuTo c 0 = [0, 0, 0, 0, 0] := rfl
theorem nuTo_length (c : List Nat) (k : Nat) : (nuTo c k).length = 5 := rfl
theorem nuTo_set (c : List Nat) {k v : Nat} (h : k < 5) (hv : v = row c k) : (nuTo c k).set k v = nuTo c (k + 1) := by
  subst hv
  have hd : k = 0 ∨ k = 1 ∨ k = 2 ∨ k = 3 ∨ k = 4 := by omega
  rcases hd with rfl | rfl | rfl | rfl | rfl <;> rfl
/-- a cut, in five places -/
def pad (c : List Nat) : List Nat := [row c 0, row c 1, row c 2, row c 3, row c 4]
theorem pad_row {c : List Nat} (h : c.length ≤ 5) (p : Nat) : row (pad c) p = row c p := by
  by_cases hp : p < 5
  · have hd : p = 0 ∨ p = 1 ∨ p = 2 ∨ p = 3 ∨ p = 4 := by omega
    rcases hd with rfl | rfl | rfl | rfl | rfl <;> rfl
  · rw [row_out _ _ (by show 5 ≤ p; omega), row_out _ _ (by omega)]
theorem nuTo_pad {c : List Nat} {k : Nat} (h : c.length ≤ k) : nuTo c k = pad c := by
  have e : ∀ p, (if p < k then row c p else 0) = row c p := fun p => by
    by_cases hp : p < k
    · rw [if_pos hp]
    · rw [if_neg hp, row_out _ _ (by omega)]
  unfold nuTo pad
  rw [e, e, e, e, e]
theorem pad_in {T : List (Int × Int)} {c : List Nat} (h : c.length ≤ 5) (j : Nat) : inC T (pad c) j = inC T c j := by
  unfold inC; rw [pad_row h]
theorem pad_set {T : List (Int × Int)} {c : List Nat} (h : c.length ≤ 5) (k : Nat) : cset T (pad c) k = cset T c k := by
  induction k with
  | zero => rfl
  | succ k ih => simp only [cset, pad_in h, ih]
theorem pad_wh {T : List (Int × Int)} {c : List Nat} (h : c.length ≤ 5) : whB T (pad c) = whB T c := by
  rw [Bool.eq_iff_iff]
  unfold whB
  rw [whTo_iff, whTo_iff]
  simp only [pad_in h]
end M
/-- A cut as a value. -/
abbrev cuV (c : List Nat) : Value := nuV (M.row c 0) (M.row c 1) (M.row c 2) (M.row c 3) (M.row c 4)
theorem results_nu2 {fn : Func} {t u : Tmp} (h : fn.results = #[.cell t 59, .tmp u]) (tmps : Array Value) (w : World) (B : Nat) (a b c d e : Nat) (v : Value) (hp : tmps.getD t undef = .pointer (some ⟨B, 0, none⟩)) (hv : tmps.getD u undef = v) (hr : RowAt 59 w B [a, b, c, d, e]) :
    (results fn tmps).run Tryd.prog w = .ok (.tuple #[nuV a b c d e, v]) w := by
  have hp' : tmps[t]?.getD undef = .pointer (some ⟨B, 0, none⟩) := by simpa using hp
  have hv' : tmps[u]?.getD undef = v := by simpa using hv
  have h0 : w.cell? ⟨B, 0, none⟩ = some (.int .i64 (a : Nat)) := hr.cell (k := 0) (by simp)
  have h1 : w.cell? ⟨B, 1, none⟩ = some (.int .i64 (b : Nat)) := hr.cell (k := 1) (by simp)
  have h2 : w.cell? ⟨B, 2, none⟩ = some (.int .i64 (c : Nat)) := hr.cell (k := 2) (by simp)
  have h3 : w.cell? ⟨B, 3, none⟩ = some (.int .i64 (d : Nat)) := hr.cell (k := 3) (by simp)
  have h4 : w.cell? ⟨B, 4, none⟩ = some (.int .i64 (e : Nat)) := hr.cell (k := 4) (by simp)
  simp [results, h, go_sem, hp', hv', h0, h1, h2, h3, h4]
end Go.Proofs.YtkojkiggdbffhaaDoor
namespace Go.Proofs.YtkojkiggdbffhaaDoor
open Go.RowKit
namespace M
/-- a whole cut, in five places -/
structure Gd (P : Nat) (T : List (Int × Int)) (x : List Nat) : Prop where
  len : x.length = 5
  rng : ∀ p, p < P → row x p ≤ evn T p T.length
  out : ∀ p, P ≤ p → row x p = 0
  wh : whB T x = true
def zero5 : List Nat := [0, 0, 0, 0, 0]
theorem zero5_row (p : Nat) : row zero5 p = 0 := by
  unfold zero5 row
  rcases p with _ | _ | _ | _ | _ | p <;> simp
theorem gd_zero (P : Nat) (T : List (Int × Int)) : Gd P T zero5 := by
  refine ⟨rfl, fun p _ => by rw [zero5_row]; omega, fun p _ => zero5_row p, ?_⟩
  unfold whB
  rw [whTo_iff]
  intro i hi h
  unfold inC at h
  rw [zero5_row] at h
  simp at h
/-- one event more at a process -/
def nx (x : List Nat) (p : Nat) : List Nat := x.set p (row x p + 1)
theorem nx_row {x : List Nat} {p k : Nat} (hp : p < x.length) : row (nx x p) k = row x k + if p = k then 1 else 0 := by
  unfold nx
  rw [row_set]
  by_cases e : p = k
  · subst e; rw [if_pos ⟨rfl, hp⟩, if_pos rfl]
  · rw [if_neg (fun h => e h.1), if_neg e]; rfl
theorem nx_length (x : List Nat) (p : Nat) : (nx x p).length = x.length := by unfold nx; simp
theorem row_ext {x y : List Nat} (hl : x.length = y.length) (h : ∀ k, row x k = row y k) : x = y := by
  refine List.ext_getElem hl fun k h1 h2 => ?_
  have := h k
  unfold row at this
  rw [List.getElem?_eq_getElem h1, List.getElem?_eq_getElem h2] at this
  simpa using this
/-- the last event that is in a cut -/
theorem last_in {T : List (Int × Int)} {x : List Nat} {n : Nat} (h : ∃ i, i < n ∧ inC T x i = true) : ∃ i, i < n ∧ inC T x i = true ∧ ∀ j, j < n → inC T x j = true → j ≤ i := by
  induction n with
  | zero => obtain ⟨i, hi, _⟩ := h; omega
  | succ n ih =>
    by_cases hn : inC T x n = true
    · exact ⟨n, by omega, hn, fun j hj _ => by omega⟩
    · obtain ⟨i, hi, hc⟩ := h
      have : i ≠ n := fun e => hn (e ▸ hc)
      obtain ⟨k, hk, h1, h2⟩ := ih ⟨i, by omega, hc⟩
      exact ⟨k, by omega, h1, fun j hj hjc => h2 j (by have : j ≠ n := fun e => hn (e ▸ hjc); omega) hjc⟩
theorem nth_step {T : List (Int × Int)} {i j : Nat} (hij : i < j) (e : pr T i = pr T j) : nth T i < nth T j := by
  unfold nth
  rw [e]
  refine Nat.lt_of_lt_of_le ?_ (cb_more (show i + 1 ≤ j by omega) _)
  rw [cb_at (b := true) (by simp [e])]
  simp
theorem evn_has {T : List (Int × Int)} {p m : Nat} : ∀ {n : Nat}, m < evn T p n → ∃ i, i < n ∧ pr T i = (p : Int) ∧ nth T i = m := by
  intro n
  induction n with
  | zero => intro h; simp [evn, cb] at h
  | succ n ih =>
    intro h
    rw [evn_succ] at h
    by_cases hp : pr T n = (p : Int)
    · rw [if_pos hp] at h
      by_cases e : m = evn T p n
      · exact ⟨n, by omega, hp, by rw [nth_evn hp, e]⟩
      · obtain ⟨i, hi, h1, h2⟩ := ih (by omega)
        exact ⟨i, by omega, h1, h2⟩
    · rw [if_neg hp] at h
      obtain ⟨i, hi, h1, h2⟩ := ih (by omega)
      exact ⟨i, by omega, h1, h2⟩
theorem gd_pred {P : Nat} {T : List (Int × Int)} {x : List Nat} (hk : TOk (P : Int) T) (hx : Gd P T x) (hne : x ≠ zero5) : ∃ y p, p < P ∧ Gd P T y ∧ nx y p = x := by
  have hP5 : P ≤ 5 := by have := hk.p5; omega
  -- some number is above nought
  have hpos : ∃ q, q < P ∧ 0 < row x q := by
    by_cases h : ∃ q, q < P ∧ 0 < row x q
    · exact h
    · refine absurd (row_ext (by rw [hx.len]; rfl) fun k => ?_) hne
      rw [zero5_row]
      by_cases hkP : k < P
      · have : ¬ 0 < row x k := fun h0 => h ⟨k, hkP, h0⟩
        omega
      · exact hx.out k (by omega)
  have hsome : ∃ i, i < T.length ∧ inC T x i = true := by
    obtain ⟨q, hq, h0⟩ := hpos
    obtain ⟨i, hi, h1, h2⟩ := evn_has (Nat.lt_of_lt_of_le h0 (hx.rng q hq))
    exact ⟨i, hi, (inC_iff h1).2 (by omega)⟩
  obtain ⟨i, hi, hci, hmax⟩ := last_in hsome
  obtain ⟨p, hp, hpP⟩ := pr_nat hk hi
  have hpP' : p < P := by omega
  have hlt := (inC_iff hp).1 hci
  have hlast : nth T i + 1 = row x p := by
    obtain ⟨j, hj, h1, h2⟩ := evn_has (m := row x p - 1) (Nat.lt_of_lt_of_le (show row x p - 1 < row x p by omega) (hx.rng p hpP'))
    have hjc : inC T x j = true := (inC_iff h1).2 (by omega)
    have hji := hmax j hj hjc
    by_cases e : j = i
    · subst e; omega
    · have := nth_step (T := T) (show j < i by omega) (by rw [h1, hp])
      omega
  have hpl : p < x.length := by rw [hx.len]; omega
  have hyl : (x.set p (row x p - 1)).length = 5 := by simp [hx.len]
  have hyr : ∀ k, row (x.set p (row x p - 1)) k = if p = k then row x p - 1 else row x k := fun k => by
    rw [row_set]
    by_cases e : p = k
    · subst e; rw [if_pos ⟨rfl, hpl⟩, if_pos rfl]
    · rw [if_neg (fun h => e h.1), if_neg e]
  have hin : ∀ j, j < T.length → (inC T (x.set p (row x p - 1)) j = true ↔ inC T x j = true ∧ j ≠ i) := fun j hj => by
    obtain ⟨q, hq, _⟩ := pr_nat hk hj
    rw [inC_iff hq, inC_iff hq, hyr]
    by_cases e : p = q
    · subst e
      rw [if_pos rfl]
      constructor
      · intro h
        exact ⟨by omega, fun e => by subst e; omega⟩
      · rintro ⟨h1, h2⟩
        have hji := hmax j hj ((inC_iff hq).2 h1)
        have := nth_step (T := T) (show j < i by omega) (by rw [hq, hp])
        omega
    · rw [if_neg e]
      exact ⟨fun h => ⟨h, fun e2 => by subst e2; rw [hp] at hq; omega⟩, fun h => h.1⟩
  refine ⟨x.set p (row x p - 1), p, hpP', ⟨hyl, fun k hkP => ?_, fun k hkP => ?_, ?_⟩, ?_⟩
  · rw [hyr]
    have := hx.rng k hkP
    split
    · rename_i e; subst e; omega
    · exact this
  · rw [hyr, if_neg (by omega)]; exact hx.out k hkP
  · have hw := hx.wh
    unfold whB at hw ⊢
    rw [whTo_iff] at hw ⊢
    intro j hj hjc hf
    obtain ⟨h1, h2⟩ := (hin j hj).1 hjc
    have hji := hmax j hj h1
    have hfj := hk.fmI j hj
    refine (hin _ (by omega)).2 ⟨hw j hj h1 hf, by omega⟩
  · refine row_ext (by rw [nx_length, hyl, hx.len]) fun k => ?_
    rw [nx_row (by rw [hyl]; omega), hyr]
    by_cases e : p = k
    · subst e; rw [if_pos rfl, if_pos rfl]; omega
    · rw [if_neg e, if_neg e]; rfl
theorem sum_set (x : List Nat) (p : Nat) (hp : p < x.length) : (nx x p).sum = x.sum + 1 := by
  induction x generalizing p with
  | nil => simp at hp
  | cons a x ih =>
    cases p with
    | zero => simp [nx, row]; omega
    | succ p =>
      have := ih p (by simpa using hp)
      simp only [nx, row, List.set_cons_succ, List.getElem?_cons_succ, List.sum_cons] at this ⊢
      omega
theorem all_found {P : Nat} {T : List (Int × Int)} (hk : TOk (P : Int) T) {L : List (List Nat)} (h0 : zero5 ∈ L) (hc : ∀ c, c ∈ L → ∀ p, p < P → Gd P T (nx c p) → nx c p ∈ L) : ∀ (s : Nat) (x : List Nat), x.sum = s → Gd P T x → x ∈ L := by
  have hP5 : P ≤ 5 := by have := hk.p5; omega
  intro s
  induction s with
  | zero =>
    intro x hs hx
    by_cases e : x = zero5
    · exact e ▸ h0
    · obtain ⟨y, p, hp, hy, rfl⟩ := gd_pred hk hx e
      rw [sum_set y p (by rw [hy.len]; omega)] at hs
      omega
  | succ s ih =>
    intro x hs hx
    by_cases e : x = zero5
    · exact e ▸ h0
    · obtain ⟨y, p, hp, hy, rfl⟩ := gd_pred hk hx e
      rw [sum_set y p (by rw [hy.len]; omega)] at hs
      exact hc y (ih y (by omega) hy) p hp hx
theorem nodup_le {α : Type} [DecidableEq α] : ∀ {A B : List α}, A.Nodup → (∀ x, x ∈ A → x ∈ B) → A.length ≤ B.length := by
  intro A
  induction A with
  | nil => intro B _ _; simp
  | cons a A ih =>
    intro B hn hs
    obtain ⟨h1, h2⟩ := List.nodup_cons.1 hn
    have ha := hs a (List.mem_cons_self ..)
    have := ih (B := B.erase a) h2 (fun x hx => (List.mem_erase_of_ne (fun (e : x = a) => h1 (e ▸ hx))).2 (hs x (List.mem_cons_of_mem _ hx)))
    rw [List.length_erase_of_mem ha] at this
    have hb := List.length_pos_of_mem ha
    simp only [List.length_cons]
    omega
theorem pad_inj {P : Nat} {c d : List Nat} (hP : P ≤ 5) (hc : c.length = P) (hd : d.length = P) (h : pad c = pad d) : c = d :=
  row_ext (by omega) fun k => by rw [← pad_row (by omega), ← pad_row (c := d) (by omega), h]
/-- all whole cuts, in five places -/
def whs (P : Nat) (T : List (Int × Int)) : List (List Nat) := ((allL T P []).filter (whB T)).map pad
theorem whs_length (P : Nat) (T : List (Int × Int)) : (whs P T).length = cts T P [] := by unfold whs; rw [List.length_map, cts_len]
theorem mem_whs {P : Nat} {T : List (Int × Int)} (hP : P ≤ 5) (x : List Nat) : x ∈ whs P T ↔ Gd P T x := by
  unfold whs
  rw [List.mem_map]
  constructor
  · rintro ⟨c, hc, rfl⟩
    obtain ⟨h1, h2⟩ := List.mem_filter.1 hc
    obtain ⟨h3, _, h4⟩ := (mem_allL T P [] c).1 h1
    have hl : c.length = P := by simpa using h3
    refine ⟨rfl, fun p hp => by rw [pad_row (by omega)]; exact h4 p (by simp) (by omega), fun p hp => by rw [pad_row (by omega), row_out _ _ (by omega)], by rw [pad_wh (by omega)]; exact h2⟩
  · intro hx
    have hl : (x.take P).length = P := by rw [List.length_take, hx.len]; omega
    have hr : ∀ k, row (x.take P) k = row x k := fun k => by
      by_cases hk : k < P
      · unfold row; rw [List.getElem?_take, if_pos hk]
      · rw [row_out _ _ (by omega), hx.out k (by omega)]
    have hpad : pad (x.take P) = x := row_ext (by rw [hx.len]; rfl) fun k => by rw [pad_row (by omega), hr]
    refine ⟨x.take P, List.mem_filter.2 ⟨(mem_allL T P [] _).2 ⟨by simp [hx.len]; omega, fun p hp => by simp at hp, fun p _ hp => by rw [hr]; exact hx.rng p (by omega)⟩, ?_⟩, hpad⟩
    rw [← pad_wh (by omega), hpad]
    exact hx.wh
theorem whs_nodup {P : Nat} {T : List (Int × Int)} (hP : P ≤ 5) : (whs P T).Nodup := by
  unfold whs
  rw [List.nodup_iff_pairwise_ne, List.pairwise_map]
  refine List.Pairwise.imp_of_mem ?_ ((allL_nodup T P []).filter (whB T))
  intro c d hc hd hne e
  have h1 := ((mem_allL T P [] c).1 (List.mem_filter.1 hc).1).1
  have h2 := ((mem_allL T P [] d).1 (List.mem_filter.1 hd).1).1
  exact hne (pad_inj hP (by simpa using h1) (by simpa using h2) e)
theorem found_le {P : Nat} {T : List (Int × Int)} (hk : TOk (P : Int) T) {L : List (List Nat)} (hn : L.Nodup) (hg : ∀ c, c ∈ L → Gd P T c) : L.length ≤ cts T P [] := by
  have hP5 : P ≤ 5 := by have := hk.p5; omega
  rw [← whs_length]
  exact nodup_le hn fun x hx => (mem_whs hP5 x).2 (hg x hx)
theorem found_all {P : Nat} {T : List (Int × Int)} (hk : TOk (P : Int) T) {L : List (List Nat)} (hn : L.Nodup) (hg : ∀ c, c ∈ L → Gd P T c) (h0 : zero5 ∈ L) (hc : ∀ c, c ∈ L → ∀ p, p < P → Gd P T (nx c p) → nx c p ∈ L) : L.length = cts T P [] := by
  have hP5 : P ≤ 5 := by have := hk.p5; omega
  refine Nat.le_antisymm (found_le hk hn hg) ?_
  rw [← whs_length]
  exact nodup_le (whs_nodup hP5) fun x hx => all_found hk h0 hc _ x rfl ((mem_whs hP5 x).1 hx)
end M
end Go.Proofs.YtkojkiggdbffhaaDoor
namespace Go.Proofs.YtkojkiggdbffhaaDoor
open Go.RowKit
theorem cof0_ints (c : List Nat) : M.cof0 (ints c) = c := by
  unfold M.cof0 ints
  rw [List.map_map]
  refine List.ext_getElem (by simp) fun k h1 h2 => ?_
  simp
theorem ccode_get {P : Int} {T : List (Int × Int)} {zs : List Int} (h : M.ccode P T zs = 0) : ∃ c, zs = ints c ∧ M.COk P T c := by
  obtain ⟨h1, h2, h3⟩ := M.ccode_zero.1 h
  exact ⟨M.cof0 zs, h3, h2⟩
theorem ccode_ints {P : Int} {T : List (Int × Int)} {c : List Nat} (hk : M.TOk P T) (hc : M.COk P T c) : M.ccode P T (ints c) = 0 :=
  M.ccode_zero.2 ⟨hk, by rw [cof0_ints]; exact hc, by rw [cof0_ints]; rfl⟩
theorem hasI_nat {c : List Nat} {p : Option Addr} {w : World} (h : HasI (ints c) p w) {j : Nat} (hj : j < c.length) {x : Nat} (hx : M.row c j = x) : ∃ b off, p = some ⟨b, off, none⟩ ∧ b < w.heap.size ∧ w.cell? ⟨b, off + j, none⟩ = some (.int .i64 (x : Nat)) := by
  obtain ⟨b, off, h1, h2, h3⟩ := h j (by rw [ints_length]; exact hj)
  exact ⟨b, off, h1, h2, by rw [h3, ints_get, hx]⟩
end Go.Proofs.YtkojkiggdbffhaaDoor
