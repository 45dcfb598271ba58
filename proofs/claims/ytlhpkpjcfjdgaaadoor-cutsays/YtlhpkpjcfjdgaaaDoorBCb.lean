/- What is wrong with a cut, and its five numbers (package cut, numbersOf), at whatever numbers; what lay in memory lies as it lay. Cuts that may be, as lists of numbers. No walk. Whole cuts are found from that of nothing on, event by event. No walk. -/
import Derived.Test.YtlhpkpjcfjdgaaaDoorBCa
import Derived.Test.YtlhpkpjcfjdgaaaDoorBTr
import Derived.Test.YtlhpkpjcfjdgaaaDoorBMb
namespace Go.Proofs.YtlhpkpjcfjdgaaaDoor
open Go.RowKit
namespace M
/-- all of the first k numbers may be -/
def cTo (T : List (Int × Int)) (zs : List Int) : Nat → Bool
  | 0 => true
  | k + 1 => cTo T zs k && decide (0 ≤ zs[k]?.getD 0 ∧ zs[k]?.getD 0 ≤ (evn T k T.length : Nat))
theorem cTo_iff (T : List (Int × Int)) (zs : List Int) (n : Nat) : cTo T zs n = true ↔ ∀ k, k < n → 0 ≤ zs[k]?.getD 0 ∧ zs[k]?.getD 0 ≤ (evn T k T.length : Nat) := by
  induction n with
  | zero => simp [cTo]
  | succ n ih =>
    simp only [cTo, Bool.and_eq_true, decide_eq_true_eq, ih]
    constructor
    · rintro ⟨h1, h2⟩ k hk
      by_cases e : k = n
      · subst e; exact h2
      · exact h1 k (by omega)
    · exact fun h => ⟨fun k hk => h k (by omega), h n (by omega)⟩
theorem cTo_false {T : List (Int × Int)} {zs : List Int} {k n : Nat} (hk : k < n) (h : ¬ (0 ≤ zs[k]?.getD 0 ∧ zs[k]?.getD 0 ≤ (evn T k T.length : Nat))) : ¬ cTo T zs n = true := fun e => h ((cTo_iff T zs n).1 e k hk)
/-- what is wrong with a cut of a trace -/
def ccode (P : Int) (T : List (Int × Int)) (zs : List Int) : Nat := if tcode P T ≠ 0 then tcode P T else if (zs.length : Int) ≠ P then 3 else if cTo T zs zs.length = true then 0 else 1
/-- the numbers of a cut -/
def cof0 (zs : List Int) : List Nat := zs.map Int.toNat
theorem cof0_length (zs : List Int) : (cof0 zs).length = zs.length := by simp [cof0]
theorem cof0_row (zs : List Int) (k : Nat) : row (cof0 zs) k = (zs[k]?.getD 0).toNat := by
  unfold row cof0
  rw [List.getElem?_map]
  cases zs[k]? <;> rfl
theorem ccode_zero {P : Int} {T : List (Int × Int)} {zs : List Int} : ccode P T zs = 0 ↔ TOk P T ∧ COk P T (cof0 zs) ∧ zs = (cof0 zs).map (fun x => ((x : Nat) : Int)) := by
  unfold ccode
  constructor
  · intro h
    split at h
    · rename_i h1; exact absurd h h1
    · rename_i h1
      split at h
      · omega
      · rename_i h2
        split at h
        · rename_i h3
          rw [cTo_iff] at h3
          refine ⟨tcode_zero.1 (by simpa using h1), ⟨by rw [cof0_length]; simpa using h2, fun p hp => ?_⟩, ?_⟩
          · rw [cof0_length] at hp
            rw [cof0_row]
            have := h3 p hp
            omega
          · refine List.ext_getElem (by simp [cof0]) fun k hk _ => ?_
            have := h3 k hk
            rw [List.getElem?_eq_getElem hk] at this
            simp only [cof0, List.map_map, List.getElem_map, Function.comp]
            simp at this
            omega
        · omega
  · rintro ⟨h1, h2, h3⟩
    have hl : (zs.length : Int) = P := by have := h2.len; rw [cof0_length] at this; exact this
    rw [if_neg (fun e => e (tcode_zero.2 h1)), if_neg (fun e => e hl), if_pos]
    rw [cTo_iff]
    intro k hk
    have := h2.rng k (by rw [cof0_length]; exact hk)
    rw [cof0_row] at this
    have e : zs[k]?.getD 0 = ((row (cof0 zs) k : Nat) : Int) := (congrArg (fun l : List Int => l[k]?.getD 0) h3).trans (ints_get _ k)
    rw [cof0_row] at e
    omega
/-- the first k numbers of a cut, in five places -/
def nuTo (c : List Nat) (k : Nat) : List Nat := [if 0 < k then row c 0 else 0, if 1 < k then row c 1 else 0, if 2 < k then row c 2 else 0, if 3 < k then row c 3 else 0, if 4 < k then row c 4 else 0]
theorem nuTo_zero (c : List Nat) : nuTo c 0 = [0, 0, 0, 0, 0] := rfl
theorem nuTo_length (c : List Nat) (k : Nat) : (nuTo c k).length = 5 := rfl
theorem nuTo_set (c : List Nat) {k v : Nat} (h : k < 5) (hv : v = row c k) : (nuTo c k).set k v = nuTo c (k + 1) := by
  subst hv
  have hd : k = 0 ∨ k = 1 ∨ k = 2 ∨ k = 3 ∨ k = 4 := by omega
  rcases hd with rfl | rfl | rfl | rfl | rfl <;> rfl
/-- a cut, in five places -/
def pad (c : List Nat) : List Nat := [row c 0, row c 1, row c 2, row c 3, row c 4]
theorem pad_row {c : List Nat} (h : c.length ≤ 5) (p : Nat) : row (pad c) p = row c p := by
  by_cases hp : p < 5
  · have hd : p = 0 ∨ p = 1 ∨ p = 2 ∨ p = 3 ∨ p = 4 := by omega
    rcases hd with rfl | rfl | rfl | rfl | rfl <;> rfl
  · rw [row_out _ _ (by show 5 ≤ p; omega), row_out _ _ (by omega)]
theorem nuTo_pad {c : List Nat} {k : Nat} (h : c.length ≤ k) : nuTo c k = pad c := by
  have e : ∀ p, (if p < k then row c p else 0) = row c p := fun p => by
    by_cases hp : p < k
    · rw [if_pos hp]
    · rw [if_neg hp, row_out _ _ (by omega)]
  unfold nuTo pad
  rw [e, e, e, e, e]
theorem pad_in {T : List (Int × Int)} {c : List Nat} (h : c.length ≤ 5) (j : Nat) : inC T (pad c) j = inC T c j := by
  unfold inC; rw [pad_row h]
theorem pad_set {T : List (Int × Int)} {c : List Nat} (h : c.length ≤ 5) (k : Nat) : cset T (pad c) k = cset T c k := by
  induction k with
  | zero => rfl
  | succ k ih => simp only [cset, pad_in h, ih]
theorem pad_wh {T : List (Int × Int)} {c : List Nat} (h : c.length ≤ 5) : whB T (pad c) = whB T c := by
  rw [Bool.eq_iff_iff]
  unfold whB
  rw [whTo_iff, whTo_iff]
  simp only [pad_in h]
end M
/-- A cut as a value. -/
abbrev cuV (c : List Nat) : Value := nuV (M.row c 0) (M.row c 1) (M.row c 2) (M.row c 3) (M.row c 4)
theorem results_nu2 {fn : Func} {t u : Tmp} (h : fn.results = #[.cell t 65, .tmp u]) (tmps : Array Value) (w : World) (B : Nat) (a b c d e : Nat) (v : Value) (hp : tmps.getD t undef = .pointer (some ⟨B, 0, none⟩)) (hv : tmps.getD u undef = v) (hr : RowAt 65 w B [a, b, c, d, e]) :
    (results fn tmps).run Tryd.prog w = .ok (.tuple #[nuV a b c d e, v]) w := by
  have hp' : tmps[t]?.getD undef = .pointer (some ⟨B, 0, none⟩) := by simpa using hp
  have hv' : tmps[u]?.getD undef = v := by simpa using hv
  have h0 : w.cell? ⟨B, 0, none⟩ = some (.int .i64 (a : Nat)) := hr.cell (k := 0) (by simp)
  have h1 : w.cell? ⟨B, 1, none⟩ = some (.int .i64 (b : Nat)) := hr.cell (k := 1) (by simp)
  have h2 : w.cell? ⟨B, 2, none⟩ = some (.int .i64 (c : Nat)) := hr.cell (k := 2) (by simp)
  have h3 : w.cell? ⟨B, 3, none⟩ = some (.int .i64 (d : Nat)) := hr.cell (k := 3) (by simp)
  have h4 : w.cell? ⟨B, 4, none⟩ = some (.int .i64 (e : Nat)) := hr.cell (k := 4) (by simp)
  simp [results, h, go_sem, hp', hv', h0, h1, h2, h3, h4]
set_option maxRecDepth 100000 in
set_option maxHeartbeats 4000000 in
theorem numbers_err (P : Int) (T : List (Int × Int)) (p : Option Addr) (n cap : Nat) (zs : List Int) (q : Option Addr) (m cap2 : Nat) (w : World) (hl : T.length = n) (hmax : n ≤ maxLen) (hc : HasE T p w) (hl2 : zs.length = m) (hmax2 : m ≤ maxLen) (hz : HasI zs q w) (c : Nat) (hcc : M.ccode P T zs = c) (hne : c ≠ 0) :
    Calls Tryd.prog 50 #[trV P p n cap, .slice q m cap2] w fun e w' => e = .returned (.tuple #[nuV 0 0 0 0 0, .iface 74 (.int .i64 (c : Nat))]) ∧ Below w.heap.size w w' := by
  obtain ⟨wa, hwa⟩ : ∃ wa, w.alloc (.cells #[.int .i64 P, .slice p n cap] 24) = wa := ⟨_, rfl⟩
  obtain ⟨wb, hwb⟩ : ∃ wb, wa.alloc (.cells #[.int .i64 0, .int .i64 0, .int .i64 0, .int .i64 0, .int .i64 0] 65) = wb := ⟨_, rfl⟩
  have sa : wa.heap.size = w.heap.size + 1 := by subst hwa; simp
  have ra : TBox wa w.heap.size P p n cap := hwa ▸ tbox_new w P p n cap
  have rb : RowAt 65 wb (w.heap.size + 1) [0, 0, 0, 0, 0] := by subst hwb; unfold RowAt; rw [← sa, World.alloc_heap_new]; rfl
  have hba : Below wa.heap.size wa wb := by rw [← hwb]; exact bel_al (Below.refl _ _) _
  have hB0 : Below w.heap.size w wb := by rw [← hwb, ← hwa]; exact bel_al (bel_al (Below.refl _ _) _) _
  have tb := ra.later hba (by omega)
  have t0 := tb.procs
  have t1 := tb.events
  have tl := tb.lt
  have hcb := hc.later hB0
  unfold maxLen at hmax2
  go_enter Tryd.func50, Tryd.ntmps50
  go_wp2_with fail
  clear t0 t1
  refine (check_tr P T p n cap _ hl hmax hcb).mono ?_
  by_cases h1 : M.tcode P T ≠ 0
  · have e : M.tcode P T = c := by rw [← hcc]; exact (if_pos h1).symm
    rw [e, terr_ne hne]
    rintro e w1 ⟨rfl, hB1⟩
    have r1 := rb.below hB1 rb.lt
    have hBx := bel_on hB0 hB1
    clear hne
    have c0 := r1.cell (k := 0) (by simp)
    have c1 := r1.cell (k := 1) (by simp)
    have c2 := r1.cell (k := 2) (by simp)
    have c3 := r1.cell (k := 3) (by simp)
    have c4 := r1.cell (k := 4) (by simp)
    have f0 := r1.frozen 0
    have f1 := r1.frozen 1
    have f2 := r1.frozen 2
    have f3 := r1.frozen 3
    have f4 := r1.frozen 4
    have HR : Hid (RowAt _ _ _ _) := ((((r1.set 0 0).set 1 0).set 2 0).set 3 0).set 4 0
    have HB : Hid (Below w.heap.size w _) := (((((hBx.setCell (p := ⟨w.heap.size + 1, 0, none⟩) (Nat.le_succ _) (.int .i64 0)).setCell (p := ⟨w.heap.size + 1, 1, none⟩) (Nat.le_succ _) (.int .i64 0)).setCell (p := ⟨w.heap.size + 1, 2, none⟩) (Nat.le_succ _) (.int .i64 0)).setCell (p := ⟨w.heap.size + 1, 3, none⟩) (Nat.le_succ _) (.int .i64 0)).setCell (p := ⟨w.heap.size + 1, 4, none⟩) (Nat.le_succ _) (.int .i64 0))
    clear r1 hBx
    go_wp2_with fail
    exact bodyPost_ret (v := .tuple #[nuV 0 0 0 0 0, _]) (results_nu2 rfl _ _ (w.heap.size + 1) 0 0 0 0 0 _ rfl rfl HR.out) rfl ⟨rfl, HB.out⟩
  have h1 : M.tcode P T = 0 := Decidable.not_not.1 h1
  have hP5 := (M.tcode_zero.1 h1).p5
  rw [h1, terr_zero]
  by_cases h2 : (m : Int) ≠ P
  · have ec : c = 3 := by rw [← hcc]; unfold M.ccode; rw [if_neg (fun e => e h1), if_pos (by omega)]
    subst ec
    rintro e w1 ⟨rfl, hB1⟩
    have tk := tb.later hB1 tl
    have k0 := tk.procs
    have k1 := tk.events
    have hmn : ((m : Int) != P) = true := by simp; omega
    have r1 := rb.below hB1 rb.lt
    have hBx := bel_on hB0 hB1
    clear hcc
    clear hne
    have c0 := r1.cell (k := 0) (by simp)
    have c1 := r1.cell (k := 1) (by simp)
    have c2 := r1.cell (k := 2) (by simp)
    have c3 := r1.cell (k := 3) (by simp)
    have c4 := r1.cell (k := 4) (by simp)
    have f0 := r1.frozen 0
    have f1 := r1.frozen 1
    have f2 := r1.frozen 2
    have f3 := r1.frozen 3
    have f4 := r1.frozen 4
    have HR : Hid (RowAt _ _ _ _) := ((((r1.set 0 0).set 1 0).set 2 0).set 3 0).set 4 0
    have HB : Hid (Below w.heap.size w _) := (((((hBx.setCell (p := ⟨w.heap.size + 1, 0, none⟩) (Nat.le_succ _) (.int .i64 0)).setCell (p := ⟨w.heap.size + 1, 1, none⟩) (Nat.le_succ _) (.int .i64 0)).setCell (p := ⟨w.heap.size + 1, 2, none⟩) (Nat.le_succ _) (.int .i64 0)).setCell (p := ⟨w.heap.size + 1, 3, none⟩) (Nat.le_succ _) (.int .i64 0)).setCell (p := ⟨w.heap.size + 1, 4, none⟩) (Nat.le_succ _) (.int .i64 0))
    clear r1 hBx
    go_wp2_with fail
    exact bodyPost_ret (v := .tuple #[nuV 0 0 0 0 0, _]) (results_nu2 rfl _ _ (w.heap.size + 1) 0 0 0 0 0 _ rfl rfl HR.out) rfl ⟨rfl, HB.out⟩
  have h2 : (m : Int) = P := Decidable.not_not.1 h2
  rintro e w1 ⟨rfl, hB1⟩
  have tk := tb.later hB1 tl
  have k0 := tk.procs
  have k1 := tk.events
  have kl := tk.lt
  have rk := rb.below hB1 rb.lt
  have hB1' : Below w.heap.size w w1 := bel_on hB0 hB1
  have hc1 := hc.later hB1'
  have hz1 := hz.later hB1'
  have hPn : ((m : Int) != P) = false := by simp; omega
  obtain ⟨w2, hw2⟩ : ∃ w2, w1.alloc (.cells #[.int .i64 0, .int .i64 0, .int .i64 0, .int .i64 0, .int .i64 0] 65) = w2 := ⟨_, rfl⟩
  have hb2 : Below w1.heap.size w1 w2 := by rw [← hw2]; exact bel_al (Below.refl _ _) _
  have r2 : RowAt 65 w2 w1.heap.size (M.nuTo (M.cof0 zs) 0) := by subst hw2; unfold RowAt; rw [World.alloc_heap_new]; rfl
  have k2 := tk.later hb2 kl
  have j0 := k2.procs
  have j1 := k2.events
  have jl := k2.lt
  have hB2' : Below w.heap.size w w2 := bel_on hB1' hb2
  have s1 := hB1.size
  have rl := rb.lt
  go_wp2_with fail
  refine (allOf_ok P T p n cap _ hl (hc1.later hb2) h1).mono ?_
  rintro e w3 ⟨rfl, hB3⟩
  have r3 := r2.below hB3 r2.lt
  have q3 := (rk.below hb2 rk.lt).below hB3 (Nat.lt_of_lt_of_le rk.lt hb2.size)
  have hB3' : Below w.heap.size w w3 := bel_on hB2' hB3
  obtain ⟨w4, hw4⟩ : ∃ w4, w3.alloc (.cells #[.int .i64 (M.evn T 0 n : Nat), .int .i64 (M.evn T 1 n : Nat), .int .i64 (M.evn T 2 n : Nat), .int .i64 (M.evn T 3 n : Nat), .int .i64 (M.evn T 4 n : Nat)] 65) = w4 := ⟨_, rfl⟩
  have hb4 : Below w3.heap.size w3 w4 := by rw [← hw4]; exact bel_al (Below.refl _ _) _
  have e4 : RowAt 65 w4 w3.heap.size (M.evl T n) := by subst hw4; unfold RowAt; rw [World.alloc_heap_new]; rfl
  have r4 := r3.below hb4 r3.lt
  have q4 := q3.below hb4 q3.lt
  have hB4 : Below w.heap.size w w4 := bel_on hB3' hb4
  have s2 := hb2.size
  have s3 := hB3.size
  have lr2 := r2.lt
  clear k0 k1 j0 j1 k2 tk hb2 hB3 rk r2 r3 q3 hc1 hB1 hB1' hB2' hB3' rb tb hB0 hba ra hcb hwa hwb hw2
  go_wp2_with fail
  clear hw4 hb4
  go_loopw [28] (fun v wr => ∃ i : Nat, v = .int .i64 i ∧ i ≤ m ∧ Hid (M.cTo T zs i = true) ∧ RowAt 65 wr (w.heap.size + 1) [0, 0, 0, 0, 0] ∧ RowAt 65 wr w1.heap.size (M.nuTo (M.cof0 zs) i) ∧ RowAt 65 wr w3.heap.size (M.evl T n) ∧ Below w.heap.size w wr) (fun v _ => m - (intOf v).toNat)
  case atStart => exact ⟨0, rfl, Nat.zero_le _, show M.cTo T zs 0 = true from rfl, q4, r4, e4, hB4⟩
  case round =>
    clear q4 r4 e4 hB4
    obtain ⟨i, rfl, hi, hT, hR, hN, hE, hB⟩ := hrel
    have lR := hR.lt
    have lN := hN.lt
    have lE := hE.lt
    by_cases hlt : i < m
    · have hi5 : i < 5 := by omega
      obtain ⟨z, hze⟩ : ∃ z, zs[i]?.getD 0 = z := ⟨_, rfl⟩
      obtain ⟨b, off, rfl, hb, hcz⟩ : ∃ b off, q = some ⟨b, off, none⟩ ∧ b < wr.heap.size ∧ wr.cell? ⟨b, off + i, none⟩ = some (.int .i64 z) := by
        obtain ⟨b, off, g1, g2, g3⟩ := hz.later hB i (by omega)
        exact ⟨b, off, g1, g2, by rw [g3, hze]⟩
      have hcE := hE.cell (k := i) hi5
      rw [M.evl_row T n hi5] at hcE
      have HZ : Hid (zs[i]?.getD 0 = z) := hze
      obtain ⟨x, hx⟩ : ∃ x, M.evn T i n = x := ⟨_, rfl⟩
      have HX : Hid (M.evn T i T.length = x) := by show _ = _; rw [hl]; exact hx
      rw [hx] at hcE
      clear hx hze
      have hi5' : (i : Int) < 5 := by omega
      by_cases hz0 : z < 0
      · have hd : decide (z < 0) = true := decide_eq_true hz0
        have hbad : ¬ M.cTo T zs m = true := M.cTo_false hlt (by rw [HZ.out, HX.out]; omega)
        have ec : c = 1 := by rw [← hcc]; unfold M.ccode; rw [if_neg (fun e => e h1), if_neg (by omega), hl2, if_neg hbad]
        subst ec
        clear hN hE hbad hz hcc hz0
        clear hne
        have c0 := hR.cell (k := 0) (by simp)
        have c1 := hR.cell (k := 1) (by simp)
        have c2 := hR.cell (k := 2) (by simp)
        have c3 := hR.cell (k := 3) (by simp)
        have c4 := hR.cell (k := 4) (by simp)
        have f0 := hR.frozen 0
        have f1 := hR.frozen 1
        have f2 := hR.frozen 2
        have f3 := hR.frozen 3
        have f4 := hR.frozen 4
        have HR : Hid (RowAt _ _ _ _) := ((((hR.set 0 0).set 1 0).set 2 0).set 3 0).set 4 0
        have HB : Hid (Below w.heap.size w _) := (((((hB.setCell (p := ⟨w.heap.size + 1, 0, none⟩) (Nat.le_succ _) (.int .i64 0)).setCell (p := ⟨w.heap.size + 1, 1, none⟩) (Nat.le_succ _) (.int .i64 0)).setCell (p := ⟨w.heap.size + 1, 2, none⟩) (Nat.le_succ _) (.int .i64 0)).setCell (p := ⟨w.heap.size + 1, 3, none⟩) (Nat.le_succ _) (.int .i64 0)).setCell (p := ⟨w.heap.size + 1, 4, none⟩) (Nat.le_succ _) (.int .i64 0))
        clear hR hB
        go_wp2_with fail
        exact bodyPost_ret (v := .tuple #[nuV 0 0 0 0 0, _]) (results_nu2 rfl _ _ (w.heap.size + 1) 0 0 0 0 0 _ rfl rfl HR.out) rfl ⟨rfl, HB.out⟩
      · by_cases hzm : z > (x : Int)
        · have hd : decide (z < 0) = false := decide_eq_false hz0
          have hd2 : decide ((x : Int) < z) = true := decide_eq_true hzm
          have hbad : ¬ M.cTo T zs m = true := M.cTo_false hlt (by rw [HZ.out, HX.out]; omega)
          have ec : c = 1 := by rw [← hcc]; unfold M.ccode; rw [if_neg (fun e => e h1), if_neg (by omega), hl2, if_neg hbad]
          subst ec
          clear hN hE hbad hz hcc hz0
          clear hne
          have c0 := hR.cell (k := 0) (by simp)
          have c1 := hR.cell (k := 1) (by simp)
          have c2 := hR.cell (k := 2) (by simp)
          have c3 := hR.cell (k := 3) (by simp)
          have c4 := hR.cell (k := 4) (by simp)
          have f0 := hR.frozen 0
          have f1 := hR.frozen 1
          have f2 := hR.frozen 2
          have f3 := hR.frozen 3
          have f4 := hR.frozen 4
          have HR : Hid (RowAt _ _ _ _) := ((((hR.set 0 0).set 1 0).set 2 0).set 3 0).set 4 0
          have HB : Hid (Below w.heap.size w _) := (((((hB.setCell (p := ⟨w.heap.size + 1, 0, none⟩) (Nat.le_succ _) (.int .i64 0)).setCell (p := ⟨w.heap.size + 1, 1, none⟩) (Nat.le_succ _) (.int .i64 0)).setCell (p := ⟨w.heap.size + 1, 2, none⟩) (Nat.le_succ _) (.int .i64 0)).setCell (p := ⟨w.heap.size + 1, 3, none⟩) (Nat.le_succ _) (.int .i64 0)).setCell (p := ⟨w.heap.size + 1, 4, none⟩) (Nat.le_succ _) (.int .i64 0))
          clear hR hB
          go_wp2_with fail
          exact bodyPost_ret (v := .tuple #[nuV 0 0 0 0 0, _]) (results_nu2 rfl _ _ (w.heap.size + 1) 0 0 0 0 0 _ rfl rfl HR.out) rfl ⟨rfl, HB.out⟩
        · have hd : decide (z < 0) = false := decide_eq_false hz0
          obtain ⟨y, rfl⟩ : ∃ y : Nat, z = y := ⟨z.toNat, by omega⟩
          have hd2 : decide ((x : Int) < (y : Int)) = false := decide_eq_false hzm
          have hd3 : decide (x < y) = false := decide_eq_false (by omega)
          have HN : Hid (M.cTo T zs (i + 1) = true) := by
            show M.cTo T zs (i + 1) = true
            simp only [M.cTo, hT.out, Bool.true_and, HZ.out, HX.out, decide_eq_true_eq]
            omega
          have hst := hN.set i y
          rw [M.nuTo_set _ hi5 (by rw [M.cof0_row, HZ.out, Int.toNat_natCast])] at hst
          have hfz := hN.frozen i
          have hcN := hN.cell (k := i) hi5
          have H1 : Hid (RowAt _ _ _ _) := hR.other (a := ⟨w1.heap.size, i, none⟩) (show w.heap.size + 1 ≠ w1.heap.size by omega) (.int .i64 (y : Nat))
          have H2 : Hid (RowAt _ _ _ _) := hst
          have H3 : Hid (RowAt _ _ _ _) := hE.other (a := ⟨w1.heap.size, i, none⟩) (show w3.heap.size ≠ w1.heap.size by omega) (.int .i64 (y : Nat))
          have H4 : Hid (Below _ _ _) := hB.setCell (p := ⟨w1.heap.size, i, none⟩) (show w.heap.size ≤ w1.heap.size by omega) (.int .i64 (y : Nat))
          clear hst hR hN hE hB hzm hz0
          go_wp2_with fail
          go_roundw
          case rel => exact ⟨i + 1, by go_num, by omega, HN, H1.out, H2.out, H3.out, H4.out⟩
          case measure => simp [intOf]; omega
    · obtain rfl : i = m := by omega
      exact absurd (by rw [← hcc]; unfold M.ccode; rw [if_neg (fun e => e h1), if_neg (by omega), hl2, if_pos hT.out] : c = 0) hne
set_option maxRecDepth 100000 in
set_option maxHeartbeats 4000000 in
theorem numbers_ok (P : Int) (T : List (Int × Int)) (p : Option Addr) (n cap : Nat) (zs : List Int) (q : Option Addr) (m cap2 : Nat) (w : World) (hl : T.length = n) (hmax : n ≤ maxLen) (hc : HasE T p w) (hl2 : zs.length = m) (hmax2 : m ≤ maxLen) (hz : HasI zs q w) (h0 : M.ccode P T zs = 0) :
    Calls Tryd.prog 50 #[trV P p n cap, .slice q m cap2] w fun e w' => e = .returned (.tuple #[cuV (M.cof0 zs), .nilIface]) ∧ Below w.heap.size w w' := by
  obtain ⟨hTk, hCk, hzz⟩ := M.ccode_zero.1 h0
  have h1 : M.tcode P T = 0 := M.tcode_zero.2 hTk
  have hP5 := hTk.p5
  have h2 : (m : Int) = P := by have := hCk.len; rw [M.cof0_length] at this; omega
  have hok : M.cTo T zs m = true := by
    rw [M.cTo_iff]
    intro k hk
    have := hCk.rng k (by rw [M.cof0_length]; omega)
    have e : zs[k]?.getD 0 = ((M.row (M.cof0 zs) k : Nat) : Int) := (congrArg (fun l : List Int => l[k]?.getD 0) hzz).trans (ints_get _ k)
    omega
  clear hCk hzz h0
  obtain ⟨wa, hwa⟩ : ∃ wa, w.alloc (.cells #[.int .i64 P, .slice p n cap] 24) = wa := ⟨_, rfl⟩
  obtain ⟨wb, hwb⟩ : ∃ wb, wa.alloc (.cells #[.int .i64 0, .int .i64 0, .int .i64 0, .int .i64 0, .int .i64 0] 65) = wb := ⟨_, rfl⟩
  have sa : wa.heap.size = w.heap.size + 1 := by subst hwa; simp
  have ra : TBox wa w.heap.size P p n cap := hwa ▸ tbox_new w P p n cap
  have rb : RowAt 65 wb (w.heap.size + 1) [0, 0, 0, 0, 0] := by subst hwb; unfold RowAt; rw [← sa, World.alloc_heap_new]; rfl
  have hba : Below wa.heap.size wa wb := by rw [← hwb]; exact bel_al (Below.refl _ _) _
  have hB0 : Below w.heap.size w wb := by rw [← hwb, ← hwa]; exact bel_al (bel_al (Below.refl _ _) _) _
  have tb := ra.later hba (by omega)
  have t0 := tb.procs
  have t1 := tb.events
  have tl := tb.lt
  have hcb := hc.later hB0
  unfold maxLen at hmax2
  go_enter Tryd.func50, Tryd.ntmps50
  go_wp2_with fail
  clear t0 t1
  refine (check_tr P T p n cap _ hl hmax hcb).mono ?_
  rw [h1, terr_zero]
  rintro e w1 ⟨rfl, hB1⟩
  have tk := tb.later hB1 tl
  have k0 := tk.procs
  have k1 := tk.events
  have kl := tk.lt
  have rk := rb.below hB1 rb.lt
  have hB1' : Below w.heap.size w w1 := bel_on hB0 hB1
  have hc1 := hc.later hB1'
  have hz1 := hz.later hB1'
  have hPn : ((m : Int) != P) = false := by simp; omega
  obtain ⟨w2, hw2⟩ : ∃ w2, w1.alloc (.cells #[.int .i64 0, .int .i64 0, .int .i64 0, .int .i64 0, .int .i64 0] 65) = w2 := ⟨_, rfl⟩
  have hb2 : Below w1.heap.size w1 w2 := by rw [← hw2]; exact bel_al (Below.refl _ _) _
  have r2 : RowAt 65 w2 w1.heap.size (M.nuTo (M.cof0 zs) 0) := by subst hw2; unfold RowAt; rw [World.alloc_heap_new]; rfl
  have k2 := tk.later hb2 kl
  have j0 := k2.procs
  have j1 := k2.events
  have jl := k2.lt
  have hB2' : Below w.heap.size w w2 := bel_on hB1' hb2
  have s1 := hB1.size
  have rl := rb.lt
  go_wp2_with fail
  refine (allOf_ok P T p n cap _ hl (hc1.later hb2) h1).mono ?_
  rintro e w3 ⟨rfl, hB3⟩
  have r3 := r2.below hB3 r2.lt
  have q3 := (rk.below hb2 rk.lt).below hB3 (Nat.lt_of_lt_of_le rk.lt hb2.size)
  have hB3' : Below w.heap.size w w3 := bel_on hB2' hB3
  obtain ⟨w4, hw4⟩ : ∃ w4, w3.alloc (.cells #[.int .i64 (M.evn T 0 n : Nat), .int .i64 (M.evn T 1 n : Nat), .int .i64 (M.evn T 2 n : Nat), .int .i64 (M.evn T 3 n : Nat), .int .i64 (M.evn T 4 n : Nat)] 65) = w4 := ⟨_, rfl⟩
  have hb4 : Below w3.heap.size w3 w4 := by rw [← hw4]; exact bel_al (Below.refl _ _) _
  have e4 : RowAt 65 w4 w3.heap.size (M.evl T n) := by subst hw4; unfold RowAt; rw [World.alloc_heap_new]; rfl
  have r4 := r3.below hb4 r3.lt
  have q4 := q3.below hb4 q3.lt
  have hB4 : Below w.heap.size w w4 := bel_on hB3' hb4
  have s2 := hb2.size
  have s3 := hB3.size
  have lr2 := r2.lt
  clear k0 k1 j0 j1 k2 tk hb2 hB3 rk r2 r3 q3 hc1 hB1 hB1' hB2' hB3' rb tb hB0 hba ra hcb hwa hwb hw2
  go_wp2_with fail
  clear hw4 hb4
  go_loopw [28] (fun v wr => ∃ i : Nat, v = .int .i64 i ∧ i ≤ m ∧ Hid (M.cTo T zs i = true) ∧ RowAt 65 wr (w.heap.size + 1) [0, 0, 0, 0, 0] ∧ RowAt 65 wr w1.heap.size (M.nuTo (M.cof0 zs) i) ∧ RowAt 65 wr w3.heap.size (M.evl T n) ∧ Below w.heap.size w wr) (fun v _ => m - (intOf v).toNat)
  case atStart => exact ⟨0, rfl, Nat.zero_le _, show M.cTo T zs 0 = true from rfl, q4, r4, e4, hB4⟩
  case round =>
    clear q4 r4 e4 hB4
    obtain ⟨i, rfl, hi, hT, hR, hN, hE, hB⟩ := hrel
    have lR := hR.lt
    have lN := hN.lt
    have lE := hE.lt
    by_cases hlt : i < m
    · have hi5 : i < 5 := by omega
      obtain ⟨z, hze⟩ : ∃ z, zs[i]?.getD 0 = z := ⟨_, rfl⟩
      obtain ⟨b, off, rfl, hb, hcz⟩ : ∃ b off, q = some ⟨b, off, none⟩ ∧ b < wr.heap.size ∧ wr.cell? ⟨b, off + i, none⟩ = some (.int .i64 z) := by
        obtain ⟨b, off, g1, g2, g3⟩ := hz.later hB i (by omega)
        exact ⟨b, off, g1, g2, by rw [g3, hze]⟩
      have hcE := hE.cell (k := i) hi5
      rw [M.evl_row T n hi5] at hcE
      have HZ : Hid (zs[i]?.getD 0 = z) := hze
      obtain ⟨x, hx⟩ : ∃ x, M.evn T i n = x := ⟨_, rfl⟩
      have HX : Hid (M.evn T i T.length = x) := by show _ = _; rw [hl]; exact hx
      rw [hx] at hcE
      clear hx hze
      have hi5' : (i : Int) < 5 := by omega
      by_cases hz0 : z < 0
      · have hd : decide (z < 0) = true := decide_eq_true hz0
        have hbad : ¬ M.cTo T zs m = true := M.cTo_false hlt (by rw [HZ.out, HX.out]; omega)
        exact absurd hok hbad
      · by_cases hzm : z > (x : Int)
        · have hd : decide (z < 0) = false := decide_eq_false hz0
          have hd2 : decide ((x : Int) < z) = true := decide_eq_true hzm
          have hbad : ¬ M.cTo T zs m = true := M.cTo_false hlt (by rw [HZ.out, HX.out]; omega)
          exact absurd hok hbad
        · have hd : decide (z < 0) = false := decide_eq_false hz0
          obtain ⟨y, rfl⟩ : ∃ y : Nat, z = y := ⟨z.toNat, by omega⟩
          have hd2 : decide ((x : Int) < (y : Int)) = false := decide_eq_false hzm
          have hd3 : decide (x < y) = false := decide_eq_false (by omega)
          have HN : Hid (M.cTo T zs (i + 1) = true) := by
            show M.cTo T zs (i + 1) = true
            simp only [M.cTo, hT.out, Bool.true_and, HZ.out, HX.out, decide_eq_true_eq]
            omega
          have hst := hN.set i y
          rw [M.nuTo_set _ hi5 (by rw [M.cof0_row, HZ.out, Int.toNat_natCast])] at hst
          have hfz := hN.frozen i
          have hcN := hN.cell (k := i) hi5
          have H1 : Hid (RowAt _ _ _ _) := hR.other (a := ⟨w1.heap.size, i, none⟩) (show w.heap.size + 1 ≠ w1.heap.size by omega) (.int .i64 (y : Nat))
          have H2 : Hid (RowAt _ _ _ _) := hst
          have H3 : Hid (RowAt _ _ _ _) := hE.other (a := ⟨w1.heap.size, i, none⟩) (show w3.heap.size ≠ w1.heap.size by omega) (.int .i64 (y : Nat))
          have H4 : Hid (Below _ _ _) := hB.setCell (p := ⟨w1.heap.size, i, none⟩) (show w.heap.size ≤ w1.heap.size by omega) (.int .i64 (y : Nat))
          clear hst hR hN hE hB hzm hz0
          go_wp2_with fail
          go_roundw
          case rel => exact ⟨i + 1, by go_num, by omega, HN, H1.out, H2.out, H3.out, H4.out⟩
          case measure => simp [intOf]; omega
    · obtain rfl : i = m := by omega
      rw [M.nuTo_pad (by rw [M.cof0_length]; omega)] at hN
      have c0 := hR.cell (k := 0) (by simp)
      have c1 := hR.cell (k := 1) (by simp)
      have c2 := hR.cell (k := 2) (by simp)
      have c3 := hR.cell (k := 3) (by simp)
      have c4 := hR.cell (k := 4) (by simp)
      have f0 := hR.frozen 0
      have f1 := hR.frozen 1
      have f2 := hR.frozen 2
      have f3 := hR.frozen 3
      have f4 := hR.frozen 4
      have n0 : wr.cell? ⟨w1.heap.size, 0, none⟩ = some (.int .i64 (M.row (M.cof0 zs) 0 : Nat)) := hN.cell (k := 0) (by show 0 < 5; omega)
      have n1 : wr.cell? ⟨w1.heap.size, 1, none⟩ = some (.int .i64 (M.row (M.cof0 zs) 1 : Nat)) := hN.cell (k := 1) (by show 1 < 5; omega)
      have n2 : wr.cell? ⟨w1.heap.size, 2, none⟩ = some (.int .i64 (M.row (M.cof0 zs) 2 : Nat)) := hN.cell (k := 2) (by show 2 < 5; omega)
      have n3 : wr.cell? ⟨w1.heap.size, 3, none⟩ = some (.int .i64 (M.row (M.cof0 zs) 3 : Nat)) := hN.cell (k := 3) (by show 3 < 5; omega)
      have n4 : wr.cell? ⟨w1.heap.size, 4, none⟩ = some (.int .i64 (M.row (M.cof0 zs) 4 : Nat)) := hN.cell (k := 4) (by show 4 < 5; omega)
      have HR : Hid (RowAt _ _ _ _) := ((((hR.set 0 (M.row (M.cof0 zs) 0)).set 1 (M.row (M.cof0 zs) 1)).set 2 (M.row (M.cof0 zs) 2)).set 3 (M.row (M.cof0 zs) 3)).set 4 (M.row (M.cof0 zs) 4)
      have HB : Hid (Below w.heap.size w _) := (((((hB.setCell (p := ⟨w.heap.size + 1, 0, none⟩) (Nat.le_succ _) (.int .i64 (M.row (M.cof0 zs) 0 : Nat))).setCell (p := ⟨w.heap.size + 1, 1, none⟩) (Nat.le_succ _) (.int .i64 (M.row (M.cof0 zs) 1 : Nat))).setCell (p := ⟨w.heap.size + 1, 2, none⟩) (Nat.le_succ _) (.int .i64 (M.row (M.cof0 zs) 2 : Nat))).setCell (p := ⟨w.heap.size + 1, 3, none⟩) (Nat.le_succ _) (.int .i64 (M.row (M.cof0 zs) 3 : Nat))).setCell (p := ⟨w.heap.size + 1, 4, none⟩) (Nat.le_succ _) (.int .i64 (M.row (M.cof0 zs) 4 : Nat)))
      clear hR hN hE hB
      go_wp2_with fail
      exact bodyPost_ret (v := .tuple #[cuV (M.cof0 zs), .nilIface]) (results_nu2 rfl _ _ (w.heap.size + 1) _ _ _ _ _ _ rfl rfl HR.out) rfl ⟨rfl, HB.out⟩
end Go.Proofs.YtlhpkpjcfjdgaaaDoor
namespace Go.Proofs.YtlhpkpjcfjdgaaaDoor
open Go.RowKit
theorem cof0_ints (c : List Nat) : M.cof0 (ints c) = c := by
  unfold M.cof0 ints
  rw [List.map_map]
  refine List.ext_getElem (by simp) fun k h1 h2 => ?_
  simp
theorem ccode_get {P : Int} {T : List (Int × Int)} {zs : List Int} (h : M.ccode P T zs = 0) : ∃ c, zs = ints c ∧ M.COk P T c := by
  obtain ⟨h1, h2, h3⟩ := M.ccode_zero.1 h
  exact ⟨M.cof0 zs, h3, h2⟩
theorem ccode_ints {P : Int} {T : List (Int × Int)} {c : List Nat} (hk : M.TOk P T) (hc : M.COk P T c) : M.ccode P T (ints c) = 0 :=
  M.ccode_zero.2 ⟨hk, by rw [cof0_ints]; exact hc, by rw [cof0_ints]; rfl⟩
theorem hasI_nat {c : List Nat} {p : Option Addr} {w : World} (h : HasI (ints c) p w) {j : Nat} (hj : j < c.length) {x : Nat} (hx : M.row c j = x) : ∃ b off, p = some ⟨b, off, none⟩ ∧ b < w.heap.size ∧ w.cell? ⟨b, off + j, none⟩ = some (.int .i64 (x : Nat)) := by
  obtain ⟨b, off, h1, h2, h3⟩ := h j (by rw [ints_length]; exact hj)
  exact ⟨b, off, h1, h2, by rw [h3, ints_get, hx]⟩
end Go.Proofs.YtlhpkpjcfjdgaaaDoor
namespace Go.Proofs.YtlhpkpjcfjdgaaaDoor
open Go.RowKit
namespace M
/-- a whole cut, in five places -/
structure Gd (P : Nat) (T : List (Int × Int)) (x : List Nat) : Prop where
  len : x.length = 5
  rng : ∀ p, p < P → row x p ≤ evn T p T.length
  out : ∀ p, P ≤ p → row x p = 0
  wh : whB T x = true
def zero5 : List Nat := [0, 0, 0, 0, 0]
theorem zero5_row (p : Nat) : row zero5 p = 0 := by
  unfold zero5 row
  rcases p with _ | _ | _ | _ | _ | p <;> simp
theorem gd_zero (P : Nat) (T : List (Int × Int)) : Gd P T zero5 := by
  refine ⟨rfl, fun p _ => by rw [zero5_row]; omega, fun p _ => zero5_row p, ?_⟩
  unfold whB
  rw [whTo_iff]
  intro i hi h
  unfold inC at h
  rw [zero5_row] at h
  simp at h
/-- one event more at a process -/
def nx (x : List Nat) (p : Nat) : List Nat := x.set p (row x p + 1)
theorem nx_row {x : List Nat} {p k : Nat} (hp : p < x.length) : row (nx x p) k = row x k + if p = k then 1 else 0 := by
  unfold nx
  rw [row_set]
  by_cases e : p = k
  · subst e; rw [if_pos ⟨rfl, hp⟩, if_pos rfl]
  · rw [if_neg (fun h => e h.1), if_neg e]; rfl
theorem nx_length (x : List Nat) (p : Nat) : (nx x p).length = x.length := by unfold nx; simp
theorem row_ext {x y : List Nat} (hl : x.length = y.length) (h : ∀ k, row x k = row y k) : x = y := by
  refine List.ext_getElem hl fun k h1 h2 => ?_
  have := h k
  unfold row at this
  rw [List.getElem?_eq_getElem h1, List.getElem?_eq_getElem h2] at this
  simpa using this
/-- the last event that is in a cut -/
theorem last_in {T : List (Int × Int)} {x : List Nat} {n : Nat} (h : ∃ i, i < n ∧ inC T x i = true) : ∃ i, i < n ∧ inC T x i = true ∧ ∀ j, j < n → inC T x j = true → j ≤ i := by
  induction n with
  | zero => obtain ⟨i, hi, _⟩ := h; omega
  | succ n ih =>
    by_cases hn : inC T x n = true
    · exact ⟨n, by omega, hn, fun j hj _ => by omega⟩
    · obtain ⟨i, hi, hc⟩ := h
      have : i ≠ n := fun e => hn (e ▸ hc)
      obtain ⟨k, hk, h1, h2⟩ := ih ⟨i, by omega, hc⟩
      exact ⟨k, by omega, h1, fun j hj hjc => h2 j (by have : j ≠ n := fun e => hn (e ▸ hjc); omega) hjc⟩
theorem nth_step {T : List (Int × Int)} {i j : Nat} (hij : i < j) (e : pr T i = pr T j) : nth T i < nth T j := by
  unfold nth
  rw [e]
  refine Nat.lt_of_lt_of_le ?_ (cb_more (show i + 1 ≤ j by omega) _)
  rw [cb_at (b := true) (by simp [e])]
  simp
theorem evn_has {T : List (Int × Int)} {p m : Nat} : ∀ {n : Nat}, m < evn T p n → ∃ i, i < n ∧ pr T i = (p : Int) ∧ nth T i = m := by
  intro n
  induction n with
  | zero => intro h; simp [evn, cb] at h
  | succ n ih =>
    intro h
    rw [evn_succ] at h
    by_cases hp : pr T n = (p : Int)
    · rw [if_pos hp] at h
      by_cases e : m = evn T p n
      · exact ⟨n, by omega, hp, by rw [nth_evn hp, e]⟩
      · obtain ⟨i, hi, h1, h2⟩ := ih (by omega)
        exact ⟨i, by omega, h1, h2⟩
    · rw [if_neg hp] at h
      obtain ⟨i, hi, h1, h2⟩ := ih (by omega)
      exact ⟨i, by omega, h1, h2⟩
theorem gd_pred {P : Nat} {T : List (Int × Int)} {x : List Nat} (hk : TOk (P : Int) T) (hx : Gd P T x) (hne : x ≠ zero5) : ∃ y p, p < P ∧ Gd P T y ∧ nx y p = x := by
  have hP5 : P ≤ 5 := by have := hk.p5; omega
  -- some number is above nought
  have hpos : ∃ q, q < P ∧ 0 < row x q := by
    by_cases h : ∃ q, q < P ∧ 0 < row x q
    · exact h
    · refine absurd (row_ext (by rw [hx.len]; rfl) fun k => ?_) hne
      rw [zero5_row]
      by_cases hkP : k < P
      · have : ¬ 0 < row x k := fun h0 => h ⟨k, hkP, h0⟩
        omega
      · exact hx.out k (by omega)
  have hsome : ∃ i, i < T.length ∧ inC T x i = true := by
    obtain ⟨q, hq, h0⟩ := hpos
    obtain ⟨i, hi, h1, h2⟩ := evn_has (Nat.lt_of_lt_of_le h0 (hx.rng q hq))
    exact ⟨i, hi, (inC_iff h1).2 (by omega)⟩
  obtain ⟨i, hi, hci, hmax⟩ := last_in hsome
  obtain ⟨p, hp, hpP⟩ := pr_nat hk hi
  have hpP' : p < P := by omega
  have hlt := (inC_iff hp).1 hci
  have hlast : nth T i + 1 = row x p := by
    obtain ⟨j, hj, h1, h2⟩ := evn_has (m := row x p - 1) (Nat.lt_of_lt_of_le (show row x p - 1 < row x p by omega) (hx.rng p hpP'))
    have hjc : inC T x j = true := (inC_iff h1).2 (by omega)
    have hji := hmax j hj hjc
    by_cases e : j = i
    · subst e; omega
    · have := nth_step (T := T) (show j < i by omega) (by rw [h1, hp])
      omega
  have hpl : p < x.length := by rw [hx.len]; omega
  have hyl : (x.set p (row x p - 1)).length = 5 := by simp [hx.len]
  have hyr : ∀ k, row (x.set p (row x p - 1)) k = if p = k then row x p - 1 else row x k := fun k => by
    rw [row_set]
    by_cases e : p = k
    · subst e; rw [if_pos ⟨rfl, hpl⟩, if_pos rfl]
    · rw [if_neg (fun h => e h.1), if_neg e]
  have hin : ∀ j, j < T.length → (inC T (x.set p (row x p - 1)) j = true ↔ inC T x j = true ∧ j ≠ i) := fun j hj => by
    obtain ⟨q, hq, _⟩ := pr_nat hk hj
    rw [inC_iff hq, inC_iff hq, hyr]
    by_cases e : p = q
    · subst e
      rw [if_pos rfl]
      constructor
      · intro h
        exact ⟨by omega, fun e => by subst e; omega⟩
      · rintro ⟨h1, h2⟩
        have hji := hmax j hj ((inC_iff hq).2 h1)
        have := nth_step (T := T) (show j < i by omega) (by rw [hq, hp])
        omega
    · rw [if_neg e]
      exact ⟨fun h => ⟨h, fun e2 => by subst e2; rw [hp] at hq; omega⟩, fun h => h.1⟩
  refine ⟨x.set p (row x p - 1), p, hpP', ⟨hyl, fun k hkP => ?_, fun k hkP => ?_, ?_⟩, ?_⟩
  · rw [hyr]
    have := hx.rng k hkP
    split
    · rename_i e; subst e; omega
    · exact this
  · rw [hyr, if_neg (by omega)]; exact hx.out k hkP
  · have hw := hx.wh
    unfold whB at hw ⊢
    rw [whTo_iff] at hw ⊢
    intro j hj hjc hf
    obtain ⟨h1, h2⟩ := (hin j hj).1 hjc
    have hji := hmax j hj h1
    have hfj := hk.fmI j hj
    refine (hin _ (by omega)).2 ⟨hw j hj h1 hf, by omega⟩
  · refine row_ext (by rw [nx_length, hyl, hx.len]) fun k => ?_
    rw [nx_row (by rw [hyl]; omega), hyr]
    by_cases e : p = k
    · subst e; rw [if_pos rfl, if_pos rfl]; omega
    · rw [if_neg e, if_neg e]; rfl
theorem sum_set (x : List Nat) (p : Nat) (hp : p < x.length) : (nx x p).sum = x.sum + 1 := by
  induction x generalizing p with
  | nil => simp at hp
  | cons a x ih =>
    cases p with
    | zero => simp [nx, row]; omega
    | succ p =>
      have := ih p (by simpa using hp)
      simp only [nx, row, List.set_cons_succ, List.getElem?_cons_succ, List.sum_cons] at this ⊢
      omega
theorem all_found {P : Nat} {T : List (Int × Int)} (hk : TOk (P : Int) T) {L : List (List Nat)} (h0 : zero5 ∈ L) (hc : ∀ c, c ∈ L → ∀ p, p < P → Gd P T (nx c p) → nx c p ∈ L) : ∀ (s : Nat) (x : List Nat), x.sum = s → Gd P T x → x ∈ L := by
  have hP5 : P ≤ 5 := by have := hk.p5; omega
  intro s
  induction s with
  | zero =>
    intro x hs hx
    by_cases e : x = zero5
    · exact e ▸ h0
    · obtain ⟨y, p, hp, hy, rfl⟩ := gd_pred hk hx e
      rw [sum_set y p (by rw [hy.len]; omega)] at hs
      omega
  | succ s ih =>
    intro x hs hx
    by_cases e : x = zero5
    · exact e ▸ h0
    · obtain ⟨y, p, hp, hy, rfl⟩ := gd_pred hk hx e
      rw [sum_set y p (by rw [hy.len]; omega)] at hs
      exact hc y (ih y (by omega) hy) p hp hx
theorem nodup_le {α : Type} [DecidableEq α] : ∀ {A B : List α}, A.Nodup → (∀ x, x ∈ A → x ∈ B) → A.length ≤ B.length := by
  intro A
  induction A with
  | nil => intro B _ _; simp
  | cons a A ih =>
    intro B hn hs
    obtain ⟨h1, h2⟩ := List.nodup_cons.1 hn
    have ha := hs a (List.mem_cons_self ..)
    have := ih (B := B.erase a) h2 (fun x hx => (List.mem_erase_of_ne (fun (e : x = a) => h1 (e ▸ hx))).2 (hs x (List.mem_cons_of_mem _ hx)))
    rw [List.length_erase_of_mem ha] at this
    have hb := List.length_pos_of_mem ha
    simp only [List.length_cons]
    omega
theorem pad_inj {P : Nat} {c d : List Nat} (hP : P ≤ 5) (hc : c.length = P) (hd : d.length = P) (h : pad c = pad d) : c = d :=
  row_ext (by omega) fun k => by rw [← pad_row (by omega), ← pad_row (c := d) (by omega), h]
/-- all whole cuts, in five places -/
def whs (P : Nat) (T : List (Int × Int)) : List (List Nat) := ((allL T P []).filter (whB T)).map pad
theorem whs_length (P : Nat) (T : List (Int × Int)) : (whs P T).length = cts T P [] := by unfold whs; rw [List.length_map, cts_len]
theorem mem_whs {P : Nat} {T : List (Int × Int)} (hP : P ≤ 5) (x : List Nat) : x ∈ whs P T ↔ Gd P T x := by
  unfold whs
  rw [List.mem_map]
  constructor
  · rintro ⟨c, hc, rfl⟩
    obtain ⟨h1, h2⟩ := List.mem_filter.1 hc
    obtain ⟨h3, _, h4⟩ := (mem_allL T P [] c).1 h1
    have hl : c.length = P := by simpa using h3
    refine ⟨rfl, fun p hp => by rw [pad_row (by omega)]; exact h4 p (by simp) (by omega), fun p hp => by rw [pad_row (by omega), row_out _ _ (by omega)], by rw [pad_wh (by omega)]; exact h2⟩
  · intro hx
    have hl : (x.take P).length = P := by rw [List.length_take, hx.len]; omega
    have hr : ∀ k, row (x.take P) k = row x k := fun k => by
      by_cases hk : k < P
      · unfold row; rw [List.getElem?_take, if_pos hk]
      · rw [row_out _ _ (by omega), hx.out k (by omega)]
    have hpad : pad (x.take P) = x := row_ext (by rw [hx.len]; rfl) fun k => by rw [pad_row (by omega), hr]
    refine ⟨x.take P, List.mem_filter.2 ⟨(mem_allL T P [] _).2 ⟨by simp [hx.len]; omega, fun p hp => by simp at hp, fun p _ hp => by rw [hr]; exact hx.rng p (by omega)⟩, ?_⟩, hpad⟩
    rw [← pad_wh (by omega), hpad]
    exact hx.wh
theorem whs_nodup {P : Nat} {T : List (Int × Int)} (hP : P ≤ 5) : (whs P T).Nodup := by
  unfold whs
  rw [List.nodup_iff_pairwise_ne, List.pairwise_map]
  refine List.Pairwise.imp_of_mem ?_ ((allL_nodup T P []).filter (whB T))
  intro c d hc hd hne e
  have h1 := ((mem_allL T P [] c).1 (List.mem_filter.1 hc).1).1
  have h2 := ((mem_allL T P [] d).1 (List.mem_filter.1 hd).1).1
  exact hne (pad_inj hP (by simpa using h1) (by simpa using h2) e)
theorem found_le {P : Nat} {T : List (Int × Int)} (hk : TOk (P : Int) T) {L : List (List Nat)} (hn : L.Nodup) (hg : ∀ c, c ∈ L → Gd P T c) : L.length ≤ cts T P [] := by
  have hP5 : P ≤ 5 := by have := hk.p5; omega
  rw [← whs_length]
  exact nodup_le hn fun x hx => (mem_whs hP5 x).2 (hg x hx)
theorem found_all {P : Nat} {T : List (Int × Int)} (hk : TOk (P : Int) T) {L : List (List Nat)} (hn : L.Nodup) (hg : ∀ c, c ∈ L → Gd P T c) (h0 : zero5 ∈ L) (hc : ∀ c, c ∈ L → ∀ p, p < P → Gd P T (nx c p) → nx c p ∈ L) : L.length = cts T P [] := by
  have hP5 : P ≤ 5 := by have := hk.p5; omega
  refine Nat.le_antisymm (found_le hk hn hg) ?_
  rw [← whs_length]
  exact nodup_le (whs_nodup hP5) fun x hx => all_found hk h0 hc _ x rfl ((mem_whs hP5 x).1 hx)
end M
end Go.Proofs.YtlhpkpjcfjdgaaaDoor
