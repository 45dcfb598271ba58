/- THE LEAST WORD, ANISIMOV AND KNUTH (law FoldLeast), the walk. -/
import Derived.Test.YtbacngbcnkikiaaDoorFofc
import Derived.Test.YtbacngbcnkikiaaDoorRefBig
namespace Go.Proofs.YtbacngbcnkikiaaDoor
open Go.RowKit
namespace M
theorem nb_split {l : List Nat} {i : Nat} (h : i + 1 < l.length) : l = l.take i ++ row l i :: row l (i + 1) :: l.drop (i + 1 + 1) := by
  have e1 : l.take i ++ l.drop i = l := List.take_append_drop i l
  have e2 : l.drop i = l[i]'(by omega) :: l.drop (i + 1) := List.drop_eq_getElem_cons (by omega)
  have e3 : l.drop (i + 1) = l[i + 1]'(by omega) :: l.drop (i + 1 + 1) := List.drop_eq_getElem_cons (by omega)
  have r1 : row l i = l[i]'(by omega) := by simp [row, show i < l.length by omega]
  have r2 : row l (i + 1) = l[i + 1]'(by omega) := by simp [row, h]
  rw [r1, r2, ← e3, ← e2]
  exact e1.symm
theorem lw_nb {F : List Nat} (hf : Fr (fr F)) {m : Nat} {w : List Nat} (hm : ∀ x, x ∈ w → x < m) {i : Nat} (h : i + 1 < (lword (fr F) m w).length) (hlt : row (lword (fr F) m w) (i + 1) < row (lword (fr F) m w) i) : fr F (row (lword (fr F) m w) i) (row (lword (fr F) m w) (i + 1)) = false := by
  cases e : fr F (row (lword (fr F) m w) i) (row (lword (fr F) m w) (i + 1)) with
  | false => rfl
  | true =>
    have := lex_swap hf hm (nb_split h) e
    omega
theorem lex_at : ∀ {a b : List Nat} {i : Nat}, Lex a b → (∀ j, j < i → row a j = row b j) → i < a.length → row a i ≠ row b i → row a i < row b i
  | [], _, _, _, _, h, _ => absurd h (Nat.not_lt_zero _)
  | _ :: _, [], _, h, _, _, _ => h.elim
  | x :: r, y :: s, i, h, hj, hi, hne => by
    cases i with
    | zero =>
      rcases h with h | ⟨h, _⟩
      · simpa [row] using h
      · exact absurd (by simpa [row] using h) hne
    | succ i =>
      have h0 : x = y := by simpa [row] using hj 0 (by omega)
      rcases h with h | ⟨_, h⟩
      · omega
      · have := lex_at (i := i) h (fun j hj2 => by simpa [row] using hj (j + 1) (by omega)) (by simpa using hi) (by simpa [row] using hne)
        simpa [row] using this
end M
theorem lw_ok {F v : List Nat} (hF : FOk F) (hV : WOk F v) : WOk F (M.lword (M.fr F) F.length v) := ⟨by rw [M.lword_length hF.fr hV.lt]; exact hV.len, M.lword_mem hF.fr hV.lt⟩
theorem lw_same {F v : List Nat} (hF : FOk F) (hV : WOk F v) : sameW F (M.lword (M.fr F) F.length v) v = true := (sameW_iff hF (lw_ok hF hV) hV).2 (M.lword_eqv hF.fr hV.lt)
set_option maxRecDepth 100000 in
set_option maxHeartbeats 8000000 in
theorem fl_walk (zs : List Int) (p : Option Addr) (n cap : Nat) (vs : List Int) (q : Option Addr) (m cap2 : Nat) (us : List Int) (q3 : Option Addr) (m3 cap3 : Nat) (w : World) (he : Env w) (hl : zs.length = n) (hmax : n ≤ maxLen) (hc : HasI zs p w) (_ : ∀ k : Nat, zs[k]?.getD 0 < 9223372036854775808) (hl2 : vs.length = m) (hmax2 : m ≤ maxLen) (hd : HasI vs q w) (_ : ∀ k : Nat, vs[k]?.getD 0 < 9223372036854775808) (hl3 : us.length = m3) (hmax3 : m3 ≤ maxLen) (hf : HasI us q3 w) (_ : ∀ k : Nat, us[k]?.getD 0 < 9223372036854775808) :
    Calls Tryd.prog 7 #[.slice p n cap, .slice q m cap2, .slice q3 m3 cap3] w fun e w' => e = .returned (.bool true) ∧ Below w.heap.size w w' := by
  go_enter Tryd.func7, Tryd.ntmps7
  go_wp2_with fail
  refine (foldFact_ok _ he).mono ?_
  rintro e w1 ⟨rfl, hB1⟩
  go_wp2_with fail
  by_cases h0 : wcode zs vs = 0
  · obtain ⟨F, v, rfl, rfl, hF, hV⟩ := wcode_get h0
    rw [ints_length] at hl hl2
    have hm : m ≤ 24 := hl2 ▸ hV.len
    have hn6 := hF.len
    refine (fleast_ok F v p n cap q m cap2 _ hl (he.later hB1) hF (hc.later hB1) hl2 hV (hd.later hB1)).mono ?_
    have hLok := lw_ok hF hV
    have hLs := lw_same hF hV
    have hLl : (M.lword (M.fr F) F.length v).length = m := by rw [M.lword_length hF.fr hV.lt, hl2]
    have hnb := fun i h1 h2 => M.lw_nb hF.fr (m := F.length) (w := v) hV.lt (i := i) h1 h2
    have hLx : ∀ u, M.Eqv (M.fr F) u v → M.Lex (M.lword (M.fr F) F.length v) u := fun u h => M.lword_lex hF.fr hV.lt h
    have hLe : ∀ u, WOk F u → M.Eqv (M.fr F) u v → M.lword (M.fr F) n u = M.lword (M.fr F) F.length v := fun u h1 h => by rw [← hl]; exact (M.lword_iff hF.fr h1.lt hV.lt).1 h
    rw [← hl]
    obtain ⟨L, hL⟩ : ∃ L, M.lword (M.fr F) F.length v = L := ⟨_, rfl⟩
    rw [hL] at hLok hLs hLl hnb hLx hLe
    rw [hL]
    have HLX : Hid (∀ u, M.Eqv (M.fr F) u v → M.Lex L u) := hLx
    have HLE : Hid (∀ u, WOk F u → M.Eqv (M.fr F) u v → M.lword (M.fr F) n u = L) := hLe
    have HNB : Hid (∀ i, i + 1 < L.length → M.row L (i + 1) < M.row L i → M.fr F (M.row L i) (M.row L (i + 1)) = false) := hnb
    clear hLx hLe hL hnb hmax hmax2 h0
    rw [hl]
    rintro e w2 ⟨A, rfl, hr, hA, hB2⟩
    have hC2 := bel_on hB1 hB2
    clear hB1 hB2
    go_wp2_with fail
    refine (fsame_ok F L v p n cap _ m m q m cap2 _ hl (he.later hC2) hF (hc.later hC2) hLl hLok hr.hasI hl2 hV (hd.later hC2)).mono ?_
    rw [hLs]
    rintro e w3 ⟨rfl, hB3⟩
    have hC3 := bel_on hC2 hB3
    have hr3 := hr.below hB3 hr.lt
    have hmm : (m != m) = false := by simp
    have hmm' : ((m : Int) != (m : Int)) = false := by simp
    clear hr hC2 hB3
    go_wp2_with fail
    go_loopw [12] (fun v wr => ∃ i : Nat, v = .int .i64 i ∧ 1 ≤ i ∧ Below w3.heap.size w3 wr) (fun v _ => m - (intOf v).toNat)
    case atStart => exact ⟨1, rfl, Nat.le_refl _, Below.refl _ _⟩
    case round =>
      obtain ⟨i, rfl, hi, hB⟩ := hrel
      by_cases hlt : i < m
      · obtain ⟨i1, hi1⟩ : ∃ i1, i = i1 + 1 := ⟨i - 1, by omega⟩
        have hrr := hr3.below hB hr3.lt
        have hcx := hrr.cell (k := i1) (by omega)
        have hcy := hrr.cell (k := i) (by omega)
        have hxl := hLok.row (i := i1) (by omega)
        have hyl := hLok.row (i := i) (by omega)
        have hrl := hrr.lt
        have hnb := HNB.out i1 (by omega)
        rw [← hi1] at hnb
        obtain ⟨x, hx⟩ : ∃ x, M.row L i1 = x := ⟨_, rfl⟩
        obtain ⟨y, hy⟩ : ∃ y, M.row L i = y := ⟨_, rfl⟩
        rw [hx] at hcx hxl hnb
        rw [hy] at hcy hyl hnb
        have hii : (i : Int) - 1 = (i1 : Int) := by omega
        have him : (i1 : Int) < (m : Int) := by omega
        have hC4 := bel_on hC3 hB
        obtain ⟨bf, of, rfl, hbf, hcf⟩ := (hc.later hC4) x (by rw [ints_length]; omega)
        rw [ints_get] at hcf
        have hfl := hF.lt x
        have hbit := fun W => bit_big (M.row F x) y W (by omega) (by omega)
        rw [show (M.row F x).testBit y = M.fr F x y from rfl] at hbit
        obtain ⟨z, hz⟩ : ∃ z, M.row F x = z := ⟨_, rfl⟩
        rw [hz] at hcf hbit
        have hxn : (x : Int) < (n : Int) := by omega
        have HB : Hid (Below w3.heap.size w3 wr) := hB
        clear hx hy hz hfl hi1 hrr hC4
        by_cases hyx : y < x
        · have d1 : decide ((y : Int) < (x : Int)) = true := decide_eq_true (by omega)
          have d1' : decide (y < x) = true := decide_eq_true hyx
          rw [hnb hyx] at hbit
          clear hnb hyx
          go_wp2_with fail
          go_big_quiet ((go_at_call 23; exact Calls.quiet_of_same ((hbit _).mono (fun e w' h => ⟨h.1, h.2.symm⟩))))
          go_wp2_with fail
          go_roundw
          case rel => exact ⟨i + 1, by go_num, by omega, bel_drN HB.out _⟩
          case measure => simp [intOf]; omega
        · have d1 : decide ((y : Int) < (x : Int)) = false := decide_eq_false (by omega)
          have d1' : decide (y < x) = false := decide_eq_false hyx
          clear hnb hyx hbit
          go_wp2_with fail
          go_big_quiet (fail)
          go_wp2_with fail
          go_roundw
          case rel => exact ⟨i + 1, by go_num, by omega, bel_drN HB.out _⟩
          case measure => simp [intOf]; omega
      · have hdi : decide ((i : Int) < (m : Int)) = false := decide_eq_false (by omega)
        have hdi' : decide (i < m) = false := decide_eq_false hlt
        obtain ⟨w4, hw4⟩ : ∃ w4, w4 = wr := ⟨_, rfl⟩
        subst hw4
        have hC4 := bel_on hC3 hB
        have hr4 := hr3.below hB hr3.lt
        clear hr3 hC3 hB HNB
        go_wp2_with fail
        by_cases h0 : wcode (ints F) us = 0
        · obtain ⟨F', u, eF, rfl, _, hU⟩ := wcode_get h0
          obtain rfl := ints_inj eF
          rw [ints_length] at hl3
          refine (fsame_ok F u v p n cap q3 m3 cap3 q m cap2 _ hl (he.later hC4) hF (hc.later hC4) hl3 hU (hf.later hC4) hl2 hV (hd.later hC4)).mono ?_
          cases hsw : sameW F u v with
          | false =>
            rintro e w5 ⟨rfl, hB5⟩
            have HC : Hid (Below _ _ _) := bel_on hC4 hB5
            clear h0 eF hsw hC4 hB5
            go_wp2_with fail
            go_ret
            exact ⟨rfl, HC.out⟩
          | true =>
            have hev := (sameW_iff hF hU hV).1 hsw
            have hlx := HLX.out u hev
            have hle := HLE.out u hU hev
            have hmm3 : m3 = m := by rw [← hl3, ← hl2]; exact hev.length hF.fr
            subst hmm3
            rintro e w5 ⟨rfl, hB5⟩
            have hC5 := bel_on hC4 hB5
            have hr5 := hr4.below hB5 hr4.lt
            have HX : Hid (M.Lex L u) := hlx
            have HE : Hid (M.lword (M.fr F) n u = L) := hle
            clear h0 eF hsw hC4 hB5 hlx hle hr4 hev HLX HLE hmax3
            go_wp2_with fail
            refine (fleast_ok F u p n cap q3 m3 cap3 _ hl (he.later hC5) hF (hc.later hC5) hl3 hU (hf.later hC5)).mono ?_
            rw [HE.out]
            rintro e w6 ⟨B, rfl, hr6, hBA, hB6⟩
            have hC6 := bel_on hC5 hB6
            have hr6a := hr5.below hB6 hr5.lt
            clear hr5 hC5 hB6
            go_wp2_with fail
            refine (eints_any (ints L) (ints L) _ _ m3 m3 m3 m3 _ (by rw [ints_length]; exact hLl) (by rw [ints_length]; exact hLl) (by unfold maxLen; omega) (by unfold maxLen; omega) hr6.hasI hr6a.hasI).mono ?_
            rw [show (ints L == ints L) = true by simp]
            rintro e w7 ⟨rfl, hB7⟩
            have hC7 := bel_on hC6 hB7
            have hr7 := hr6a.below hB7 hr6a.lt
            clear hr6 hr6a hC6 hB7
            go_wp2_with fail
            go_loopw [17] (fun v wr => ∃ i : Nat, v = .int .i64 i ∧ i ≤ m3 ∧ Hid (∀ j, j < i → M.row L j = M.row u j) ∧ Below w7.heap.size w7 wr) (fun v _ => m3 - (intOf v).toNat)
            case atStart => exact ⟨0, rfl, Nat.zero_le _, show ∀ j, j < 0 → _ from fun j hj => absurd hj (Nat.not_lt_zero _), Below.refl _ _⟩
            case round =>
              clear hdi hdi' hlt
              obtain ⟨k, rfl, hk, hJ, hB⟩ := hrel
              by_cases hlt : k < m3
              · have hrr := hr7.below hB hr7.lt
                have hcx := hrr.cell (k := k) (by omega)
                have hrl := hrr.lt
                have hC8 := bel_on hC7 hB
                obtain ⟨bu, ou, rfl, hbu, hcu⟩ := (hf.later hC8) k (by rw [ints_length]; omega)
                rw [ints_get] at hcu
                have hat := M.lex_at HX.out hJ.out (by omega : k < L.length)
                have hnx : M.row L k = M.row u k → Hid (∀ j, j < k + 1 → M.row L j = M.row u j) := fun h j hj => by
                  by_cases e : j = k
                  · subst e; exact h
                  · exact hJ.out j (by omega)
                obtain ⟨x, hx⟩ : ∃ x, M.row L k = x := ⟨_, rfl⟩
                obtain ⟨y, hy⟩ : ∃ y, M.row u k = y := ⟨_, rfl⟩
                rw [hx] at hcx hat hnx
                rw [hy] at hcu hat hnx
                have HB : Hid (Below w7.heap.size w7 wr) := hB
                have HC8 : Hid (Below w.heap.size w wr) := hC8
                have hxy64 : k < m3 := hlt
                clear hrr hC8 hx hy hJ hB
                by_cases hxy : x = y
                · have HN := hnx hxy
                  have d1 : ((x : Int) != (y : Int)) = false := by simp; omega
                  clear hxy hat hnx
                  go_wp2_with fail
                  go_big_quiet (fail)
                  go_wp2_with fail
                  go_roundw
                  case rel => exact ⟨k + 1, by go_num, by omega, HN, bel_drN HB.out _⟩
                  case measure => simp [intOf]; omega
                · have hlt2 := hat hxy
                  have d1 : ((x : Int) != (y : Int)) = true := by simp; omega
                  have d2 : decide ((x : Int) < (y : Int)) = true := decide_eq_true (by omega)
                  have d2' : decide (x < y) = true := decide_eq_true hlt2
                  clear hxy hat hnx
                  go_wp2_with fail
                  go_big_quiet (fail)
                  go_wp2_with fail
                  go_big_quiet (fail)
                  go_wp2_with fail
                  go_ret
                  exact ⟨rfl, bel_drN (bel_drN HC8.out _) _⟩
              · obtain rfl : k = m3 := by omega
                go_wp2_with fail
                go_ret
                exact ⟨rfl, bel_on hC7 hB⟩
        · obtain ⟨c, hcc⟩ : ∃ c, wcode (ints F) us = c := ⟨_, rfl⟩
          have hne : c ≠ 0 := by rw [← hcc]; exact h0
          refine (fsame_err (ints F) p n cap us q3 m3 cap3 (ints v) q m cap2 _ (by rw [ints_length]; exact hl) (he.later hC4) (by unfold maxLen; omega) (hc.later hC4) hl3 hmax3 (hf.later hC4) (by rw [ints_length]; exact hl2) (by unfold maxLen; omega) (hd.later hC4) c (by unfold scode; rw [if_neg h0]; exact hcc) hne).mono ?_
          rintro e w5 ⟨rfl, hB5⟩
          have HB : Hid (Below _ _ _) := bel_on hC4 hB5
          clear h0 hne hcc
          unfold errC
          go_wp2_with fail
          go_ret
          exact ⟨rfl, HB.out⟩
  · obtain ⟨c, hcc⟩ : ∃ c, wcode zs vs = c := ⟨_, rfl⟩
    have hne : c ≠ 0 := by rw [← hcc]; exact h0
    refine (fleast_err zs p n cap vs q m cap2 _ hl (he.later hB1) hmax (hc.later hB1) hl2 hmax2 (hd.later hB1) c hcc hne).mono ?_
    rintro e w2 ⟨rfl, hB2⟩
    have HB : Hid (Below _ _ _) := bel_on hB1 hB2
    clear h0 hne hcc
    unfold errC
    go_wp2_with fail
    go_ret
    exact ⟨rfl, HB.out⟩
end Go.Proofs.YtbacngbcnkikiaaDoor
