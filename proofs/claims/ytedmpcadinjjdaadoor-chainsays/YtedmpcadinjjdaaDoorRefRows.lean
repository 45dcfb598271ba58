/- The document's own rows (package whensteadref1, rows and Rows): thing by thing, each tried in each row that is in use and in one more; what it comes to is what the plain search comes to; at orders of at most twelve things; what lay in memory lies as it lay. -/
import Derived.Test.YtedmpcadinjjdaaDoorRefSide
import Derived.Test.YtedmpcadinjjdaaDoorAppAny
import Derived.Test.YtedmpcadinjjdaaDoorSame
import Derived.Deep.CutRange
namespace Go.Proofs.YtedmpcadinjjdaaDoor
open Go.RowKit

theorem has_of_owns2 {w : World} {base n : Nat} {v : Value} {m : List Nat} (hm : m.length = n) (h : w.ownsRow base 3 1 v n (cellsOf m n)) : ∃ p cap, v = .slice p n cap ∧ Has (ints m) p w ∧ (p = none → n = 0 ∧ cap = 0) := by
  have h2 := has_of_owns hm h
  obtain ⟨p, cap, rfl, hh⟩ := h2
  refine ⟨p, cap, rfl, hh, fun e => ?_⟩
  subst e
  rcases h.2 with ⟨e1, e2⟩ | ⟨g, cap', cur, e1, _⟩
  · cases e1; exact ⟨rfl, rfl⟩
  · cases e1
theorem has_cells {told : List Nat} {p : Option Addr} {w : World} (h : Has (ints told) p w) {i : Nat} (hti : told.length = i) : ∀ ad, p = some ad → ∀ j u, (cellsOf told i)[j]? = some u → w.cell? (ad.add j) = some u := by
  intro ad hp j u hu
  have hj : j < i := by
    have := (List.getElem?_eq_some_iff.1 hu).1
    simp [cellsOf] at this; omega
  obtain ⟨b, off, e, _, hc⟩ := h j (by rw [ints_length]; omega)
  rw [hp] at e
  cases e
  rw [addr_add, hc, ints_get]
  unfold cellsOf at hu
  rw [List.getElem?_map, List.getElem?_take, if_pos hj, List.getElem?_eq_getElem (by omega)] at hu
  simp at hu
  rw [← hu]
  simp [M.row, show j < told.length by omega]
theorem cellsOf_one (told : List Nat) (i : Nat) : ∀ u ∈ cellsOf told i, u.oneCell' = true := by
  intro u hu
  unfold cellsOf at hu
  obtain ⟨x, _, rfl⟩ := List.mem_map.1 hu
  rfl
theorem cellsOf_len (told : List Nat) {i : Nat} (h : told.length = i) : (cellsOf told i).length = i * 1 := by simp [cellsOf, h]
def fitsTo (c told : List Nat) (k : Nat) : Nat → Bool
  | 0 => true
  | j + 1 => fitsTo c told k j && (M.row told j != k || M.near c told.length j)
theorem fitsTo_all (c told : List Nat) (k : Nat) : fitsTo c told k told.length = M.fits c told k := by
  have : ∀ j, fitsTo c told k j = (List.range j).all fun j => M.row told j != k || M.near c told.length j := by
    intro j
    induction j with
    | zero => rfl
    | succ j ih => simp only [fitsTo]; rw [ih, List.range_succ, List.all_append]; simp
  exact this _
theorem fitsTo_false {c told : List Nat} {k j n : Nat} (h : fitsTo c told k j = false) (hj : j ≤ n) : fitsTo c told k n = false := by
  induction n with
  | zero => obtain rfl : j = 0 := by omega
            exact h
  | succ n ih =>
    by_cases e : j = n + 1
    · subst e; exact h
    · simp only [fitsTo]; rw [ih (by omega)]; rfl
theorem nxt_take {told : List Nat} {j nv : Nat} (hj : j < told.length) (h : nv = M.nxt (told.take j)) : M.nxt (told.take (j + 1)) = max nv (M.row told j + 1) := by
  rw [List.take_succ_eq_append_getElem hj, M.nxt_snoc, ← h]
  congr 2
  simp [M.row, hj]

theorem cellsOf_snoc (told : List Nat) (k : Nat) {i : Nat} (h : told.length = i) : cellsOf (told ++ [k]) (i + 1) = cellsOf told i ++ [.int .i64 (k : Nat)] := by
  unfold cellsOf
  rw [← h, List.take_of_length_le (by simp), List.take_length, List.map_append]
  rfl
set_option maxRecDepth 100000 in
set_option maxHeartbeats 4000000 in
theorem refrows_any (c : List Nat) (pc : Option Addr) (n capc most : Nat) (hl : c.length = n) (hok : M.Ok c) (hn : n ≤ 12) (hmost : most ≤ 12) (d : Nat) :
    ∀ (i : Nat) (told : List Nat) (p : Option Addr) (cap : Nat) (w : World), told.length = i → i + d = n → (p = none → i = 0 ∧ cap = 0) → (∀ x, x ∈ told → x < 12) → Has (ints told) p w → Has (ints c) pc w →
    Calls Tryd.prog 43 #[.slice pc n capc, .slice p i cap, .int .i64 (most : Nat)] w fun e w' => Below w.heap.size w w' ∧
      ((∃ r p' cap', M.srch c most d told = some r ∧ r.length = n ∧ e = .returned (.slice p' n cap') ∧ Has (ints r) p' w') ∨ (M.srch c most d told = none ∧ e = .returned (.slice none 0 0))) := by
  have hpw := pow_lt n hn
  have hcb : ∀ i, M.row c i < 65536 := fun i => by have := hok i; rw [hl] at this; omega
  induction d with
  | zero =>
    intro i told p cap w hti hid hnone hlt hp hc
    obtain rfl : i = n := by omega
    go_enter Tryd.func43, Tryd.ntmps43
    go_wp2
    go_ret
    exact ⟨Below.refl _ _, .inl ⟨told, p, cap, rfl, hti, rfl, hp⟩⟩
  | succ d ih =>
    intro i told p cap w hti hid hnone hlt hp hc
    have hin : i < n := by omega
    have hne : ((i : Int) == n) = false := by simp; omega
    obtain ⟨i0, hi, hz0, hz1, hz2⟩ := info_parts Tryd.info3
    have htl : ∀ j, j < i → M.row told j < 12 := fun j hj => hlt _ (M.row_mem (by omega))
    go_enter Tryd.func43, Tryd.ntmps43
    go_wp2
    go_loop [8, 9] (fun u v => ∃ j nv : Nat, u = .int .i64 nv ∧ v = .int .i64 j ∧ j ≤ i ∧ nv ≤ 12 ∧ Hid (nv = M.nxt (told.take j))) (fun _ v => i - (intOf v).toNat)
    case atStart => exact ⟨0, 0, rfl, rfl, Nat.zero_le _, by omega, (by simp [M.nxt] : 0 = M.nxt (told.take 0))⟩
    case round =>
      obtain ⟨j, nv, rfl, rfl, hji, hnv, hnx⟩ := hrel
      by_cases hj : j < i
      · obtain ⟨b, off, hpp, hb, hcell⟩ := hp j (by rw [ints_length]; omega)
        subst hpp
        rw [ints_get] at hcell
        have h1 := htl j hj
        have h2 := nxt_take (told := told) (j := j) (by omega) hnx.out
        obtain ⟨x, hx⟩ : ∃ x, M.row told j = x := ⟨_, rfl⟩
        rw [hx] at hcell h1 h2
        clear hx
        have H2 : Hid (M.nxt (told.take (j + 1)) = max nv (x + 1)) := h2
        clear h2
        by_cases hge : nv ≤ x
        · have e1 : decide (nv ≤ x) = true := decide_eq_true hge
          go_wp2
          go_round
          case rel => exact ⟨j + 1, x + 1, by go_num, by go_num, by omega, by omega, (by rw [H2.out]; omega : x + 1 = M.nxt (told.take (j + 1)))⟩
          case measure => simp [intOf]; omega
        · have e1 : decide (nv ≤ x) = false := decide_eq_false hge
          go_wp2
          go_round
          case rel => exact ⟨j + 1, nv, rfl, by go_num, by omega, by omega, (by rw [H2.out]; omega : nv = M.nxt (told.take (j + 1)))⟩
          case measure => simp [intOf]; omega
      · obtain rfl : j = i := by omega
        have HN : Hid (nv = M.nxt told) := (by rw [hnx.out, ← hti, List.take_length] : nv = M.nxt told)
        have HNo : Hid (p = none → j = 0 ∧ cap = 0) := hnone
        clear hnx hnone
        go_wp2_with fail
        go_loopw [10] (fun v wr => ∃ k : Nat, v = .int .i64 k ∧ k ≤ nv + 1 ∧ k ≤ most ∧ Hid (∀ u, u < k → M.try1 c most d told u = none) ∧ Below w.heap.size w wr) (fun v _ => 20 - (intOf v).toNat)
        case atStart => exact ⟨0, rfl, Nat.zero_le _, Nat.zero_le _, (fun u hu => by omega : ∀ u, u < 0 → _), Below.refl _ _⟩
        case round =>
          obtain ⟨k, rfl, hkn, hkm, hno, hB⟩ := hrel
          by_cases hk : k ≤ nv ∧ k < most
          · obtain ⟨hk1, hk2⟩ := hk
            have e1 : decide (k ≤ nv) = true := decide_eq_true hk1
            have e2 : decide (k < most) = true := decide_eq_true hk2
            have hp2 := hp.later hB
            have hc2 := hc.later hB
            go_wp2_with fail
            go_loop [11, 12] (fun u v => ∃ (t : Nat) (b : Bool), u = .bool b ∧ v = .int .i64 t ∧ t ≤ j ∧ Hid (b = fitsTo c told k t)) (fun _ v => j - (intOf v).toNat)
            case atStart => exact ⟨0, true, rfl, rfl, Nat.zero_le _, (rfl : true = fitsTo c told k 0)⟩
            case round =>
              obtain ⟨t, b, rfl, rfl, htj, hbt⟩ := hrel
              cases b with
              | false =>
                have hf : Hid (M.fits c told k = false) := (by rw [← fitsTo_all]; exact fitsTo_false hbt.out.symm (by omega) : M.fits c told k = false)
                by_cases ht : t < j
                · have e3 : decide (t < j) = true := decide_eq_true ht
                  go_wp2_with fail
                  go_roundw
                  case rel => exact ⟨k + 1, by go_num, by omega, by omega, (fun u hu => by
                    by_cases e : u = k
                    · rw [e]; exact M.try1_no hf.out
                    · exact hno.out u (by omega) : ∀ u, u < k + 1 → _), hB⟩
                  case measure => simp [intOf]; omega
                · have e3 : decide (t < j) = false := decide_eq_false ht
                  go_wp2_with fail
                  go_roundw
                  case rel => exact ⟨k + 1, by go_num, by omega, by omega, (fun u hu => by
                    by_cases e : u = k
                    · rw [e]; exact M.try1_no hf.out
                    · exact hno.out u (by omega) : ∀ u, u < k + 1 → _), hB⟩
                  case measure => simp [intOf]; omega
              | true =>
                by_cases ht : t < j
                · have e3 : decide (t < j) = true := decide_eq_true ht
                  obtain ⟨b1, off1, hpp, hb1, hcell⟩ := hp2 t (by rw [ints_length]; omega)
                  subst hpp
                  rw [ints_get] at hcell
                  obtain ⟨b2, off2, hpc, hb2, hcc⟩ := hc2 j (by rw [ints_length]; omega)
                  obtain ⟨b3, off3, hpc3, hb3, hct⟩ := hc2 t (by rw [ints_length]; omega)
                  subst hpc
                  obtain ⟨rfl, rfl⟩ : b3 = b2 ∧ off3 = off2 := by cases hpc3; exact ⟨rfl, rfl⟩
                  rw [ints_get] at hcc hct
                  have hs1 := hcb j
                  have hs2 := hcb t
                  have hx1 := htl t ht
                  have hnx2 : Hid (fitsTo c told k (t + 1) = (M.row told t != k || ((M.row c j).testBit t || (M.row c t).testBit j))) := (by
                    simp only [fitsTo]; rw [← hbt.out, hti]; rfl : fitsTo c told k (t + 1) = _)
                  obtain ⟨x, hx⟩ : ∃ x, M.row told t = x := ⟨_, rfl⟩
                  obtain ⟨s1, hs1d⟩ : ∃ x, M.row c j = x := ⟨_, rfl⟩
                  obtain ⟨s2, hs2d⟩ : ∃ x, M.row c t = x := ⟨_, rfl⟩
                  rw [hx] at hcell hx1 hnx2
                  rw [hs1d] at hcc hs1 hnx2
                  rw [hs2d] at hct hs2 hnx2
                  clear hx hs1d hs2d hpc3
                  have hy1 := bit_any s1 t wr hs1 (by omega)
                  have hy2 := bit_any s2 j wr hs2 (by omega)
                  obtain ⟨y1, hy1d⟩ : ∃ y, s1.testBit t = y := ⟨_, rfl⟩
                  obtain ⟨y2, hy2d⟩ : ∃ y, s2.testBit j = y := ⟨_, rfl⟩
                  rw [hy1d] at hy1 hnx2
                  rw [hy2d] at hy2 hnx2
                  clear hy1d hy2d
                  by_cases hxk : x = k
                  · have e4 : ((x : Int) != (k : Int)) = false := by simp; omega
                    have HX : Hid (fitsTo c told k (t + 1) = (y1 || y2)) := (by rw [hnx2.out, hxk]; simp : fitsTo c told k (t + 1) = (y1 || y2))
                    clear hxk hnx2
                    cases y1 with
                    | true =>
                      go_wp2_with fail
                      refine hy1.mono ?_
                      rintro e w5 ⟨rfl, rfl⟩
                      go_wp2_with fail
                      go_round
                      case rel => exact ⟨t + 1, true, rfl, by go_num, by omega, (by rw [HX.out]; rfl : true = fitsTo c told k (t + 1))⟩
                      case measure => simp [intOf]; omega
                    | false =>
                      go_wp2_with fail
                      refine hy1.mono ?_
                      rintro e w5 ⟨rfl, rfl⟩
                      go_wp2_with fail
                      refine hy2.mono ?_
                      rintro e w5 ⟨rfl, rfl⟩
                      go_wp2_with fail
                      go_round
                      case rel => exact ⟨t + 1, y2, rfl, by go_num, by omega, (by rw [HX.out]; rfl : y2 = fitsTo c told k (t + 1))⟩
                      case measure => simp [intOf]; omega
                  · have e4 : ((x : Int) != (k : Int)) = true := by simp; omega
                    have HX : Hid (fitsTo c told k (t + 1) = true) := (by rw [hnx2.out]; simp [hxk] : fitsTo c told k (t + 1) = true)
                    clear hxk hnx2
                    go_wp2_with fail
                    go_round
                    case rel => exact ⟨t + 1, true, rfl, by go_num, by omega, HX.out.symm⟩
                    case measure => simp [intOf]; omega
                · have e3 : decide (t < j) = false := decide_eq_false ht
                  obtain rfl : t = j := by omega
                  have hf : M.fits c told k = true := by rw [← fitsTo_all, hti]; exact hbt.out.symm
                  have HT : Hid (M.try1 c most d told k = M.srch c most d (told ++ [k])) := M.try1_of hf
                  clear hf hbt
                  have hcl2 := has_cells hp2 hti
                  go_wp2_with (first
                    | (at_builtin; refine wpList_append_ownAny _ rfl _ _ 22 rfl w.heap.size 3 i0 (.int .i64 0) 1 8 Tryd.underlying22 hi hz0 hz1 hz2 rfl (by decide) _ 0 [] rfl (World.ownsRow_nil _ _ _ _) p t cap (cellsOf told t) rfl (cellsOf_len told hti) HNo.out hcl2 (cellsOf_one told t) (by unfold maxLen; omega) (by omega) hB.size ?_; intro v1 w1 hown1 hgrow1; have hBa : Below w.heap.size w w1 := hB.grown hgrow1 hB.size (fun u e => by cases e))
                    | (at_builtin; refine wpList_append_own _ rfl _ _ 22 rfl w.heap.size 3 i0 (.int .i64 0) 1 8 Tryd.underlying22 hi hz0 hz1 hz2 rfl (by decide) _ _ _ rfl (hown1.alloc _) ⟨w1.heap.size, 0, none⟩ 1 1 [.int .i64 (k : Nat)] rfl rfl (cell_one_new _ _ _) (by simp [Value.oneCell']) (by unfold maxLen; omega) (by omega) (by have := hBa.size; simp; omega) ?_; intro v2 w2 hown2 hgrow2 _))
                  have hBb : Below w.heap.size w w2 := (hBa.alloc hBa.size _).grown hgrow2 (by have := hBa.size; simp; omega) (fun u e => (hown1.lt u e).1)
                  rw [Nat.zero_add, List.nil_append, ← cellsOf_snoc told k hti] at hown2
                  obtain ⟨p2, cap2, rfl, hh2, hno2⟩ := has_of_owns2 (by simp [hti]) hown2
                  have hih := ih (t + 1) (told ++ [k]) p2 cap2 w2 (by simp [hti]) (by omega) hno2 (fun x hx => by
                    rcases List.mem_append.1 hx with h | h
                    · exact hlt x h
                    · rw [List.mem_singleton.1 h]; omega) hh2 (hc.later hBb)
                  refine hih.mono ?_
                  rintro e w3 ⟨hB3, hres⟩
                  have hBc := hBb.trans (hB3.mono hBb.size)
                  rcases hres with ⟨r, p3, cap3, hr, hrl, rfl, hh3⟩ | ⟨hr, rfl⟩
                  · have HH : Hid (M.srch c most (d + 1) told = some r) := M.srch_hit (by rw [← HN.out]; exact hk1) hk2 hno.out (by rw [HT.out]; exact hr)
                    clear hr
                    go_wp2_with fail
                    go_ret
                    exact ⟨hBc, .inl ⟨r, p3, cap3, HH.out, hrl, rfl, hh3⟩⟩
                  · have e5 : ((0 : Int) == (n : Int)) = false := by simp; omega
                    have hnn : Hid (∀ u, u < k + 1 → M.try1 c most d told u = none) := (fun u hu => by
                      by_cases e : u = k
                      · rw [e, HT.out]; exact hr
                      · exact hno.out u (by omega) : ∀ u, u < k + 1 → _)
                    clear hr
                    go_wp2_with fail
                    go_roundw
                    case rel => exact ⟨k + 1, by go_num, by omega, by omega, hnn, hBc⟩
                    case measure => simp [intOf]; omega
          · have hmiss : Hid (M.srch c most (d + 1) told = none) := M.srch_miss (fun u h1 h2 => hno.out u (by rw [← HN.out] at h1; omega))
            by_cases hk1 : k ≤ nv
            · have e1 : decide (k ≤ nv) = true := decide_eq_true hk1
              have e2 : decide (k < most) = false := decide_eq_false (fun h => hk ⟨hk1, h⟩)
              clear hk
              go_wp2_with fail
              go_ret
              exact ⟨hB, .inr ⟨hmiss.out, rfl⟩⟩
            · have e1 : decide (k ≤ nv) = false := decide_eq_false hk1
              clear hk
              go_wp2_with fail
              go_ret
              exact ⟨hB, .inr ⟨hmiss.out, rfl⟩⟩
set_option maxHeartbeats 1000000 in
theorem refrowsTop_any (m : List Nat) (p : Option Addr) (n cap : Nat) (w : World) (hl : m.length = n) (hm : M.Ok m) (htr : M.Tr (M.clo m)) (hn : n ≤ 12) (hc : Has (ints m) p w) :
    Calls Tryd.prog 25 #[.slice p n cap] w fun e w' => ∃ p' cap', e = .returned (.slice p' n cap') ∧ Has (ints (M.rows (M.clo m))) p' w' ∧ Below w.heap.size w w' := by
  have hcl : (M.clo m).length = n := by rw [M.clo_length, hl]
  have hsome := M.rows_some (c := M.clo m) (by omega) htr
  rw [hcl] at hsome
  have hwl : M.widest (M.clo m) < 4096 := by have := (M.widest_is (M.clo m)).lt; rw [hcl] at this; have := pow_lt n hn; omega
  have hp12 : M.pc (M.widest (M.clo m)) ≤ 12 := M.cnt_le 12 _
  go_enter Tryd.func25, Tryd.ntmps25
  go_wp2_with fail
  refine (closed_any m p n cap w hl hm hn hc).mono ?_
  rintro e w1 ⟨p1, c1, rfl, hh1, hB1⟩
  go_wp2_with fail
  refine (refwidest_any m p n cap w1 hl hm hn (hc.later hB1)).mono ?_
  rintro e w2 ⟨rfl, hB2⟩
  have hC2 := hB1.trans (hB2.mono hB1.size)
  have hmy := many_any (M.widest (M.clo m)) w2 hwl
  obtain ⟨most, hmost⟩ : ∃ most, M.pc (M.widest (M.clo m)) = most := ⟨_, rfl⟩
  rw [hmost] at hmy hsome hp12
  have hrr := refrows_any (M.clo m) p1 n c1 most hcl (M.clo_ok hm) hn hp12 n 0 [] none 0 w2 rfl (by omega) (fun _ => ⟨rfl, rfl⟩) (fun x hx => by cases hx) (fun j hj => absurd hj (by simp [ints])) (hh1.later hB2)
  rw [hsome] at hrr
  clear hmost hsome
  go_wp2_with fail
  refine hmy.mono ?_
  rintro e w3 ⟨rfl, rfl⟩
  go_wp2_with fail
  refine hrr.mono ?_
  rintro e w4 ⟨hB4, ⟨r, p', cap', hr, hrl, rfl, hh⟩ | ⟨hr, -⟩⟩
  · cases hr
    go_wp2_with fail
    go_ret
    exact ⟨p', cap', rfl, hh, hC2.trans (hB4.mono hC2.size)⟩
  · cases hr
end Go.Proofs.YtedmpcadinjjdaaDoor
