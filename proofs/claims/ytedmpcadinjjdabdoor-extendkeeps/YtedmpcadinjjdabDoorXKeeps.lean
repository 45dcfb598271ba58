/- A ROW KEEPS THE ORDER: the law's walk: at whatever numbers the call returns true, and what lay in memory lies as it lay; the library's table lies where its variable is. -/
import Derived.Test.YtedmpcadinjjdabDoorXFact
import Derived.Test.YtedmpcadinjjdabDoorIss
import Derived.Deep.RegionHeld3
namespace Go.Proofs.YtedmpcadinjjdabDoor
open Go.RowKit

theorem ints_cons (x : Nat) (m : List Nat) : ints (x :: m) = (x : Int) :: ints m := rfl
theorem thingB_of {i n : Nat} (h : i < n) : thingB (i : Int) n = true := by unfold thingB; rw [decide_eq_true_eq]; omega
theorem isR_goes {t : List Nat} (ls : List Int) : ∀ d, (isR t d ls).1 = true → ∃ m, ls = ints m ∧ M.goesB t d m = true := by
  induction ls with
  | nil => intro d _; exact ⟨[], rfl, rfl⟩
  | cons z ls ih =>
    intro d h
    rw [isR_cons] at h
    cases hg : thingB z t.length with
    | false => rw [hg] at h; cases h
    | true =>
      obtain ⟨i, rfl, hi⟩ := thing_nat hg
      rw [hg, if_pos rfl, Int.toNat_natCast] at h
      cases hb : M.nextB t d i with
      | false => rw [hb] at h; cases h
      | true =>
        rw [hb, if_pos rfl] at h
        obtain ⟨m, rfl, hm⟩ := ih _ h
        exact ⟨i :: m, rfl, by simp only [M.goesB]; rw [hb, hm, decide_eq_true hi]; rfl⟩
theorem goes_isR {t : List Nat} (m : List Nat) : ∀ d, M.goesB t d m = true → isR t d (ints m) = (true, 0) := by
  induction m with
  | nil => intro d _; rfl
  | cons i m ih =>
    intro d h
    simp only [M.goesB, Bool.and_eq_true, decide_eq_true_eq] at h
    rw [ints_cons, isR_cons, if_pos (thingB_of h.1.1), Int.toNat_natCast, if_pos h.1.2]
    exact ih _ h.2
theorem isR_two {t : List Nat} (ls : List Int) : ∀ d, (isR t d ls).1 = true → (isR t d ls).2 = 0 := by
  intro d h
  obtain ⟨m, rfl, hm⟩ := isR_goes ls d h
  rw [goes_isR m d hm]
theorem left_zero : M.left 0 = fun _ => true := funext fun x => by simp [M.left]
theorem first_goesR {c t : List Nat} (hd : M.Dual c t) (htr : M.Tr c) : M.goesB t 0 (M.firstR t) = true := by
  rw [M.firstR_eq]
  exact (M.first_goes hd htr t.length 0 (by rw [left_zero, M.cb_all, hd.1])).1
theorem lex_at {x y : List Nat} (h : M.LexLe x y) : ∀ i, i < x.length → (∀ j, j < i → M.row x j = M.row y j) → M.row x i ≤ M.row y i := by
  induction x generalizing y with
  | nil => intro i hi; simp at hi
  | cons a x ih =>
    cases y with
    | nil => exact h.elim
    | cons b y =>
      intro i hi hj
      rcases h with h | ⟨h1, h2⟩
      · cases i with
        | zero => simp [M.row]; omega
        | succ i =>
          have := hj 0 (by omega)
          simp [M.row] at this
          omega
      · cases i with
        | zero => simp [M.row]; omega
        | succ i =>
          have := ih h2 i (by simpa using hi) (fun j hji => by
            have := hj (j + 1) (by omega)
            simpa [M.row] using this)
          simpa [M.row] using this
theorem goes_lt {t : List Nat} (m : List Nat) : ∀ d, M.goesB t d m = true → ∀ i, i < m.length → M.row m i < t.length := by
  induction m with
  | nil => intro d _ i hi; simp at hi
  | cons a m ih =>
    intro d h i hi
    simp only [M.goesB, Bool.and_eq_true, decide_eq_true_eq] at h
    cases i with
    | zero => simpa [M.row] using h.1.1
    | succ i => have := ih _ h.2 i (by simpa using hi); simpa [M.row] using this
theorem goes_apart {c t m : List Nat} (hd : M.Dual c t) (htr : M.Tr c) (h : M.goesB t 0 m = true) (hl : m.length = c.length) {i j : Nat} (hj : j < i) (hi : i < m.length) : M.row m i ≠ M.row m j ∧ M.lt c (M.row m i) (M.row m j) = false := by
  have hL := (M.goes_lin hd htr m 0).2 ⟨h, by rw [left_zero, M.cb_all]; exact hl⟩
  have e1 : ∀ k (hk : k < m.length), M.row m k = m[k] := fun k hk => by simp [M.row, hk]
  have hjl : j < m.length := by omega
  have hne : m[i] ≠ m[j] := fun e => by
    have a := hL.nd.idxOf_getElem i hi
    have b := hL.nd.idxOf_getElem j hjl
    rw [e] at a
    omega
  rw [e1 i hi, e1 j hjl]
  refine ⟨hne, ?_⟩
  cases hlt : M.lt c m[i] m[j] with
  | false => rfl
  | true =>
    have := hL.ord _ _ (List.getElem_mem hi) (List.getElem_mem hjl) hlt
    rw [hL.nd.idxOf_getElem i hi, hL.nd.idxOf_getElem j hjl] at this
    omega
theorem below_drew2 {n : Nat} {A w : World} (h : Below n A w) (a b : Nat) (hn : n ≤ A.heap.size := by exact Nat.le_refl _) : Below n A ((w.drewN a).drewN b) := by
  have hs := Nat.le_trans hn h.size
  have h1 : Below n A (w.drewN a) := h.trans ((below_drewS w a).mono hs)
  exact h1.trans ((below_drewS _ b).mono (Nat.le_trans hn h1.size))
theorem has_at {zs : List Int} {p : Option Addr} {w : World} (h : Has zs p w) (h0 : 0 < zs.length) : ∃ b off, p = some ⟨b, off, none⟩ ∧ b < w.heap.size ∧ ∀ j, j < zs.length → w.cell? ⟨b, off + j, none⟩ = some (.int .i64 (zs[j]?.getD 0)) := by
  obtain ⟨b, off, rfl, hb, _⟩ := h 0 h0
  refine ⟨b, off, rfl, hb, fun j hj => ?_⟩
  obtain ⟨b', off', e, _, hc⟩ := h j hj
  cases e
  exact hc

set_option maxRecDepth 100000 in
set_option maxHeartbeats 1000000 in
theorem xkeeps_err (zs : List Int) (p q : Option Addr) (n cap l cap' d : Nat) (w : World) (hl : zs.length = n) (he : Env w) (hmax : n ≤ maxLen) (hc : Has zs p w) (h0 : code zs = d) (hne : d ≠ 0) :
    Calls Tryd.prog 5 #[.slice p n cap, .slice q l cap'] w fun e w' => e = .returned (.bool true) ∧ Below w.heap.size w w' := by
  go_enter Tryd.func5, Tryd.ntmps5
  go_wp2_with fail
  refine (xfact_any _ he).mono ?_
  rintro e w1 ⟨rfl, hB1⟩
  go_wp2_with fail
  refine (first_err zs p n cap d _ hl (he.later hB1) hmax (hc.later hB1) h0 hne).mono ?_
  rintro e w2 ⟨rfl, hB2⟩
  go_wp2
  go_ret
  exact ⟨rfl, hB1.trans (hB2.mono hB1.size)⟩
set_option maxRecDepth 100000 in
set_option maxHeartbeats 2000000 in
theorem xkeeps_ok (zs ls : List Int) (p q : Option Addr) (n cap l cap' : Nat) (w : World) (hl : zs.length = n) (hll : ls.length = l) (he : Env w) (hmax : n ≤ maxLen) (hc : Has zs p w) (hcl : Has ls q w) (h0 : code zs = 0) :
    Calls Tryd.prog 5 #[.slice p n cap, .slice q l cap'] w fun e w' => e = .returned (.bool true) ∧ Below w.heap.size w w' := by
  have hz := code_zero h0
  have hok := nats_ok hz.2.1
  have hn : n ≤ 12 := by omega
  have hnl : (nats zs).length = n := by rw [nats_length, hl]
  have htl : (M.turned (nats zs)).length = n := by rw [M.turned_length, hnl]
  have hdu := dual_of hok
  have htr := cloTr hok hz.2.2
  have hcll : (M.clo (nats zs)).length = n := by rw [M.clo_length, hnl]
  have hfl : (M.firstR (M.turned (nats zs))).length = n := by rw [M.firstR_length, htl]
  have hlf : (ints (M.firstR (M.turned (nats zs)))).length = n := by rw [ints_length, hfl]
  have hvx : isV zs (ints (M.firstR (M.turned (nats zs)))) = (true, 0) := by
    unfold isV
    rw [if_neg (by simpa using h0), if_neg (by omega)]
    exact goes_isR _ 0 (first_goesR hdu htr)
  have hix := fun (q' : Option Addr) w1 (hB : Below w.heap.size w w1) (hx : Has (ints (M.firstR (M.turned (nats zs)))) q' w1) => is_any zs (ints (M.firstR (M.turned (nats zs)))) p q' n cap n n w1 hl hlf (he.later hB) hmax (hc.later hB) hx
  simp only [hvx] at hix
  have hil := fun w1 (hB : Below w.heap.size w w1) => is_any zs ls p q n cap l cap' w1 hl hll (he.later hB) hmax (hc.later hB) (hcl.later hB)
  have hvl : Hid ((isV zs ls).1 = true → (isV zs ls).2 = 0 ∧ l = n ∧ ∃ m, ls = ints m ∧ M.goesB (M.turned (nats zs)) 0 m = true) := (fun h => by
    unfold isV at *
    rw [if_neg (by simpa using h0)] at h ⊢
    by_cases e : ls.length = zs.length
    · rw [if_neg (by simpa using e)] at h ⊢
      exact ⟨isR_two ls 0 h, by omega, isR_goes ls 0 h⟩
    · rw [if_pos e] at h; exact absurd h (by simp) : (isV zs ls).1 = true → (isV zs ls).2 = 0 ∧ l = n ∧ ∃ m, ls = ints m ∧ M.goesB (M.turned (nats zs)) 0 m = true)
  obtain ⟨vb, hvb⟩ : ∃ vb, (isV zs ls).1 = vb := ⟨_, rfl⟩
  obtain ⟨vc, hvc⟩ : ∃ vc, (isV zs ls).2 = vc := ⟨_, rfl⟩
  simp only [hvb, hvc] at hil
  rw [hvb, hvc] at hvl
  clear hvb hvc hvx
  go_enter Tryd.func5, Tryd.ntmps5
  go_wp2_with fail
  refine (xfact_any _ he).mono ?_
  rintro e w1 ⟨rfl, hB1⟩
  go_wp2_with fail
  refine (first_ok zs p n cap _ hl (he.later hB1) hmax (hc.later hB1) h0).mono ?_
  rintro e w2 ⟨A, rfl, hr2, hA, hB2⟩
  have hC2 := hB1.trans (hB2.mono hB1.size)
  go_wp2_with fail
  refine (hix _ _ hC2 hr2.has).mono ?_
  rintro e w3 ⟨rfl, hB3⟩
  have hC3 := hC2.trans (hB3.mono hC2.size)
  have e0 : errV 0 = .nilIface := rfl
  rw [e0]
  go_wp2_with fail
  refine (hil _ hC3).mono ?_
  rintro e w4 ⟨rfl, hB4⟩
  have hC4 := hC3.trans (hB4.mono hC3.size)
  by_cases hvc0 : vc = 0
  · rw [hvc0, e0]
    cases vb with
    | false =>
      clear hvl
      go_wp2_with fail
      go_ret
      exact ⟨rfl, hC4⟩
    | true =>
      obtain ⟨_, rfl, m, rfl, hgo⟩ := hvl.out rfl
      rw [ints_length] at hll
      have hap : Hid (∀ i j, j < i → i < l → M.row m i ≠ M.row m j ∧ M.lt (M.clo (nats zs)) (M.row m i) (M.row m j) = false) := fun i j hji hil2 => goes_apart hdu htr hgo (by omega) hji (by omega)
      have hlt : ∀ i, i < l → M.row m i < l := fun i hi => by have := goes_lt m 0 hgo i (by omega); omega
      have hlex : Hid (∀ i, i < l → (∀ j, j < i → M.row (M.firstR (M.turned (nats zs))) j = M.row m j) → M.row (M.firstR (M.turned (nats zs))) i ≤ M.row m i) := fun i hi hj => by
        have h := M.first_least hdu htr l 0 m (by rw [left_zero, M.cb_all]; exact hcll) hgo hll
        have e : M.firstL (M.turned (nats zs)) l 0 = M.firstR (M.turned (nats zs)) := by rw [M.firstR_eq, htl]
        rw [e] at h
        exact lex_at h i (by omega) hj
      have hm1 : ((l : Int) != (l : Int)) = false := by simp
      have hm2 : (l != l) = false := by simp
      have hless := fun w1 (hB : Below w.heap.size w w1) (i j : Nat) (hi : i < l) (hj : j < l) => less_ok zs i j p l cap w1 hl (he.later hB) hmax (hc.later hB) h0 hi hj
      have hr4 := (hr2.below hB3 hr2.lt).below hB4 (hr2.below hB3 hr2.lt).lt
      have hcl4 := hcl.later hC4
      obtain ⟨x, hx⟩ : ∃ x, M.firstR (M.turned (nats zs)) = x := ⟨_, rfl⟩
      rw [hx] at hlex hr4 hfl
      clear hvl hix hil hx hcl hgo hdu hr2 hlf
      go_wp2_with fail
      go_loopw [12] (fun v wr => ∃ i : Nat, v = .int .i64 i ∧ i ≤ l ∧ Below w4.heap.size w4 wr) (fun v _ => l - (intOf v).toNat)
      case atStart => exact ⟨0, rfl, Nat.zero_le _, Below.refl _ _⟩
      case round =>
        obtain ⟨i, rfl, hil, hBr⟩ := hrel
        by_cases hi : i < l
        · go_wp2_with fail
          go_loopw [13] (fun v wr => ∃ j : Nat, v = .int .i64 j ∧ j ≤ i ∧ Below w4.heap.size w4 wr) (fun v _ => i - (intOf v).toNat)
          case atStart => exact ⟨0, rfl, Nat.zero_le _, hBr⟩
          case round =>
            clear hBr
            obtain ⟨j, rfl, hji, hBr⟩ := hrel
            by_cases hj : j < i
            · obtain ⟨hd1, hd2⟩ := hap.out i j hj hi
              have hjl : j < l := by omega
              have hri := hlt i hi
              have hrj := hlt j (by omega)
              have hCr : Below w.heap.size w wr.drew := (hC4.trans (hBr.mono hC4.size)).drew
              have hls := hless wr.drew hCr (M.row m i) (M.row m j) hri hrj
              have hd3 : (M.row (M.clo (nats zs)) (M.row m i)).testBit (M.row m j) = false := hd2
              rw [hd3] at hls
              have hclr := hcl4.later hBr
              obtain ⟨b, off, hq, hb, hcells⟩ := has_at hclr (by rw [ints_length]; omega)
              have hci := hcells i (by rw [ints_length]; omega)
              have hcj := hcells j (by rw [ints_length]; omega)
              rw [ints_get] at hci hcj
              subst hq
              clear hclr hcells hd2 hd3
              obtain ⟨a1, ha1⟩ : ∃ a, M.row m i = a := ⟨_, rfl⟩
              obtain ⟨a2, ha2⟩ : ∃ a, M.row m j = a := ⟨_, rfl⟩
              rw [ha1] at hci hls hd1
              rw [ha2] at hcj hls hd1
              have hne1 : ((a1 : Int) == (a2 : Int)) = false := by simp; omega
              have hne2 : (a1 == a2) = false := by simp; omega
              have hls2 : Calls Tryd.prog 23 #[.slice p l cap, .int .i64 (a1 : Nat), .int .i64 (a2 : Nat)] wr.drew fun e w' => e = .returned (.tuple #[.bool false, .nilIface]) ∧ Below wr.heap.size wr w' ∧ w'.cell? ⟨b, off + i, none⟩ = some (.int .i64 (a1 : Nat)) ∧ w'.cell? ⟨b, off + j, none⟩ = some (.int .i64 (a2 : Nat)) := by
                refine hls.mono ?_
                rintro e w6 ⟨rfl, hB6⟩
                have hB6' : Below wr.heap.size wr w6 := (Below.refl _ wr).drew.trans (hB6.mono (Nat.le_refl _))
                exact ⟨rfl, hB6', (hB6'.cell (p := ⟨b, off + i, none⟩) hb).trans hci, (hB6'.cell (p := ⟨b, off + j, none⟩) hb).trans hcj⟩
              clear ha1 ha2 hri hrj hls
              go_wp2_with fail
              go_region_held3 (fun w' => w'.cell? ⟨b, off + i, none⟩ = some (.int .i64 (a1 : Nat)) ∧ w'.cell? ⟨b, off + j, none⟩ = some (.int .i64 (a2 : Nat))) (go_keep) (first | (go_at_call 23; refine hls2.mono ?_; rintro e w6 ⟨rfl, hB6', hci6, hcj6⟩))
              clear hci hcj hls2
              go_wp2_with fail
              go_big_quiet (fail)
              go_wp2_with fail
              go_roundw
              case rel => exact ⟨j + 1, by go_num, by omega, (hBr.trans (hB6'.mono hBr.size)).trans ((below_drewS _ _).mono (hBr.trans (hB6'.mono hBr.size)).size)⟩
              case measure => simp [intOf]; omega
            · obtain rfl : j = i := by omega
              go_wp2_with fail
              go_roundw
              case rel => exact ⟨j + 1, by go_num, by omega, hBr⟩
              case measure => simp [intOf]; omega
        · obtain rfl : i = l := by omega
          go_wp2_with fail
          clear hil
          go_loopw [16] (fun v wr => ∃ k : Nat, v = .int .i64 k ∧ k ≤ i ∧ Hid (∀ j, j < k → M.row x j = M.row m j) ∧ Below w4.heap.size w4 wr) (fun v _ => i - (intOf v).toNat)
          case atStart => exact ⟨0, rfl, Nat.zero_le _, (fun j hj => by omega : ∀ j, j < 0 → M.row x j = M.row m j), hBr⟩
          case round =>
            clear hBr
            obtain ⟨k, rfl, hki, heq, hBr⟩ := hrel
            by_cases hk : k < i
            · have hxk := (hr4.below hBr hr4.lt).cell (k := k) (by omega)
              obtain ⟨b, off, hq, hb, hcells⟩ := has_at (hcl4.later hBr) (by rw [ints_length]; omega)
              have hck := hcells k (by rw [ints_length]; omega)
              rw [ints_get] at hck
              subst hq
              clear hcells hcl4
              have hle := hlex.out k hk heq.out
              have hnx : Hid (M.row x k = M.row m k → ∀ j, j < k + 1 → M.row x j = M.row m j) := fun h j hj => by
                by_cases e : j = k
                · rw [e]; exact h
                · exact heq.out j (by omega)
              have hxl : M.row m k < i := hlt k hk
              obtain ⟨a1, ha1⟩ : ∃ a, M.row m k = a := ⟨_, rfl⟩
              obtain ⟨a2, ha2⟩ : ∃ a, M.row x k = a := ⟨_, rfl⟩
              rw [ha1] at hck hle hnx hxl
              rw [ha2] at hxk hle hnx
              clear ha1 ha2 heq
              by_cases hee : a2 = a1
              · have hnx2 : Hid (∀ j, j < k + 1 → M.row x j = M.row m j) := hnx.out hee
                have hne1 : ((a1 : Int) != (a2 : Int)) = false := by simp; omega
                have hne2 : (a1 != a2) = false := by simp; omega
                clear hee
                go_wp2_with fail
                go_big_quiet (fail)
                go_wp2_with fail
                go_roundw
                case rel => exact ⟨k + 1, by go_num, by omega, hnx2, hBr.trans ((below_drewS _ _).mono hBr.size)⟩
                case measure => simp [intOf]; omega
              · have hne1 : ((a1 : Int) != (a2 : Int)) = true := by simp; omega
                have hne2 : (a1 != a2) = true := by simp; omega
                have hgt1 : decide ((a2 : Int) < (a1 : Int)) = true := decide_eq_true (by omega)
                have hgt2 : decide (a2 < a1) = true := decide_eq_true (by omega)
                clear hee
                go_wp2_with fail
                go_big_quiet (fail)
                go_wp2_with fail
                go_big_quiet (fail)
                go_wp2_with fail
                go_ret
                exact ⟨rfl, hC4.trans ((below_drew2 hBr _ _).mono hC4.size)⟩
            · obtain rfl : k = i := by omega
              go_wp2_with fail
              go_ret
              exact ⟨rfl, hC4.trans (hBr.mono hC4.size)⟩
  · have e1 : errV vc = .iface 44 (.int .i64 (vc : Nat)) := by unfold errV; rw [if_neg hvc0]
    rw [e1]
    clear hvl
    go_wp2_with fail
    go_ret
    exact ⟨rfl, hC4⟩
theorem xkeeps_rowwalk (zs : List Int) (p : Option Addr) (n cap : Nat) (ls : List Int) (q : Option Addr) (l cap' : Nat) (w : World) (he : Env w) (hl : zs.length = n) (hmax : n ≤ maxLen) (hc : Has zs p w) (hll : ls.length = l) (_hmax' : l ≤ maxLen) (hcl : Has ls q w) :
    Calls Tryd.prog 5 #[.slice p n cap, .slice q l cap'] w fun e w' => e = .returned (.bool true) ∧ Below w.heap.size w w' := by
  by_cases h0 : code zs = 0
  · exact xkeeps_ok zs ls p q n cap l cap' w hl hll he hmax hc hcl h0
  · exact xkeeps_err zs p q n cap l cap' _ w hl he hmax hc rfl h0
end Go.Proofs.YtedmpcadinjjdabDoor
