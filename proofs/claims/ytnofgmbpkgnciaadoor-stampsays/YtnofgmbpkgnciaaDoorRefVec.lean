/- The document's own vectors (package whensteadref2, Vectors), at a trace with no fault: counted; what lay in memory lies as it lay. -/
import Derived.Test.YtnofgmbpkgnciaaDoorRefTbf
import Derived.Test.YtnofgmbpkgnciaaDoorSvr
namespace Go.Proofs.YtnofgmbpkgnciaaDoor
open Go.RowKit
namespace M
/-- of what an event knows of, those below j counted -/
def vpl (T : List (Int × Int)) (i P j : Nat) : List Nat := (List.range P).map fun q => vn T (fu T i) ((q : Nat) : Int) j
theorem vpl_length (T : List (Int × Int)) (i P j : Nat) : (vpl T i P j).length = P := by simp [vpl]
theorem vpl_row (T : List (Int × Int)) (i : Nat) {P q : Nat} (j : Nat) (h : q < P) : row (vpl T i P j) q = vn T (fu T i) (q : Int) j := by
  unfold row vpl
  simp [h]
theorem vpl_zero (T : List (Int × Int)) (i P : Nat) : vpl T i P 0 = List.replicate P 0 := by
  apply List.ext_getElem
  · simp [vpl]
  · intro q h1 h2
    simp [vpl, vn, cb]
theorem vn_next (T : List (Int × Int)) (x : Nat) (q : Int) (j : Nat) : vn T x q (j + 1) = vn T x q j + (if x.testBit j = true ∧ pr T j = q then 1 else 0) := by
  unfold vn
  rw [cb_at (b := x.testBit j && pr T j == q) rfl]
  congr 1
  by_cases h : x.testBit j = true ∧ pr T j = q
  · rw [if_pos h]; simp [h.1, h.2]
  · rw [if_neg h]
    rw [if_neg]
    simpa using h
theorem vpl_no {T : List (Int × Int)} {i P j : Nat} (h : (fu T i).testBit j = false) : vpl T i P (j + 1) = vpl T i P j := by
  unfold vpl
  apply List.map_congr_left
  intro q _
  rw [vn_next, if_neg (by rw [h]; simp)]; rfl
theorem vpl_yes {T : List (Int × Int)} {i P j a v : Nat} (h : (fu T i).testBit j = true) (ha : pr T j = (a : Nat)) (hv : row (vpl T i P j) a + 1 = v) (haP : a < P) : (vpl T i P j).set a v = vpl T i P (j + 1) := by
  apply ext_row
  · simp [vpl]
  · intro q hq
    have hqP : q < P := by simpa [vpl] using hq
    rw [row_set, vpl_length, vpl_row T i (j + 1) hqP, vn_next, vpl_row T i j hqP, ha]
    by_cases e : a = q
    · subst e
      rw [if_pos ⟨rfl, haP⟩, if_pos ⟨h, rfl⟩, ← hv, vpl_row T i j haP]
    · rw [if_neg (fun h2 => e h2.1), if_neg (fun h2 => e (by omega))]; rfl
theorem vpl_end {T : List (Int × Int)} {i P : Nat} (hP : P ≤ 5) : vpl T i P (i + 1) = vcs T i P := by
  apply ext_row
  · rw [vpl_length, vcs_length T i hP]
  · intro q hq
    rw [vpl_length] at hq
    rw [vpl_row T i (i + 1) hq, vcs_row T i hP hq]; rfl
end M
/-- The rows of the first events, each in a block of its own, in a list made by appending. -/
def VOut (T : List (Int × Int)) (P i base : Nat) (v : Value) (w : World) : Prop := ∃ Bs : List Nat, Bs.length = i ∧ w.ownsRow base 30 1 v i (Bs.map fun b => .slice (some ⟨b, 0, none⟩) P P) ∧ ∀ k b, Bs[k]? = some b → RowAt 3 w b (M.vcs T k P)
theorem owns_ne {w : World} {base n B : Nat} {v : Value} {xs : List Value} {m : List Nat} (h : w.ownsRow base 30 1 v n xs) (hr : RowAt 3 w B m) : some B ≠ v.ownBlock := by
  rcases h.2 with ⟨rfl, _⟩ | ⟨g, cap, cur, rfl, hb, hg, _⟩
  · simp [Value.ownBlock]
  · intro e
    have e2 : B = g := by simpa [Value.ownBlock] using e
    subst e2
    unfold RowAt at hr
    rw [hg] at hr
    simp at hr
theorem VOut.hasR {T : List (Int × Int)} {P n base : Nat} {v : Value} {w : World} (h : VOut T P n base v w) (hP : P ≤ 5) : ∃ q c, v = .slice q n c ∧ HasR ((List.range n).map fun j => ints (M.vcs T j P)) q w := by
  obtain ⟨Bs, h1, h2, h3⟩ := h
  rcases h2.2 with ⟨rfl, rfl⟩ | ⟨g, cap, cur, rfl, hb, hg, _⟩
  · exact ⟨none, 0, rfl, fun j hj => absurd hj (by simp)⟩
  · refine ⟨_, cap, rfl, fun j hj => ?_⟩
    have hj' : j < n := by simpa using hj
    have e : ((List.range n).map fun j => ints (M.vcs T j P))[j]?.getD [] = ints (M.vcs T j P) := by simp [hj']
    have hl : (ints (M.vcs T j P)).length = P := by rw [ints_length, M.vcs_length T j hP]
    have hBj : Bs[j]? = some Bs[j] := List.getElem?_eq_getElem (by omega)
    have hr := h3 j _ hBj
    refine ⟨g, 0, rfl, (Array.getElem?_eq_some_iff.1 hg).1, some ⟨Bs[j], 0, none⟩, P, ?_, ?_⟩
    · rw [e, hl, Nat.zero_add, h2.cellAt j (by omega)]
      simp [hBj]
    · rw [e]; exact RowAt.hasI hr
set_option maxRecDepth 100000 in
set_option maxHeartbeats 4000000 in
theorem refVectors_ok (P : Nat) (T : List (Int × Int)) (p : Option Addr) (n cap : Nat) (w : World) (hl : T.length = n) (hc : HasE T p w) (hok : M.TOk P T) :
    Calls Tryd.prog 16 #[trV P p n cap] w fun e w' => ∃ q c, e = .returned (.slice q n c) ∧ HasR ((List.range n).map fun j => ints (M.vcs T j P)) q w' ∧ Below w.heap.size w w' := by
  have hn : n ≤ 24 := hl ▸ hok.len
  have hP1 := hok.p1
  have hP5 := hok.p5
  have hP : P ≤ 5 := by omega
  have hB0 : Below w.heap.size w (w.alloc (.cells #[.int .i64 P, .slice p n cap] 24)) := (Below.refl _ _).alloc (Nat.le_refl _) _
  have hcb := hc.later hB0
  obtain ⟨i0, hi0, hz0, hz1, hz2⟩ := info_parts infoSl
  have hmk0 := run_make_row' (P := Tryd.prog) 30 3 (.int .i64 0) 8 Tryd.underlying30 infoInt rfl .i64 .i64 P (by omega) (by omega)
  go_enter Tryd.func16, Tryd.ntmps16
  go_wp2_with fail
  refine (refBefore_ok P T p n cap _ hl hcb hok).mono ?_
  rintro e w1 ⟨qb, cb, rfl, hb0, hB1⟩
  have hbox : TBox w1 w.heap.size P p n cap := (tbox_new w P p n cap).later hB1 (by simp)
  have hC1 := bel_on hB0 hB1
  have hc1 := hc.later hC1
  clear hB0 hB1 hcb
  go_wp2_with fail
  go_loopw [4, 5] (fun v c wr => ∃ i : Nat, i ≤ n ∧ c = .int .i64 i ∧ VOut T P i w1.heap.size v wr ∧ Below w1.heap.size w1 wr) (fun _ c _ => n - (intOf c).toNat)
  case atStart => exact ⟨0, Nat.zero_le _, rfl, ⟨[], rfl, World.ownsRow_nil _ _ _ _, fun k b h => by simp at h⟩, Below.refl _ _⟩
  case round =>
    obtain ⟨wo, hwo⟩ : ∃ wo, wo = wr := ⟨_, rfl⟩
    subst hwo
    obtain ⟨i, hi, rfl, hout, hB⟩ := hrel
    by_cases hlt : i < n
    · obtain ⟨Bs, hBl, hown, hrows⟩ := hout
      obtain ⟨q, c, rfl⟩ := owns_slice hown
      have hk1 := (hbox.later hB hbox.lt).procs
      have hbl := (hbox.later hB hbox.lt).lt
      obtain ⟨wv, hwv⟩ : ∃ wv, wo.alloc (.cells (madeCells #[.int .i64 0] P) 3) = wv := ⟨_, rfl⟩
      have hrv : RowAt 3 wv wo.heap.size (M.vpl T i P 0) := by subst hwv; unfold RowAt; rw [World.alloc_heap_new, made_noughts, M.vpl_zero]
      have hBv : Below wo.heap.size wo wv := hwv ▸ bel_al (Below.refl _ _) _
      go_wp2_with fail
      go_loopw [7] (fun v wr2 => ∃ j : Nat, v = .int .i64 j ∧ j ≤ i + 1 ∧ RowAt 3 wr2 wo.heap.size (M.vpl T i P j) ∧ Below wo.heap.size wo wr2) (fun v _ => i + 1 - (intOf v).toNat)
      case atStart => exact ⟨0, rfl, Nat.zero_le _, hrv, hBv⟩
      case round =>
        clear hrv hBv hwv hk1
        obtain ⟨j, rfl, hj, hrv, hBs⟩ := hrel
        have hBw := bel_on hB hBs
        have hk2 := (hbox.later hBw hbox.lt).events
        by_cases hji : j ≤ i
        · have g1 : decide ((j : Int) ≤ (i : Int)) = true := decide_eq_true (by omega)
          have g2 : decide (j ≤ i) = true := decide_eq_true hji
          obtain ⟨b1, o1, rfl, hb1l, hcx⟩ := (hb0.later hBw) i (by rw [ints_length, M.before_length]; omega)
          rw [ints_get, M.before_row T (by omega)] at hcx
          obtain ⟨b, off, rfl, hb, hp1, -⟩ := (hc1.later hBw) j (by omega)
          have ha0 := hok.pr0 j (by omega)
          have haP := hok.prP j (by omega)
          obtain ⟨a, ha⟩ : ∃ a : Nat, M.pr T j = a := ⟨(M.pr T j).toNat, by omega⟩
          have haPn : a < P := by omega
          have haPi : (a : Int) < (P : Int) := by omega
          rw [ha] at hp1
          have hxb : M.bs T i < 16777216 := by have h1 := M.bs_lt T i; have h2 := pow_24 i (by omega); omega
          have hin : (i : Int) < (n : Int) := by omega
          have hjn : (j : Int) < (n : Int) := by omega
          have hjn' : j < n := by omega
          have hca := hrv.cell (k := a) (by rw [M.vpl_length]; exact haPn)
          have hfa := hrv.frozen a
          have hub : M.row (M.vpl T i P j) a ≤ 24 := by rw [M.vpl_row T i j haPn]; have := M.vn_le T (M.fu T i) (a : Int) j; omega
          obtain ⟨u, hu⟩ : ∃ u, M.row (M.vpl T i P j) a = u := ⟨_, rfl⟩
          obtain ⟨u1, hu1⟩ : ∃ u1, u + 1 = u1 := ⟨_, rfl⟩
          have hui : (u : Int) + 1 = (u1 : Int) := by omega
          have HY : (M.fu T i).testBit j = true → (M.vpl T i P j).set a u1 = M.vpl T i P (j + 1) := fun h => M.vpl_yes h ha (by rw [hu, hu1]) haPn
          have HN : (M.fu T i).testBit j = false → M.vpl T i P (j + 1) = M.vpl T i P j := fun h => M.vpl_no h
          rw [hu] at hca hub
          have hr2 := hrv.set a u1
          have hB2 : Below wo.heap.size wo (wr.setCell ⟨wo.heap.size, a, none⟩ (.int .i64 (u1 : Nat))) := hBs.setCell (p := ⟨wo.heap.size, a, none⟩) (Nat.le_refl _) _
          have hfu := M.fu_bit T i j
          obtain ⟨x, hx⟩ : ∃ x, M.bs T i = x := ⟨_, rfl⟩
          rw [hx] at hcx hxb hfu
          clear hu hu1 ha ha0 haP hx
          by_cases hij : j = i
          · have d1 : ((i : Int) == (j : Int)) = true := by subst hij; simp
            have d2 : (i == j) = true := by subst hij; simp
            rw [HY (hfu.2 (.inl hij))] at hr2
            have HR : Hid _ := hr2
            clear HY HN hfu hij hr2 hrv
            go_wp2_with fail
            go_roundw
            case rel => exact ⟨j + 1, by go_num, by omega, HR.out, hB2⟩
            case measure => simp [intOf]; omega
          · have d1 : ((i : Int) == (j : Int)) = false := by simp; omega
            have d2 : (i == j) = false := by simp; omega
            obtain ⟨t, ht⟩ : ∃ t, x.testBit j = t := ⟨_, rfl⟩
            have hbit : ∀ W, Calls Tryd.prog 31 #[.int .i64 x, .int .i64 j] W fun e w' => e = .returned (.bool t) ∧ W = w' := fun W => by rw [← ht]; exact bit_big x j W (by omega) (by omega)
            cases t with
            | true =>
              rw [HY (hfu.2 (.inr ht))] at hr2
              have HR : Hid _ := hr2
              clear HY HN hfu hij hr2 hrv ht
              go_wp2_with (go_at_call 31; refine (hbit _).mono ?_; rintro e w' ⟨rfl, rfl⟩)
              go_roundw
              case rel => exact ⟨j + 1, by go_num, by omega, HR.out, hB2⟩
              case measure => simp [intOf]; omega
            | false =>
              have hno : (M.fu T i).testBit j = false := by
                cases e : (M.fu T i).testBit j with
                | false => rfl
                | true =>
                  rcases hfu.1 e with h | h
                  · exact absurd h hij
                  · rw [ht] at h; cases h
              have HR : Hid (RowAt 3 wr wo.heap.size (M.vpl T i P (j + 1))) := by show RowAt _ _ _ _; rw [HN hno]; exact hrv
              clear HY HN hfu hij hr2 hrv ht hno
              go_wp2_with (go_at_call 31; refine (hbit _).mono ?_; rintro e w' ⟨rfl, rfl⟩)
              go_roundw
              case rel => exact ⟨j + 1, by go_num, by omega, HR.out, hBs⟩
              case measure => simp [intOf]; omega
        · obtain rfl : j = i + 1 := by omega
          rw [M.vpl_end hP] at hrv
          obtain ⟨j1, hj1⟩ : ∃ j1 : Nat, i + 1 = j1 := ⟨_, rfl⟩
          rw [hj1]
          have g1 : decide ((j1 : Int) ≤ (i : Int)) = false := decide_eq_false (by omega)
          have g2 : decide (j1 ≤ i) = false := decide_eq_false (by omega)
          have hown2 := owns_below hown hBs
          have hrows2 : ∀ k b, Bs[k]? = some b → RowAt 3 wr b (M.vcs T k P) := fun k b h => (hrows k b h).below hBs (hrows k b h).lt
          have HH : Hid (wr.ownsRow w1.heap.size 30 1 (.slice q i c) i (Bs.map fun b => .slice (some ⟨b, 0, none⟩) P P) ∧ (∀ k b, Bs[k]? = some b → RowAt 3 wr b (M.vcs T k P)) ∧ RowAt 3 wr wo.heap.size (M.vcs T i P)) := ⟨hown2, hrows2, hrv⟩
          clear hrows2 hrv hrows
          go_wp2_with (at_builtin; refine wpList_append_own _ rfl _ _ 41 rfl w1.heap.size 30 i0 (.slice none 0 0) 1 24 Tryd.underlying41 hi0 hz0 hz1 hz2 rfl (by decide) _ _ _ rfl (hown2.alloc _) ⟨wr.heap.size, 0, none⟩ 1 1 [.slice (some ⟨wo.heap.size, 0, none⟩) P P] rfl rfl (cell_one_new _ _ _) (by simp [Value.oneCell']) (by unfold maxLen; omega) (by omega) (by have := hBw.size; simp; omega) ?_; intro v' w5 hown' hgrow _)
          have hB1 : Below w1.heap.size w1 w5 := (hBw.alloc hBw.size _).grown hgrow (by have := hBw.size; simp; omega) (fun j e => (hown2.lt j e).1)
          obtain ⟨ho, hrs, hrv⟩ := HH.out
          have hg2 : (wr.alloc (.cells #[.slice (some ⟨wo.heap.size, 0, none⟩) P P] 30)).grownBy w5 (Value.slice q i c).ownBlock := hgrow
          have keep : ∀ {B : Nat} {m : List Nat}, RowAt 3 wr B m → RowAt 3 w5 B m := fun h => (h.alloc (.cells #[.slice (some ⟨wo.heap.size, 0, none⟩) P P] 30)).kept hg2 (owns_ne (ho.alloc (.cells #[.slice (some ⟨wo.heap.size, 0, none⟩) P P] 30)) (h.alloc (.cells #[.slice (some ⟨wo.heap.size, 0, none⟩) P P] 30)))
          have hV : VOut T P (i + 1) w1.heap.size v' w5 := by
            refine ⟨Bs ++ [wo.heap.size], by simp [hBl], by rw [List.map_append]; exact hown', fun k b h => ?_⟩
            by_cases hk : k < Bs.length
            · rw [List.getElem?_append_left hk] at h
              exact keep (hrs k b h)
            · rw [List.getElem?_append_right (by omega)] at h
              have hk0 : k - Bs.length = 0 := by
                cases e : k - Bs.length with
                | zero => rfl
                | succ m => rw [e] at h; simp at h
              rw [hk0] at h
              have : k = i := by omega
              subst this
              obtain rfl : wo.heap.size = b := by simpa using h
              exact keep hrv
          first | go_roundw | skip
          case rel => exact ⟨i + 1, by omega, by go_num, hV, hB1⟩
          case measure => simp [intOf]; omega
    · obtain rfl : i = n := by omega
      obtain ⟨q, c, rfl, hR⟩ := hout.hasR hP
      go_wp2_with fail
      go_ret
      exact ⟨q, c, rfl, hR, bel_on hC1 hB⟩
end Go.Proofs.YtnofgmbpkgnciaaDoor
