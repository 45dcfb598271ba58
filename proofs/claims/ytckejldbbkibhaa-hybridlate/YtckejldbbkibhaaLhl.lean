/- SET LATER ALL IS LATER (law HybridLate): whatever the trace, the times and the number, the call returns true; what lay in memory lies as it lay. -/
import Derived.Test.YtckejldbbkibhaaHfc
import Derived.Test.YtckejldbbkibhaaOwnI
import Derived.Deep.CutRange
namespace Go.Proofs.Ytckejldbbkibhaa
open Go.RowKit
namespace M
theorem mxf_congr {x : Nat} {f g : Nat → Nat} {s m : Nat} (h : ∀ j, j < m → f j = g j) : mxf x f s m = mxf x g s m := by
  induction m with
  | zero => rfl
  | succ m ih => simp only [mxf]; rw [ih (fun j hj => h j (by omega)), h m (by omega)]
theorem hT_congr {T : List (Int × Int)} {t u : Nat → Nat} {i : Nat} (h : ∀ k, k ≤ i → t k = u k) : hT T t i = hT T u i := by
  unfold hT
  rw [h i (Nat.le_refl _)]
  exact mxf_congr fun j hj => h j (by omega)
theorem hC_congr {T : List (Int × Int)} {t u : Nat → Nat} (i : Nat) (h : ∀ k, k ≤ i → t k = u k) : hC T t i = hC T u i := by
  induction i using Nat.strongRecOn with
  | _ i ih =>
    refine hC_one (fun j h1 h2 h3 => ?_) ?_
    · rw [ih j h1 (fun k hk => h k (by omega))]
      rw [hT_congr (fun k hk => h k (by omega)), hT_congr h] at h3
      exact hC_lt h1 h2 h3
    · rcases hC_at T u i with e | ⟨j, a, b, c, e⟩
      · exact .inl e
      · refine .inr ⟨j, a, b, ?_, ?_⟩
        · rw [hT_congr (fun k hk => h k (by omega)), hT_congr h]; exact c
        · rw [ih j a (fun k hk => h k (by omega))]; omega
/-- the first i times, so much later -/
def lat (zs : List Int) (d i : Nat) : List Nat := (List.range i).map fun k => tm zs k + d
theorem lat_length (zs : List Int) (d i : Nat) : (lat zs d i).length = i := by simp [lat]
theorem lat_row (zs : List Int) (d : Nat) {i k : Nat} (h : k < i) : row (lat zs d i) k = tm zs k + d := by simp [row, lat, h]
theorem lat_succ (zs : List Int) (d i : Nat) : lat zs d (i + 1) = lat zs d i ++ [tm zs i + d] := by simp [lat, List.range_succ]
theorem lat_tm (zs : List Int) (d : Nat) {i k : Nat} (h : k < i) : tm (ints (lat zs d i)) k = tm zs k + d := by
  show ((ints (lat zs d i))[k]?.getD 0).toNat = _
  rw [ints_get, lat_row zs d h]
  omega
end M
set_option maxRecDepth 100000 in
set_option maxHeartbeats 8000000 in
theorem hl_walk (P : Int) (T : List (Int × Int)) (p : Option Addr) (n cap : Nat) (zs : List Int) (q : Option Addr) (m cap2 : Nat) (bz : Int) (w : World) (hl : T.length = n) (hmax : n ≤ maxLen) (hc : HasE T p w) (hl2 : zs.length = m) (hmax2 : m ≤ maxLen) (hz : HasI zs q w) (_hwf : ∀ k : Nat, zs[k]?.getD 0 < 9223372036854775808) (_hbz : (Lit.int .i64 bz).wf = true) :
    Calls Try.prog 5 #[trV P p n cap, .slice q m cap2, .int .i64 bz] w fun e w' => e = .returned (.bool true) ∧ Below w.heap.size w w' := by
  obtain ⟨i0, hi0, hz0, hz1, hz2⟩ := info_parts infoInt
  have hB0 : Below w.heap.size w (w.alloc (.cells #[.int .i64 P, .slice p n cap] 24)) := (Below.refl _ _).alloc (Nat.le_refl _) _
  have hbox := tbox_new w P p n cap
  obtain ⟨wb, hwb⟩ : ∃ wb, w.alloc (.cells #[.int .i64 P, .slice p n cap] 24) = wb := ⟨_, rfl⟩
  rw [hwb] at hB0 hbox
  go_enter Try.func5, Try.ntmps5
  go_wp2_with fail
  refine (hybridFact_ok _).mono ?_
  rintro e w1 ⟨rfl, hB1⟩
  have hC1 := bel_on hB0 hB1
  have hb1 := hbox.later hB1 hbox.lt
  have hk1 := hb1.procs
  have hk2 := hb1.events
  clear hwb
  go_wp2_with fail
  by_cases h0 : M.hcode P T zs ≠ 0
  · obtain ⟨c, hcc⟩ : ∃ c, M.hcode P T zs = c := ⟨_, rfl⟩
    rw [hcc] at h0
    refine (stamps_err P T p n cap zs q m cap2 c _ hl hmax (hc.later hC1) hl2 hmax2 (hz.later hC1) hcc h0).mono ?_
    rintro e w2 ⟨rfl, hB2⟩
    have hC2 := bel_on hC1 hB2
    have hb2 := hb1.later hB2 hb1.lt
    clear hk1 hk2
    have hk1 := hb2.procs
    have hk2 := hb2.events
    go_wp2_with fail
    go_ret
    exact ⟨rfl, hC2⟩
  have hok := M.hcode_zero.1 (Decidable.not_not.1 h0)
  have h1 := M.tcode_zero.2 hok.tr
  have hn : n ≤ 24 := hl ▸ hok.tr.len
  obtain rfl : m = n := by have := hok.len; omega
  refine (stamps_ok P T p m cap zs q cap2 _ hl hmax (hc.later hC1) (hz.later hC1) hok).mono ?_
  rintro e w2 ⟨A, rfl, hr, hA, hB2⟩
  have hC2 := bel_on hC1 hB2
  have hb2 := hb1.later hB2 hb1.lt
  clear hk1 hk2
  have hz3 := hz.later hC2
  by_cases hb0 : bz < 0
  · have d1 : decide (bz < 0) = true := decide_eq_true hb0
    clear hb0
    go_wp2_with fail
    go_ret
    exact ⟨rfl, hC2⟩
  have d1 : decide (bz < 0) = false := decide_eq_false hb0
  by_cases hbn : 1000000 < bz
  · have d2 : decide (1000000 < bz) = true := decide_eq_true hbn
    clear hb0 hbn
    go_wp2_with fail
    go_ret
    exact ⟨rfl, hC2⟩
  have d2 : decide (1000000 < bz) = false := decide_eq_false hbn
  obtain ⟨d, rfl⟩ : ∃ d : Nat, bz = d := ⟨bz.toNat, by omega⟩
  have hdb : d ≤ 1000000 := by omega
  have d3 : decide ((d : Int) < 0) = false := decide_eq_false (by omega)
  have d4 : decide ((1000000 : Int) < (d : Int)) = false := decide_eq_false (by omega)
  have d5 : decide (1000000 < d) = false := decide_eq_false (by omega)
  clear hb0 hbn d1 d2
  go_wp2_with fail
  go_loopw [10, 11] (fun v c wr => ∃ i : Nat, i ≤ m ∧ c = .int .i64 i ∧ wr.ownsRow w2.heap.size 3 1 v i (icells (M.lat zs d i)) ∧ Below w2.heap.size w2 wr) (fun _ c _ => m - (intOf c).toNat)
  case atStart => exact ⟨0, Nat.zero_le _, rfl, World.ownsRow_nil _ _ _ _, Below.refl _ _⟩
  case round =>
    obtain ⟨i, hi, rfl, hown, hB⟩ := hrel
    by_cases hlt : i < m
    · have hT : i < T.length := by omega
      obtain ⟨ti, hti⟩ : ∃ t, M.tm zs i = t := ⟨_, rfl⟩
      have hzi := hok.tm hT
      have htb := hok.tmB i hT
      rw [hti] at hzi htb
      obtain ⟨b1, o1, rfl, hb1l, hci⟩ := (hz3.later hB).at_ (show i < zs.length by omega) hzi
      obtain ⟨s1, hs1⟩ : ∃ s1, ti + d = s1 := ⟨_, rfl⟩
      have hsi : (ti : Int) + (d : Int) = (s1 : Int) := by omega
      have HE : Hid (icells (M.lat zs d (i + 1)) = icells (M.lat zs d i) ++ [.int .i64 (s1 : Nat)]) := by
        show _ = _
        rw [M.lat_succ, icells_snoc, hti, hs1]
      have hiI : (i : Int) < (m : Int) := by omega
      clear hti hs1 hzi
      go_wp2_with (at_builtin; refine wpList_append_own _ rfl _ _ 25 rfl w2.heap.size 3 i0 (.int .i64 0) 1 8 Try.underlying25 hi0 hz0 hz1 hz2 rfl (by decide) _ _ _ rfl (hown.alloc _) ⟨wr.heap.size, 0, none⟩ 1 1 [.int .i64 (s1 : Nat)] rfl rfl (cell_one_new _ _ _) (by simp [Value.oneCell']) (by unfold maxLen; omega) (by omega) (by have := hB.size; simp; omega) ?_; intro v' w5 hown' hgrow _)
      have hB1 : Below w2.heap.size w2 w5 := (hB.alloc hB.size _).grown hgrow (by have := hB.size; simp; omega) (fun j e => (hown.lt j e).1)
      first | go_roundw | skip
      case rel => exact ⟨i + 1, by omega, by go_num, by rw [HE.out]; exact hown', hB1⟩
      case measure => simp [intOf]; omega
    · obtain rfl : m = i := by omega
      obtain ⟨q2, c2, rfl⟩ := owns_slice hown
      have hhas := hasI_of_owns (M.lat_length zs d m) hown
      have hCr := bel_on hC2 hB
      have hbr := hb2.later hB hb2.lt
      have hk1 := hbr.procs
      have hk2 := hbr.events
      have hlz : (ints (M.lat zs d m)).length = m := by rw [ints_length, M.lat_length]
      have hL := hr.below hB hr.lt
      clear hown hr
      go_wp2_with fail
      by_cases h5 : M.hcode P T (ints (M.lat zs d m)) ≠ 0
      · obtain ⟨c, hcc⟩ : ∃ c, M.hcode P T (ints (M.lat zs d m)) = c := ⟨_, rfl⟩
        have H5 : Hid (M.hcode P T (ints (M.lat zs d m)) ≠ 0) := h5
        rw [hcc] at h5
        refine (stamps_err P T p m cap (ints (M.lat zs d m)) q2 m c2 c _ hl hmax (hc.later hCr) hlz hmax (hhas.later (Below.refl _ _)) hcc h5).mono ?_
        rintro e w5 ⟨rfl, hB5⟩
        have hC5 := bel_on hCr hB5
        have hhas5 := hhas.later hB5
        clear hk1 hk2 hcc h5
        go_wp2_with fail
        go_loopw [14] (fun v wr2 => ∃ i : Nat, v = .int .i64 i ∧ i ≤ m ∧ Hid (∀ k, k < i → M.tm zs k + d ≤ 1000000) ∧ Below w5.heap.size w5 wr2) (fun v _ => m - (intOf v).toNat)
        case atStart => exact ⟨0, rfl, Nat.zero_le _, show (∀ k, k < 0 → M.tm zs k + d ≤ 1000000) from fun k hk => absurd hk (Nat.not_lt_zero _), Below.refl _ _⟩
        case round =>
          obtain ⟨i, rfl, hi, HK, hBs⟩ := hrel
          by_cases hlt2 : i < m
          · have hg : (ints (M.lat zs d m))[i]?.getD 0 = ((M.tm zs i + d : Nat) : Int) := by rw [ints_get, M.lat_row zs d hlt2]
            obtain ⟨s, hs⟩ : ∃ s, M.tm zs i + d = s := ⟨_, rfl⟩
            rw [hs] at hg
            obtain ⟨b2, o2, rfl, hb2l, hci⟩ := (hhas5.later hBs).at_ (show i < (ints (M.lat zs d m)).length by omega) hg
            have hiI : (i : Int) < (m : Int) := by omega
            have HS : Hid (M.tm zs i + d = s) := hs
            clear hs hg
            by_cases hgt : 1000000 < s
            · have g1 : decide ((1000000 : Int) < (s : Int)) = true := decide_eq_true (by omega)
              have g2 : decide (1000000 < s) = true := decide_eq_true hgt
              clear hgt
              go_wp2_with fail
              go_ret
              exact ⟨rfl, bel_on hC5 hBs⟩
            · have g1 : decide ((1000000 : Int) < (s : Int)) = false := decide_eq_false (by omega)
              have g2 : decide (1000000 < s) = false := decide_eq_false hgt
              have HN : Hid (∀ k, k < i + 1 → M.tm zs k + d ≤ 1000000) := (fun k hk => by
                by_cases e : k = i
                · subst e; rw [HS.out]; omega
                · exact HK.out k (by omega) : ∀ k, k < i + 1 → M.tm zs k + d ≤ 1000000)
              clear hgt
              go_wp2_with fail
              go_roundw
              case rel => exact ⟨i + 1, by go_num, by omega, HN, hBs⟩
              case measure => simp [intOf]; omega
          · exact absurd (M.hcode_zero.2 ⟨hok.tr, by rw [hlz]; omega, fun k hk => by
              rw [ints_get, M.lat_row zs d (by omega)]
              have := HK.out k (by omega)
              omega⟩) H5.out
      · have hok2 := M.hcode_zero.1 (Decidable.not_not.1 h5)
        refine (stamps_ok P T p m cap (ints (M.lat zs d m)) q2 c2 _ hl hmax (hc.later hCr) (hhas.later (Below.refl _ _)) hok2).mono ?_
        rintro e w5 ⟨A5, rfl, hr5, hA5, hB5⟩
        have hC5 := bel_on hCr hB5
        have hL5 := hL.below hB5 hL.lt
        clear hk1 hk2 h5
        go_wp2_with fail
        go_loopw [15] (fun v wr2 => ∃ i : Nat, v = .int .i64 i ∧ i ≤ m ∧ Below w5.heap.size w5 wr2) (fun v _ => m - (intOf v).toNat)
        case atStart => exact ⟨0, rfl, Nat.zero_le _, Below.refl _ _⟩
        case round =>
          obtain ⟨i, rfl, hi, hBs⟩ := hrel
          by_cases hlt2 : i < m
          · have hLr := hL5.below hBs hL5.lt
            have hLl := hLr.lt
            have hMr := hr5.below hBs hr5.lt
            have hMl := hMr.lt
            have hcT := hLr.cell (k := i * 2) (by rw [M.stl_length]; omega)
            have hcC := hLr.cell (k := i * 2 + 1) (by rw [M.stl_length]; omega)
            have hjT := hMr.cell (k := i * 2) (by rw [M.stl_length]; omega)
            have hjC := hMr.cell (k := i * 2 + 1) (by rw [M.stl_length]; omega)
            rw [M.stl_T T _ hlt2 hlt2] at hcT hjT
            rw [M.stl_C T _ hlt2 hlt2] at hcC hjC
            have hcg : ∀ k, k ≤ i → M.tm (ints (M.lat zs d m)) k = (fun k => M.tm zs k + d) k := fun k hk => M.lat_tm zs d (by omega)
            rw [M.hT_congr hcg, M.hT_late] at hjT
            rw [M.hC_congr i hcg, M.hC_late] at hjC
            have hvb := M.hT_bound (T := T) hok.tmB (show i < T.length by omega)
            obtain ⟨v, hv⟩ : ∃ v, M.hT T (M.tm zs) i = v := ⟨_, rfl⟩
            obtain ⟨c, hcc⟩ : ∃ c, M.hC T (M.tm zs) i = c := ⟨_, rfl⟩
            rw [hv] at hcT hjT hvb
            rw [hcc] at hcC hjC
            obtain ⟨v2, hv2⟩ : ∃ v2, v + d = v2 := ⟨_, rfl⟩
            have hvi : (v : Int) + (d : Int) = (v2 : Int) := by omega
            rw [hv2] at hjT
            have l1 : ((v2 : Int) != (v2 : Int)) = false := by simp
            have l2 : (v2 != v2) = false := by simp
            have l3 : ((c : Int) != (c : Int)) = false := by simp
            have l4 : (c != c) = false := by simp
            have hiI : (i : Int) < (m : Int) := by omega
            clear hv hcc hv2 hcg
            go_wp2_with fail
            go_big_quiet (fail)
            go_wp2_with fail
            go_roundw
            case rel => exact ⟨i + 1, by go_num, by omega, bel_drN hBs _⟩
            case measure => simp [intOf]; omega
          · obtain rfl : i = m := by omega
            go_wp2_with fail
            go_ret
            exact ⟨rfl, bel_on hC5 hBs⟩
end Go.Proofs.Ytckejldbbkibhaa
