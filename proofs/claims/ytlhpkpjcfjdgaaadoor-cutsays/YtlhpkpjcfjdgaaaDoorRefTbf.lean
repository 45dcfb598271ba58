/- The document's own answer on what happened before what (package whensteadref2, Before), at a trace with no fault; what lay in memory lies as it lay. -/
import Derived.Test.YtlhpkpjcfjdgaaaDoorBOi
import Derived.Test.YtlhpkpjcfjdgaaaDoorBRf
import Derived.Deep.CutRange
namespace Go.Proofs.YtlhpkpjcfjdgaaaDoor
open Go.RowKit

set_option maxRecDepth 100000 in
set_option maxHeartbeats 4000000 in
theorem refBefore_ok (P : Int) (T : List (Int × Int)) (p : Option Addr) (n cap : Nat) (w : World) (hl : T.length = n) (hc : HasE T p w) (hok : M.TOk P T) :
    Calls Tryd.prog 49 #[trV P p n cap] w fun e w' => ∃ q c, e = .returned (.slice q n c) ∧ HasI (ints (M.before T)) q w' ∧ Below w.heap.size w w' := by
  have hn : n ≤ 24 := hl ▸ hok.len
  have hB0 : Below w.heap.size w (w.alloc (.cells #[.int .i64 P, .slice p n cap] 24)) := (Below.refl _ _).alloc (Nat.le_refl _) _
  have hbox := tbox_new w P p n cap
  have hcb := hc.later hB0
  obtain ⟨w1, hw1⟩ : ∃ wb, w.alloc (.cells #[.int .i64 P, .slice p n cap] 24) = wb := ⟨_, rfl⟩
  rw [hw1] at hB0 hbox hcb
  have hk2 := hbox.events
  obtain ⟨i0, hi0, hz0, hz1, hz2⟩ := info_parts infoInt
  go_enter Tryd.func49, Tryd.ntmps49
  go_wp2_with fail
  go_loopw [3, 4] (fun v c wr => ∃ i : Nat, i ≤ n ∧ c = .int .i64 i ∧ wr.ownsRow w1.heap.size 3 1 v i (icells (M.bfs T i)) ∧ Below w1.heap.size w1 wr) (fun _ c _ => n - (intOf c).toNat)
  case atStart => exact ⟨0, Nat.zero_le _, rfl, World.ownsRow_nil _ _ _ _, Below.refl _ _⟩
  case round =>
    clear hk2 hw1
    obtain ⟨wo, hwo⟩ : ∃ wo, wo = wr := ⟨_, rfl⟩
    subst hwo
    obtain ⟨i, hi, rfl, hown, hB⟩ := hrel
    have hbr := hbox.later hB hbox.lt
    have hk2 := hbr.events
    have hbl := hbr.lt
    by_cases hlt : i < n
    · obtain ⟨q, c, rfl⟩ := owns_slice hown
      have hhas := hasI_of_owns (M.bfs_length T i) hown
      obtain ⟨b, off, rfl, hb, hp1, hp3⟩ := (hcb.later hB) i (by omega)
      go_wp2_with fail
      go_loopw [5, 6] (fun u v wr2 => ∃ (j s : Nat), u = .int .i64 s ∧ v = .int .i64 j ∧ j ≤ i ∧ Hid (s = M.bacc T (M.bfs T i) i j) ∧ s < 16777216 ∧ Below wo.heap.size wo wr2) (fun _ v _ => i - (intOf v).toNat)
      case atStart => exact ⟨0, 0, rfl, rfl, Nat.zero_le _, show 0 = M.bacc T (M.bfs T i) i 0 from rfl, by omega, Below.refl _ _⟩
      case round =>
        clear hk2 hp1 hp3 hb hbl
        obtain ⟨j, s, rfl, rfl, hj, hs, hs24, hBs⟩ := hrel
        have hBw := bel_on hB hBs
        have hbx := hbox.later hBw hbox.lt
        have hk2 := hbx.events
        by_cases hji : j < i
        · obtain ⟨_, _, e0, hb, hp1, hp3⟩ := (hcb.later hBw) i (by omega)
          cases e0
          obtain ⟨_, _, e0, _, hq1, _⟩ := (hcb.later hBw) j (by omega)
          cases e0
          obtain ⟨b2, off2, rfl, hb2, hcy⟩ := (hhas.later hBs) j (by rw [ints_length, M.bfs_length]; exact hji)
          rw [ints_get, M.bfs_row T hji] at hcy
          have hyb := M.bs_lt T j
          have hpj := pow_24 j (by omega)
          obtain ⟨y, hy⟩ : ∃ y, M.bs T j = y := ⟨_, rfl⟩
          have hyr : M.row (M.bfs T i) j = y := by rw [M.bfs_row T hji]; exact hy
          have HYR : Hid (M.row (M.bfs T i) j = y) := hyr
          clear hyr
          rw [show M.bacc T (M.bfs T j) j j = M.bs T j from rfl, hy] at hcy
          rw [hy] at hyb
          have hy24 : y < 16777216 := by omega
          clear hy hyb
          obtain ⟨ai, hai⟩ : ∃ a, M.pr T i = a := ⟨_, rfl⟩
          obtain ⟨aj, haj⟩ : ∃ a, M.pr T j = a := ⟨_, rfl⟩
          obtain ⟨fi, hfi⟩ : ∃ a, M.fm T i = a := ⟨_, rfl⟩
          rw [hai] at hp1
          rw [hfi] at hp3
          rw [haj] at hq1
          have hjn : (j : Int) < (n : Int) := by omega
          have hin : (i : Int) < (n : Int) := by omega
          have hjn' : j < n := by omega
          have hjiI : (j : Int) < (i : Int) := by omega
          obtain ⟨t1, ht1⟩ : ∃ t : Bool, (aj == ai) = t := ⟨_, rfl⟩
          obtain ⟨t2, ht2⟩ : ∃ t : Bool, (fi == (j : Int)) = t := ⟨_, rfl⟩
          have HM : Hid (M.mustB T j i = (t1 || t2)) := by
            show _ = _
            unfold M.mustB
            rw [hai, haj, hfi, ht1, ht2]
          clear hai haj hfi
          have hsj := shl_24 j (by omega)
          have hwi : ∀ W, Calls Tryd.prog 59 #[.int .i64 y, .int .i64 j] W fun e w' => e = .returned (.int .i64 ((y ||| 1 <<< j : Nat) : Int)) ∧ W = w' := fun W => with_big y j W (by omega) (by omega)
          have hr25 : y ||| 1 <<< j < 2 ^ 25 := Nat.or_lt_two_pow (by omega) (by omega)
          obtain ⟨r, hr⟩ : ∃ r, y ||| 1 <<< j = r := ⟨_, rfl⟩
          have HR : Hid (y ||| 1 <<< j = r) := hr
          rw [hr] at hr25
          simp only [hr] at hwi
          clear hr hsj
          have hei : ∀ W, Calls Tryd.prog 71 #[.int .i64 s, .int .i64 r] W fun e w' => e = .returned (.int .i64 ((s ||| r : Nat) : Int)) ∧ W = w' := fun W => either_big s r W (by omega) (by omega)
          obtain ⟨s2, hs2e⟩ : ∃ x, s ||| r = x := ⟨_, rfl⟩
          simp only [hs2e] at hei
          have HS : Hid (M.mustB T j i = true → s2 = M.bacc T (M.bfs T i) i (j + 1)) := (fun h => by simp only [M.bacc]; rw [if_pos h, HYR.out, HR.out, ← hs.out, hs2e] : M.mustB T j i = true → s2 = M.bacc T (M.bfs T i) i (j + 1))
          have HS0 : Hid (M.mustB T j i = false → s = M.bacc T (M.bfs T i) i (j + 1)) := (fun h => by simp only [M.bacc]; rw [if_neg (by rw [h]; simp), ← hs.out] : M.mustB T j i = false → s = M.bacc T (M.bfs T i) i (j + 1))
          have hbb := M.bacc_in T i (m := j + 1) (by omega)
          have hpp := pow_24 (j + 1) (by omega)
          clear hs2e
          cases t1 with
          | true =>
            have HS2 : Hid (s2 = M.bacc T (M.bfs T i) i (j + 1)) := HS.out (by rw [HM.out]; rfl)
            have hs2 : s2 < 16777216 := by rw [HS2.out]; omega
            clear HS HS0 hbb hpp
            go_wp2_with fail
            go_big_quiet (fail)
            go_wp2_with fail
            refine (hwi _).mono ?_
            rintro e w' ⟨rfl, rfl⟩
            go_wp2_with fail
            refine (hei _).mono ?_
            rintro e w' ⟨rfl, rfl⟩
            go_wp2_with fail
            go_roundw
            case rel => exact ⟨j + 1, s2, rfl, by go_num, by omega, HS2, hs2, bel_drN hBs _⟩
            case measure => simp [intOf]; omega
          | false =>
            cases t2 with
            | true =>
              have HS2 : Hid (s2 = M.bacc T (M.bfs T i) i (j + 1)) := HS.out (by rw [HM.out]; rfl)
              have hs2 : s2 < 16777216 := by rw [HS2.out]; omega
              clear HS HS0 hbb hpp
              go_wp2_with fail
              go_big_quiet (fail)
              go_wp2_with fail
              refine (hwi _).mono ?_
              rintro e w' ⟨rfl, rfl⟩
              go_wp2_with fail
              refine (hei _).mono ?_
              rintro e w' ⟨rfl, rfl⟩
              go_wp2_with fail
              go_roundw
              case rel => exact ⟨j + 1, s2, rfl, by go_num, by omega, HS2, hs2, bel_drN hBs _⟩
              case measure => simp [intOf]; omega
            | false =>
              have HS2 : Hid (s = M.bacc T (M.bfs T i) i (j + 1)) := HS0.out (by rw [HM.out]; rfl)
              clear HS HS0 hbb hpp hwi hei
              go_wp2_with fail
              go_big_quiet (fail)
              go_wp2_with fail
              go_roundw
              case rel => exact ⟨j + 1, s, rfl, by go_num, by omega, HS2, hs24, bel_drN hBs _⟩
              case measure => simp [intOf]; omega
        · obtain rfl : j = i := by omega
          have hown2 := owns_below hown hBs
          have HE : Hid (icells (M.bfs T (j + 1)) = icells (M.bfs T j) ++ [.int .i64 (s : Nat)]) := by
            show _ = _
            simp only [M.bfs]
            rw [icells_snoc, hs.out]
          go_wp2_with (at_builtin; refine wpList_append_own _ rfl _ _ 25 rfl w1.heap.size 3 i0 (.int .i64 0) 1 8 Tryd.underlying25 hi0 hz0 hz1 hz2 rfl (by decide) _ _ _ rfl (hown2.alloc _) ⟨wr.heap.size, 0, none⟩ 1 1 [.int .i64 (s : Nat)] rfl rfl (cell_one_new _ _ _) (by simp [Value.oneCell']) (by unfold maxLen; omega) (by omega) (by have := hBw.size; simp; omega) ?_; intro v' w5 hown' hgrow _)
          have hB1 : Below w1.heap.size w1 w5 := (hBw.alloc hBw.size _).grown hgrow (by have := hBw.size; simp; omega) (fun j e => (hown2.lt j e).1)
          first | go_roundw | skip
          case rel => exact ⟨j + 1, by omega, by go_num, by rw [HE.out]; exact hown', hB1⟩
          case measure => simp [intOf]; omega
    · obtain rfl : i = n := by omega
      obtain ⟨q, c, rfl⟩ := owns_slice hown
      have hhas := hasI_of_owns (M.bfs_length T i) hown
      go_wp2_with fail
      go_ret
      exact ⟨q, c, rfl, by rw [show M.before T = M.bfs T i by unfold M.before; rw [hl]]; exact hhas, bel_on hB0 hB⟩
end Go.Proofs.YtlhpkpjcfjdgaaaDoor
