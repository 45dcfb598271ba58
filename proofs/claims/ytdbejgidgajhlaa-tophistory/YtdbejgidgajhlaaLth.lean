/- A SCHEDULE IS A HISTORY (law TopHistory), the walk. -/
import Derived.Test.YtdbejgidgajhlaaHig
import Derived.Test.YtdbejgidgajhlaaSc4
import Derived.Test.YtdbejgidgajhlaaWhw
import Derived.BigQuiet
import Derived.Deep.CutRange
import Derived.Deep.AppendLies
import Derived.Deep.RegionHeldLaw
namespace Go.Proofs.Ytdbejgidgajhlaa
open Go.RowKit

theorem sh_hcd {s : List M.SAct} (hk : M.AOk s) (hn : s.length ≤ 10) (hi : ∀ j, j < s.length → (M.sat s j).it < 3) : hcd (hz (M.shH s)) = 0 := by
  have e : hz (M.shH s) = (List.range s.length).map fun i => (⟨(M.sat s i).tx, (M.sat s i).it, (M.sat s i).wr, M.shV s i, (2 * i : Nat), (2 * i + 1 : Nat)⟩ : Oz) := by
    unfold hz M.shH
    rw [List.map_map]
    rfl
  refine hcd_iff.2 ⟨by rw [hz_len, M.shH_len]; exact hn, fun a ha => ?_, ?_⟩
  · rw [e, List.mem_map] at ha
    obtain ⟨i, hi2, rfl⟩ := ha
    rw [List.mem_range] at hi2
    have h1 := hk.tx i
    have h2 := hi i hi2
    have h3 := hk.wr i
    have h4 : M.shV s i ≤ 10 := by
      unfold M.shV
      split
      · omega
      · cases hr : M.rdO s i with
        | none => exact Nat.zero_le _
        | some k => have := rdO_lt hr; show k + 1 ≤ 10; omega
    refine ⟨?_, by simp only; omega⟩
    unfold oIn thingZ
    simp only [Bool.and_eq_true, decide_eq_true_eq]
    omega
  · rw [e, List.pairwise_map]
    refine List.pairwise_lt_range.imp (fun {x y} h => ?_)
    unfold clB shB
    simp only
    have : decide (((2 * y : Nat) : Int) < ((2 * x + 1 : Nat) : Int)) = false := decide_eq_false (by omega)
    rw [this]
    simp
theorem two_aok : M.AOk [⟨0, 0, 1⟩, ⟨1, 0, 0⟩] := aok_of (by decide) (by decide)
theorem two_has (w : World) : HasAc (az [⟨0, 0, 1⟩, ⟨1, 0, 0⟩]) (some ⟨w.heap.size, 0, none⟩) (w.alloc (.cells #[.int .i64 0, .int .i64 0, .int .i64 1, .int .i64 1, .int .i64 0, .int .i64 0] 29)) := fun j hj => by
  rw [az_len] at hj
  have hj4 : j < 2 := hj
  refine ⟨w.heap.size, 0, rfl, ?_⟩
  rcases j with _ | _ | j
  · exact ⟨by simp, by simp [aAt_az, azN, M.sat], by simp [aAt_az, azN, M.sat], by simp [aAt_az, azN, M.sat]⟩
  · exact ⟨by simp, by simp [aAt_az, azN, M.sat], by simp [aAt_az, azN, M.sat], by simp [aAt_az, azN, M.sat]⟩
  · omega
theorem two_reads : rdZ [⟨0, 0, 1⟩, ⟨1, 0, 0⟩] = [-1, 0] := by decide
theorem has2z (w : World) (x y : Int) : HasI [x, y] (some ⟨w.heap.size, 0, none⟩) (w.alloc (.cells #[.int .i64 x, .int .i64 y] 3)) := fun j hj => by
  refine ⟨w.heap.size, 0, rfl, by simp, ?_⟩
  have hj3 : j < 2 := hj
  rcases j with _ | _ | j
  · simp
  · simp
  · omega
set_option maxRecDepth 100000 in
set_option maxHeartbeats 16000000 in
theorem th_walk (zs : List Az) (p : Option Addr) (n cap : Nat) (w : World) (hl : zs.length = n) (hmax : n ≤ maxLen) (hcap : n ≤ cap) (hc : HasAc zs p w) :
    Calls Try.prog 3 #[.slice p n cap] w fun e w' => e = .returned (.bool true) ∧ Below w.heap.size w w' := by
  obtain ⟨i0, hi0, hz0, hz1, hz2⟩ := infoIh_parts infoOp
  go_enter Try.func3, Try.ntmps3
  go_wp2_with fail
  obtain ⟨wa, hwa⟩ : ∃ wa, w.alloc (.cells #[.int .i64 0, .int .i64 0, .int .i64 1, .int .i64 1, .int .i64 0, .int .i64 0] 29) = wa := ⟨_, rfl⟩
  have hAa : HasAc (az [⟨0, 0, 1⟩, ⟨1, 0, 0⟩]) (some ⟨w.heap.size, 0, none⟩) wa := hwa ▸ two_has w
  have hBa : Below w.heap.size w wa := hwa ▸ bel_al (Below.refl _ _) _
  simp only [hwa]
  refine (reads_ok [⟨0, 0, 1⟩, ⟨1, 0, 0⟩] _ 2 2 wa rfl two_aok (Nat.le_refl _) hAa).mono ?_
  rw [two_reads]
  rintro e w1 ⟨A1, rfl, hrow1, -, hB1⟩
  have hC1 := bel_on hBa hB1
  have hI1 := RowY.hasI hrow1
  have hB2 : Below w1.heap.size w1 (w1.alloc (.cells #[.int .i64 (-1), .int .i64 0] 3)) := bel_al (Below.refl _ _) _
  have h2 := has2z w1 (-1) 0
  have hI2 := hI1.later hB2
  have hC2 := bel_on hC1 hB2
  clear hwa hAa hBa hB1 hrow1 hC1 hI1 hB2
  go_wp2_with fail
  refine (same_intsI [-1, 0] _ _ 2 2 2 _ rfl (by unfold maxLen; omega) hI2 h2).mono ?_
  rintro e w3 ⟨rfl, hB3⟩
  have hC3 := bel_on hC2 hB3
  have hc3 := hc.later hC3
  clear hI2 h2 hC2 hB3 hc
  by_cases h0 : acd zs = 0
  · obtain ⟨s, rfl, hk⟩ := acd_get h0
    rw [az_len] at hl
    have hn24 : n ≤ 24 := hl ▸ hk.len
    clear h0 hmax
    go_wp2_with fail
    refine (reads_ok s p n cap w3 hl hk hcap hc3).mono ?_
    rintro e w4 ⟨A4, rfl, hrow4, -, hB4⟩
    have hC4 := bel_on hC3 hB4
    have hc4 := hc3.later hB4
    have hI4 := RowY.hasI hrow4
    have hne : ((n : Int) != (n : Int)) = false := by simp
    have hne' : (n != n) = false := by simp
    clear hC3 hc3 hB4 hrow4
    by_cases hn10 : 10 < n
    · have hd : decide ((10 : Int) < (n : Int)) = true := decide_eq_true (by omega)
      have hd' : decide (10 < n) = true := decide_eq_true hn10
      clear hn10 hc4 hI4
      go_wp2_with fail
      go_ret
      exact ⟨rfl, hC4⟩
    · have hd : decide ((10 : Int) < (n : Int)) = false := decide_eq_false (by omega)
      have hd' : decide (10 < n) = false := decide_eq_false hn10
      have hn : n ≤ 10 := by omega
      clear hn10
      go_wp2_with fail
      go_loopw [7, 8] (fun pv v wr => ∃ i : Nat, v = .int .i64 i ∧ i ≤ n ∧ Hid (∀ j, j < i → (M.sat s j).it < 3) ∧ Hid (wr.ownsRow w4.heap.size 33 6 pv i (ocells ((M.shH s).take i))) ∧ Below w4.heap.size w4 wr) (fun _ v _ => n - (intOf v).toNat)
      case atStart => exact ⟨0, rfl, Nat.zero_le _, fun j h => absurd h (Nat.not_lt_zero _), World.ownsRow_nil _ _ _ _, Below.refl _ _⟩
      case round =>
        obtain ⟨i, rfl, hi, hit, hown, hB⟩ := hrel
        by_cases hin : i < n
        · have hini : (i : Int) < (n : Int) := by omega
          obtain ⟨b, off, rfl, hop⟩ := (hc4.later hB) i (by rw [az_len, hl]; exact hin)
          rw [aAt_az] at hop
          have hrd := rdZ_get (s := s) (i := i) (by rw [hl]; exact hin)
          obtain ⟨bl, ol, e4, hbl, hcl⟩ := (hI4.later hB) i (by rw [rdZ_len, hl]; exact hin)
          cases e4
          rw [hrd, Nat.zero_add] at hcl
          have hsv : M.shV s i = if (M.sat s i).wr = 1 then i + 1 else M.vOf (M.rdO s i) := rfl
          have hso : M.shO s i = ⟨(M.sat s i).tx, (M.sat s i).it, (M.sat s i).wr, M.shV s i, 2 * i, 2 * i + 1⟩ := rfl
          have htk := M.shH_take (s := s) (i := i) (by rw [hl]; exact hin)
          have hw2 := hk.wr i
          have hrl := fun k (h : M.rdO s i = some k) => rdO_lt h
          have hitn : (M.sat s i).it < 3 → ∀ j, j < i + 1 → (M.sat s j).it < 3 := fun h j hj => by
            by_cases e : j = i
            · rw [e]; exact h
            · exact hit.out j (by omega)
          obtain ⟨⟨T, I, W⟩, ha⟩ : ∃ a, M.sat s i = a := ⟨_, rfl⟩
          rw [ha] at hop hsv hso hw2 hitn
          obtain ⟨hb, k0, k1, k2⟩ := hop
          simp only [azN] at k0 k1 k2 hsv hso hw2 hitn
          rw [hso] at htk
          clear ha hrd hso
          by_cases hI3 : I < 3
          · have hI2 : decide ((2 : Int) < (I : Int)) = false := decide_eq_false (by omega)
            have hI2' : decide (2 < I) = false := decide_eq_false (by omega)
            have HIT : Hid (∀ j, j < i + 1 → (M.sat s j).it < 3) := hitn hI3
            obtain ⟨V, hV⟩ : ∃ V, M.shV s i = V := ⟨_, rfl⟩
            rw [hV] at hsv htk
            have HTK : Hid ((M.shH s).take (i + 1) = (M.shH s).take i ++ [⟨T, I, W, V, 2 * i, 2 * i + 1⟩]) := htk
            have HSV : Hid (V = if W = 1 then i + 1 else M.vOf (M.rdO s i)) := hsv
            have hVle : V ≤ 11 := by
              rw [hsv]
              split
              · omega
              · cases hr : M.rdO s i with
                | none => exact Nat.zero_le _
                | some k => have := hrl k hr; show k + 1 ≤ 11; omega
            clear hitn hI3 hV htk hsv
            obtain ⟨v1, hv1⟩ : ∃ v1 : Nat, (if W = 1 then i + 1 else 0) = v1 := ⟨_, rfl⟩
            go_upto_if 75 with fail
            go_cut [9] from 76 to 77 (fun u w' => u = .int .i64 (v1 : Nat) ∧ wr = w')
            case first =>
              by_cases hW : W = 1
              · have d1 : ((W : Int) == 1) = true := by rw [hW]; rfl
                have HV1 : Hid (v1 = i + 1) := by show _ = _; rw [← hv1, if_pos hW]
                clear hW hw2 hv1
                go_wp2_with fail
                go_meet
                exact ⟨by rw [HV1.out]; go_num, rfl⟩
              · have d1 : ((W : Int) == 1) = false := by simpa using (by omega : ¬ (W : Int) = 1)
                have HV1 : Hid (v1 = 0) := by show _ = _; rw [← hv1, if_neg hW]
                clear hW hw2 hv1
                go_wp2_with fail
                go_meet
                exact ⟨by rw [HV1.out]; rfl, rfl⟩
            case rest =>
              obtain ⟨rfl, rfl⟩ := hcut
              obtain ⟨bb, hbb⟩ : ∃ bb, (W == 0 && (M.rdO s i).isSome) = bb := ⟨_, rfl⟩
              have HVT : Hid (bb = true → ∃ x, M.rdO s i = some x ∧ V = x + 1) := fun h => by
                rw [h, Bool.and_eq_true, beq_iff_eq] at hbb
                obtain ⟨x, hx⟩ := Option.isSome_iff_exists.1 hbb.2
                refine ⟨x, hx, ?_⟩
                rw [HSV.out, if_neg (by omega), hx]; rfl
              have HVF : Hid (bb = false → v1 = V) := fun h => by
                rw [h, Bool.and_eq_false_iff] at hbb
                rw [← hv1, HSV.out]
                by_cases hW : W = 1
                · rw [if_pos hW, if_pos hW]
                · rw [if_neg hW, if_neg hW]
                  rcases hbb with hbb | hbb
                  · have : W = 0 := by omega
                    rw [this] at hbb; cases hbb
                  · cases hr : M.rdO s i with
                    | none => rfl
                    | some x => rw [hr] at hbb; cases hbb
              clear hv1
              go_upto_region 16 with fail
              go_cut [90] from 78 to 90 (fun u w' => u = .bool bb ∧ wr = w')
              case first =>
                by_cases hW : W = 1
                · have d0 : ((W : Int) == 0) = false := by rw [hW]; rfl
                  have HB1 : Hid (bb = false) := by show _ = _; rw [← hbb, hW]; rfl
                  clear hW hw2 hbb
                  go_wp2_with fail
                  go_meet
                  exact ⟨by rw [HB1.out], rfl⟩
                · have hW0 : W = 0 := by omega
                  have d0 : ((W : Int) == 0) = true := by rw [hW0]; rfl
                  cases hr : M.rdO s i with
                  | none =>
                    have HB1 : Hid (bb = false) := by show _ = _; rw [← hbb, hr]; simp
                    rw [hr, oI_none] at hcl
                    clear hW hw2 hW0 hr hbb
                    go_wp2_with fail
                    go_meet
                    exact ⟨by rw [HB1.out], rfl⟩
                  | some x =>
                    have HB1 : Hid (bb = true) := by show _ = _; rw [← hbb, hr, hW0]; rfl
                    rw [hr, oI_some] at hcl
                    have hx0 : decide ((0 : Int) ≤ (x : Int)) = true := decide_eq_true (by omega)
                    clear hW hw2 hW0 hr hbb
                    go_wp2_with fail
                    go_meet
                    exact ⟨by rw [HB1.out], rfl⟩
              case rest =>
              obtain ⟨rfl, rfl⟩ := hcut
              clear hbb
              go_upto_if 90 with fail
              go_cut [9] from 91 to 95 (fun u w' => u = .int .i64 (V : Nat) ∧ wr = w')
              case first =>
                cases bb with
                | false =>
                  have HV1 : Hid (v1 = V) := HVF.out rfl
                  clear HVF HVT
                  go_wp2_with fail
                  go_meet
                  exact ⟨by rw [HV1.out], rfl⟩
                | true =>
                  obtain ⟨x, hr, hV⟩ := HVT.out rfl
                  have hxi := hrl x hr
                  rw [hr, oI_some] at hcl
                  have HV1 : Hid (V = x + 1) := hV
                  clear hr hV HVF HVT
                  go_wp2_with fail
                  go_meet
                  exact ⟨by rw [HV1.out]; go_num, rfl⟩
              case rest =>
                obtain ⟨rfl, rfl⟩ := hcut
                clear HVT HVF hcl hrl hbl hw2
                obtain ⟨f, hf⟩ : ∃ f : Nat, 2 * i = f := ⟨_, rfl⟩
                obtain ⟨g, hg⟩ : ∃ g : Nat, f + 1 = g := ⟨_, rfl⟩
                have hm1 : IntKind.i64.wrap (2 * (i : Int)) = (f : Int) := by rw [show (2 : Int) * (i : Int) = (f : Int) by omega]; exact i64_wrap_nat f (by omega)
                have hm2 : IntKind.i64.wrap ((f : Int) + 1) = (g : Int) := by rw [show (f : Int) + 1 = (g : Int) by omega]; exact i64_wrap_nat g (by omega)
                have hfl : f ≤ 20 := by omega
                rw [hf, hg] at HTK
                have hszr := hB.size
                clear hf hg hI2 hI2' HSV
                go_upto_region 18 with fail
                go_region_law (refine step_append_lies _ (by rfl) _ _ _ (by rfl) w4.heap.size 33 i0 _ 6 48 Try.underlying31 hi0 hz0 hz1 hz2 rfl (by omega) u7 i (ocells ((M.shH s).take i)) (by rfl) ((hown.out.alloc _).drew) ⟨wr.heap.size, 0, none⟩ 1 1 [.int .i64 (T : Nat), .int .i64 (I : Nat), .int .i64 (W : Nat), .int .i64 (V : Nat), .int .i64 (f : Nat), .int .i64 (g : Nat)] (by rfl) (by rfl) (World.news_of_block (cs := #[.int .i64 (T : Nat), .int .i64 (I : Nat), .int .i64 (W : Nat), .int .i64 (V : Nat), .int .i64 (f : Nat), .int .i64 (g : Nat)]) (t := 33) (fr := (0, 0)) (heap_alloc_new wr _)) (by simp [Value.oneCell']) (by omega) (by unfold maxLen; omega) (by omega) (by simp; omega) (wr.heap.size + 1) (by simp) ?_; intro g2 cap2 w6 ho hgr hat hlt)
                all_goals (have hB6 : Below w4.heap.size w4 w6 := (bel_al hB _).drew.grown hgr (by simp; omega) (fun j e => (hown.out.lt j e).1))
                all_goals (have ho6 : Hid (w6.ownsRow w4.heap.size 33 6 (.slice (some ⟨g2, 0, none⟩) (i + 1) cap2) (i + 1) (ocells ((M.shH s).take (i + 1)))) := (by rw [HTK.out, ocells_snoc]; exact ho))
                all_goals clear ho hgr hat
                all_goals go_wp2_with fail
                all_goals go_roundw
                all_goals first | exact ⟨i + 1, by go_num, by omega, HIT, ho6, hB6⟩ | (simp [intOf]; omega)
          · have hI2 : decide ((2 : Int) < (I : Int)) = true := decide_eq_true (by omega)
            have hI2' : decide (2 < I) = true := decide_eq_true (by omega)
            have HB : Hid (Below w.heap.size w wr) := bel_on hC4 hB
            clear hI3 hc4 hI4 hown hB
            go_wp2_with fail
            go_ret
            exact ⟨rfl, HB.out⟩
        · obtain rfl : i = n := by omega
          have hshl : (M.shH s).length = i := by rw [M.shH_len]; exact hl
          have hall : (M.shH s).take i = M.shH s := List.take_of_length_le (by omega)
          rw [hall] at hown
          obtain ⟨pv, cv, rfl, hcv⟩ := owns_cap hown.out
          have hF0 := sh_hcd hk (by omega) (fun j hj => hit.out j (by omega))
          have hhas := hasO_of_owns hshl hown.out
          have hat := atomic_ok (M.shH s) pv i cv wr hshl (hok_of hF0) hF0 hcv hhas
          have hwk := fun W (h : HasO (hz (M.shH s)) pv W) => weak_ok (M.shH s) pv i cv W hshl (hok_of hF0) hF0 hcv h
          have hbest := M.sh_best hk.wr
          have hweak := M.sh_weak hk.wr
          rw [hl] at hbest hweak
          have hC5 := bel_on hC4 hB
          unfold AnsOk at hat hwk
          rw [hbest] at hat
          rw [hweak] at hwk
          clear hown hF0 hB hC4 hc4 hI4 hall hit hbest hweak
          go_wp2_with fail
          refine hat.mono ?_
          rintro e w5 ⟨v5, rfl, hs5, -, hB5⟩
          obtain ⟨q5, c5, rfl, hI5⟩ := hs5 _ rfl
          have hh5 := hhas.later hB5
          have hC6 := bel_on hC5 hB5
          simp only [Option.isSome_some]
          clear hat hs5 hhas hC5 hB5
          go_wp2_with fail
          refine (hwk w5 hh5).mono ?_
          rintro e w6 ⟨v6, rfl, -, -, hB6⟩
          have hI6 := hI5.later hB6
          have HB6 : Hid (Below w.heap.size w w6) := bel_on hC6 hB6
          clear hwk hh5 hC6 hB6 hI5
          go_wp2_with fail
          go_loop [16] (fun v => ∃ k : Nat, v = .int .i64 k ∧ k ≤ i) (fun v => i - (intOf v).toNat)
          case atStart => exact ⟨0, rfl, Nat.zero_le _⟩
          case round =>
            obtain ⟨k, rfl, hk6⟩ := hrel
            by_cases hki : k < i
            · have hkii : (k : Int) < (i : Int) := by omega
              obtain ⟨bq, oq, rfl, hbq, hcq⟩ := hI6 k (by rw [ints_length, List.length_range]; exact hki)
              rw [ints_get, show M.row (List.range i) k = k by simp [M.row, hki]] at hcq
              have hkk : ((k : Int) != (k : Int)) = false := by simp
              clear hI6
              go_wp2_with fail
              go_round
              case rel => exact ⟨k + 1, by go_num, by omega⟩
              case measure => simp [intOf]; omega
            · obtain rfl : k = i := by omega
              clear hI6
              go_wp2_with fail
              go_ret
              exact ⟨rfl, HB6.out⟩
  · have hrd := reads_err zs p n cap w3 hl hmax hc3 h0
    rw [terr_ne h0] at hrd
    clear h0
    go_wp2_with fail
    refine hrd.mono ?_
    rintro e w4 ⟨rfl, hB4⟩
    have HB : Hid (Below w.heap.size w w4) := bel_on hC3 hB4
    clear hrd hB4 hC3
    go_wp2_with fail
    go_ret
    exact ⟨rfl, HB.out⟩
end Go.Proofs.Ytdbejgidgajhlaa
