/- LAMPORT: IT IS THE LEAST (law TraceBefore): whatever the trace and the other sets, the call returns true; what lay in memory lies as it lay. -/
import Derived.Test.YtnofgmbpkgnciaaTfc
import Derived.Test.YtnofgmbpkgnciaaRefBig
import Derived.Deep.CutRange
namespace Go.Proofs.Ytnofgmbpkgnciaa
open Go.RowKit

set_option maxHeartbeats 1000000 in
theorem within_none (a b : Int) (w : World) (ha : a ≤ 0) :
    Calls Try.prog 11 #[.int .i64 a, .int .i64 b] w fun e w' => e = .returned (.bool true) ∧ w = w' := by
  have hd : decide (0 < a) = false := decide_eq_false (by omega)
  go_enter Try.func11, Try.ntmps11
  go_wp2_with fail
  go_loopw [0, 1] (fun u v wr => u = .int .i64 a ∧ v = .int .i64 b ∧ wr = w) (fun _ _ _ => 0)
  case atStart => exact ⟨rfl, rfl, rfl⟩
  case round =>
    obtain ⟨rfl, rfl, rfl⟩ := hrel
    go_wp2_with fail
    go_ret
    exact ⟨rfl, rfl⟩
/-- the k-th number -/
def nz (O : List Int) (k : Nat) : Int := O[k]?.getD 0
/-- is one set of numbers in another one, where what is below 0 has none -/
def winB (a b : Int) : Bool := if a ≤ 0 then true else M.subB a.toNat b.toNat
theorem within_z (a b : Int) (w : World) (ha : a < 9223372036854775808) (hb : b < 9223372036854775808) (hb0 : 0 ≤ b) :
    Calls Try.prog 11 #[.int .i64 a, .int .i64 b] w fun e w' => e = .returned (.bool (winB a b)) ∧ w = w' := by
  unfold winB
  by_cases h : a ≤ 0
  · rw [if_pos h]; exact within_none a b w h
  · rw [if_neg h]
    obtain ⟨x, rfl⟩ : ∃ x : Nat, a = x := ⟨a.toNat, by omega⟩
    obtain ⟨y, rfl⟩ : ∃ y : Nat, b = y := ⟨b.toNat, by omega⟩
    rw [Int.toNat_natCast, Int.toNat_natCast]
    exact within_big x y w (by omega) (by omega)
theorem winB_bits {a b : Int} (h : winB a b = true) : ∀ k, a.toNat.testBit k = true → b.toNat.testBit k = true := by
  unfold winB at h
  by_cases h0 : a ≤ 0
  · intro k hk
    rw [show a.toNat = 0 by omega] at hk
    simp at hk
  · rw [if_neg h0] at h
    exact M.subB_iff.1 h
structure OkP (T : List (Int × Int)) (O : List Int) (i j : Nat) : Prop where
  pos : 0 ≤ nz O i
  must : M.mustB T j i = true → (nz O i).toNat.testBit j = true
  goes : (nz O i).toNat.testBit j = true → winB (nz O j) (nz O i) = true
/-- all that was asked of the other sets so far -/
def GoodTo (T : List (Int × Int)) (O : List Int) (n i j : Nat) : Prop := O.length = n ∧ ∀ i' j', i' < n → j' < i' → (i' < i ∨ (i' = i ∧ j' < j)) → OkP T O i' j'
theorem good_next {T : List (Int × Int)} {O : List Int} {n i : Nat} (h : GoodTo T O n i i) : GoodTo T O n (i + 1) 0 :=
  ⟨h.1, fun i' j' h1 h2 h3 => h.2 i' j' h1 h2 (by omega)⟩
theorem good_step {T : List (Int × Int)} {O : List Int} {n i j : Nat} (h : GoodTo T O n i j) (hk : OkP T O i j) : GoodTo T O n i (j + 1) :=
  ⟨h.1, fun i' j' h1 h2 h3 => by
    by_cases e : i' = i ∧ j' = j
    · rw [e.1, e.2]; exact hk
    · exact h.2 i' j' h1 h2 (by omega)⟩
theorem good_least {T : List (Int × Int)} {O : List Int} {n : Nat} (h : GoodTo T O n n 0) {i : Nat} (hi : i < n) : winB (M.bs T i : Nat) (nz O i) = true := by
  unfold winB
  by_cases h0 : ((M.bs T i : Nat) : Int) ≤ 0
  · rw [if_pos h0]
  · rw [if_neg h0, Int.toNat_natCast]
    refine M.subB_iff.2 (M.bs_least (n := n) (fun k => (nz O k).toNat) (fun i j hi hj hm => (h.2 i j hi hj (by omega)).must hm) (fun i j hi hj hb => winB_bits ((h.2 i j hi hj (by omega)).goes hb)) i hi)
set_option maxRecDepth 100000 in
set_option maxHeartbeats 4000000 in
theorem tbf_walk (P : Int) (T : List (Int × Int)) (p : Option Addr) (n cap : Nat) (O : List Int) (q : Option Addr) (m cap' : Nat) (w : World) (hl : T.length = n) (hmax : n ≤ maxLen) (hc : HasE T p w) (hlo : O.length = m) (hmo : m ≤ maxLen) (ho : HasI O q w) (hwf : ∀ k, nz O k < 9223372036854775808) :
    Calls Try.prog 3 #[trV P p n cap, .slice q m cap'] w fun e w' => e = .returned (.bool true) ∧ Below w.heap.size w w' := by
  have hB0 : Below w.heap.size w (w.alloc (.cells #[.int .i64 P, .slice p n cap] 24)) := (Below.refl _ _).alloc (Nat.le_refl _) _
  have hbox := tbox_new w P p n cap
  obtain ⟨wb, hwb⟩ : ∃ wb, w.alloc (.cells #[.int .i64 P, .slice p n cap] 24) = wb := ⟨_, rfl⟩
  rw [hwb] at hB0 hbox
  unfold maxLen at hmo
  go_enter Try.func3, Try.ntmps3
  go_wp2_with fail
  refine (traceFact_ok _).mono ?_
  rintro e w1 ⟨rfl, hB1⟩
  have hC1 := bel_on hB0 hB1
  have hb1 := hbox.later hB1 hbox.lt
  have hk1 := hb1.procs
  have hk2 := hb1.events
  clear hwb
  go_wp2_with fail
  by_cases h0 : M.tcode P T = 0
  · refine (before_ok P T p n cap _ hl hmax (hc.later hC1) h0).mono ?_
    rintro e w2 ⟨A, rfl, hr, hA, hB2⟩
    have hC2 := bel_on hC1 hB2
    have hb2 := hb1.later hB2 hb1.lt
    have hok := M.tcode_zero.1 h0
    have hn : n ≤ 24 := hl ▸ hok.len
    clear hk1 hk2
    have hk1 := hb2.procs
    have hk2 := hb2.events
    have ho2 := ho.later hC2
    have hc2 := hc.later hC2
    obtain ⟨g0, hg0⟩ : ∃ g : Bool, ((m : Int) == (n : Int)) = g := ⟨_, rfl⟩
    have HG0 : Hid (g0 = true → GoodTo T O n 0 0) := (fun h => ⟨by rw [h] at hg0; have := beq_iff_eq.1 hg0; omega, fun i' j' _ _ h3 => by omega⟩ : g0 = true → GoodTo T O n 0 0)
    have hlen : (M.before T).length = n := by rw [M.before_length, hl]
    go_wp2_with fail
    go_loopw [9, 10] (fun u v wr => ∃ (i : Nat) (g : Bool), u = .bool g ∧ v = .int .i64 i ∧ i ≤ n ∧ Hid (g = true → GoodTo T O n i 0) ∧ Below w2.heap.size w2 wr) (fun _ v _ => n - (intOf v).toNat)
    case atStart => exact ⟨0, g0, rfl, rfl, Nat.zero_le _, HG0, Below.refl _ _⟩
    case round =>
      clear hk1 hk2 hg0 HG0
      obtain ⟨i, g, rfl, rfl, hi, hG, hBr⟩ := hrel
      by_cases hlt : i < n
      · have hrr := hr.below hBr hr.lt
        have hcx := hrr.cell (k := i) (by omega)
        rw [M.before_row T (by omega)] at hcx
        have hxb := M.bs_lt T i
        obtain ⟨pw, hpw⟩ : ∃ pw, 2 ^ i = pw := ⟨_, rfl⟩
        have HP : Hid (2 ^ i = pw) := hpw
        have hp4 := pow_24 i (by omega)
        rw [hpw] at hxb hp4
        obtain ⟨x, hx⟩ : ∃ x, M.bs T i = x := ⟨_, rfl⟩
        have HX : Hid (M.bs T i = x) := hx
        rw [hx] at hcx hxb
        clear hpw hx
        have e1 : decide ((x : Int) < 0) = false := decide_eq_false (by omega)
        have e2 : decide ((pw : Int) ≤ (x : Int)) = false := decide_eq_false (by omega)
        have e3 : decide (pw ≤ x) = false := decide_eq_false (by omega)
        have hp2 := fun W => pow2_big i pw W (by omega) HP
        go_wp2_with fail
        go_big_quiet ((go_at_call 9; exact Calls.quiet_of_same ((hp2 _).mono (fun e w' h => ⟨h.1, h.2.symm⟩))))
        go_wp2_with fail
        go_loopw [9, 11] (fun u v wr2 => ∃ (j : Nat) (g : Bool), u = .bool g ∧ v = .int .i64 j ∧ j ≤ i ∧ Hid (g = true → GoodTo T O n i j) ∧ Below w2.heap.size w2 wr2) (fun _ v _ => i - (intOf v).toNat)
        case atStart => exact ⟨0, g, rfl, rfl, Nat.zero_le _, hG, hBr.trans ((below_drewN _ _).mono hBr.size)⟩
        case round =>
          clear hp2 e1 e2 e3 hcx hrr
          obtain ⟨j, g2, rfl, rfl, hj, hG2, hBs⟩ := hrel
          by_cases hji : j < i
          · have hrr := hr.below hBs hr.lt
            have hcx := hrr.cell (k := i) (by omega)
            have hcy := hrr.cell (k := j) (by omega)
            rw [M.before_row T (by omega), HX.out] at hcx
            rw [M.before_row T (by omega)] at hcy
            have hyb := M.bs_lt T j
            have hpj := pow_24 j (by omega)
            obtain ⟨y, hy⟩ : ∃ y, M.bs T j = y := ⟨_, rfl⟩
            have HY : Hid (M.bs T j = y) := hy
            rw [hy] at hcy hyb
            have hy24 : y < 16777216 := by omega
            clear hy hyb hpj
            obtain ⟨b, off, rfl, hb, hp1, hp3⟩ := (hc2.later hBs) i (by omega)
            obtain ⟨_, _, e0, _, hq1, -⟩ := (hc2.later hBs) j (by omega)
            cases e0
            have hbx := hb2.later hBs hb2.lt
            have hk2 := hbx.events
            obtain ⟨ai, hai⟩ : ∃ a, M.pr T i = a := ⟨_, rfl⟩
            obtain ⟨aj, haj⟩ : ∃ a, M.pr T j = a := ⟨_, rfl⟩
            obtain ⟨fi, hfi⟩ : ∃ a, M.fm T i = a := ⟨_, rfl⟩
            rw [hai] at hp1
            rw [hfi] at hp3
            rw [haj] at hq1
            have hjn : (j : Int) < (n : Int) := by omega
            have hin : (i : Int) < (n : Int) := by omega
            have hjn' : j < n := by omega
            obtain ⟨t1, ht1⟩ : ∃ t : Bool, (aj == ai) = t := ⟨_, rfl⟩
            obtain ⟨t2, ht2⟩ : ∃ t : Bool, (fi == (j : Int)) = t := ⟨_, rfl⟩
            obtain ⟨mu, hmu⟩ : ∃ t : Bool, (t1 || t2) = t := ⟨_, rfl⟩
            have HM : Hid (M.mustB T j i = mu) := by
              show _ = _
              unfold M.mustB
              rw [hai, haj, hfi, ht1, ht2, hmu]
            clear hai haj hfi
            go_upto_region 19 with fail
            go_cut [12] from 57 to 154 (fun u w' => u = .bool mu ∧ Below w2.heap.size w2 w')
            case first =>
              cases t1 with
              | true =>
                go_big_quiet (fail)
                go_wp2_with fail
                go_meet
                case rel => exact ⟨by subst hmu; rfl, hBs.trans ((below_drewN _ _).mono hBs.size)⟩
              | false =>
                cases t2 with
                | true =>
                  go_big_quiet (fail)
                  go_wp2_with fail
                  go_meet
                  case rel => exact ⟨by subst hmu; rfl, hBs.trans ((below_drewN _ _).mono hBs.size)⟩
                | false =>
                  go_big_quiet (fail)
                  go_wp2_with fail
                  go_meet
                  case rel => exact ⟨by subst hmu; rfl, hBs.trans ((below_drewN _ _).mono hBs.size)⟩
            case rest =>
              obtain ⟨rfl, hBc⟩ := hcut
              clear hcx hcy hrr hp1 hp3 hq1 hk2 ht1 ht2 hmu
              have hrr := hr.below hBc hr.lt
              have hcx := hrr.cell (k := i) (by omega)
              have hcy := hrr.cell (k := j) (by omega)
              rw [M.before_row T (by omega), HX.out] at hcx
              rw [M.before_row T (by omega), HY.out] at hcy
              obtain ⟨tb, htb⟩ : ∃ t, x.testBit j = t := ⟨_, rfl⟩
              have hbit : ∀ W, Calls Try.prog 10 #[.int .i64 x, .int .i64 j] W fun e w' => e = .returned (.bool tb) ∧ W = w' := fun W => by rw [← htb]; exact bit_big x j W (by omega) (by omega)
              have hwin : tb = true → ∀ W, Calls Try.prog 11 #[.int .i64 y, .int .i64 x] W fun e w' => e = .returned (.bool true) ∧ W = w' := fun h W => by
                have := within_big y x W (by omega) (by omega)
                rw [M.subB_iff.2 (fun k hk => by rw [← HX.out]; exact M.bs_trans T i j k (by rw [HX.out, htb]; exact h) (by rw [HY.out]; exact hk))] at this
                exact this
              have hmt : mu = true → tb = true := fun h => by rw [← htb, ← HX.out]; exact M.bs_must hji (by rw [HM.out]; exact h)
              clear htb
              go_upto_if 114 with fail
              go_cut [114] from 57 to 154 (fun u w' => u = .bool false ∧ Below w2.heap.size w2 w')
              case first =>
                cases tb with
                | true =>
                  have hw9 := hwin rfl
                  clear hwin
                  cases mu with
                  | true =>
                    clear hmt
                    go_wp2_with fail
                    go_big_quiet (first | (go_at_call 10; exact Calls.quiet_of_same ((hbit _).mono (fun e w' h => ⟨h.1, h.2.symm⟩))) | (go_at_call 11; exact Calls.quiet_of_same ((hw9 _).mono (fun e w' h => ⟨h.1, h.2.symm⟩))))
                    go_wp2_with fail
                    go_meet
                    case rel => exact ⟨rfl, hBc.trans ((below_drewN _ _).mono hBc.size)⟩
                  | false =>
                    clear hmt
                    go_wp2_with fail
                    go_big_quiet (first | (go_at_call 10; exact Calls.quiet_of_same ((hbit _).mono (fun e w' h => ⟨h.1, h.2.symm⟩))) | (go_at_call 11; exact Calls.quiet_of_same ((hw9 _).mono (fun e w' h => ⟨h.1, h.2.symm⟩))))
                    go_wp2_with fail
                    go_meet
                    case rel => exact ⟨rfl, hBc.trans ((below_drewN _ _).mono hBc.size)⟩
                | false =>
                  obtain rfl : mu = false := by
                    cases mu with
                    | false => rfl
                    | true => exact absurd (hmt rfl) (by simp)
                  clear hmt hwin
                  go_wp2_with fail
                  go_big_quiet ((go_at_call 10; exact Calls.quiet_of_same ((hbit _).mono (fun e w' h => ⟨h.1, h.2.symm⟩))))
                  go_wp2_with fail
                  go_meet
                  case rel => exact ⟨rfl, hBc.trans ((below_drewN _ _).mono hBc.size)⟩
              case rest =>
                clear hbit hwin hmt hcx hcy hrr hBc
                obtain ⟨rfl, hBc⟩ := hcut
                cases g2 with
                | false =>
                  go_wp2_with fail
                  go_big_quiet (fail)
                  go_wp2_with fail
                  go_roundw
                  case rel => exact ⟨j + 1, false, rfl, by go_num, by omega, (fun h => by cases h), hBc.trans ((below_drewN _ _).mono hBc.size)⟩
                  case measure => simp [intOf]; omega
                | true =>
                  have hGd := hG2.out rfl
                  have hmn : m = n := by have := hGd.1; omega
                  subst hmn
                  obtain ⟨b2, off2, rfl, hb2', hoi⟩ := (ho2.later hBc) i (by omega)
                  obtain ⟨_, _, e0, _, hoj⟩ := (ho2.later hBc) j (by omega)
                  cases e0
                  have hwi := hwf i
                  have hwj := hwf j
                  rw [show O[i]?.getD 0 = nz O i from rfl] at hoi
                  rw [show O[j]?.getD 0 = nz O j from rfl] at hoj
                  obtain ⟨zi, hzi⟩ : ∃ z, nz O i = z := ⟨_, rfl⟩
                  obtain ⟨zj, hzj⟩ : ∃ z, nz O j = z := ⟨_, rfl⟩
                  have HI : Hid (nz O i = zi) := hzi
                  have HJ : Hid (nz O j = zj) := hzj
                  rw [hzi] at hoi hwi
                  rw [hzj] at hoj hwj
                  clear hzi hzj hG2
                  have HGd : Hid (GoodTo T O m i j) := hGd
                  clear hGd hwf
                  by_cases hneg : zi < 0
                  · have hd : decide (0 ≤ zi) = false := decide_eq_false (by omega)
                    go_wp2_with fail
                    go_big_quiet (fail)
                    go_wp2_with fail
                    go_roundw
                    case rel => exact ⟨j + 1, false, rfl, by go_num, by omega, (fun h => by cases h), hBc.trans ((below_drewN _ _).mono hBc.size)⟩
                    case measure => simp [intOf]; omega
                  · obtain ⟨s, rfl⟩ : ∃ s : Nat, zi = s := ⟨zi.toNat, by omega⟩
                    have hd : decide ((0 : Int) ≤ (s : Int)) = true := decide_eq_true (by omega)
                    obtain ⟨tb, htb⟩ : ∃ t, s.testBit j = t := ⟨_, rfl⟩
                    obtain ⟨tw, htw⟩ : ∃ t, winB zj (s : Nat) = t := ⟨_, rfl⟩
                    have hb9 : ∀ W, Calls Try.prog 10 #[.int .i64 s, .int .i64 j] W fun e w' => e = .returned (.bool tb) ∧ W = w' := fun W => by rw [← htb]; exact bit_big s j W (by omega) (by omega)
                    have hw9 : ∀ W, Calls Try.prog 11 #[.int .i64 zj, .int .i64 s] W fun e w' => e = .returned (.bool tw) ∧ W = w' := fun W => by rw [← htw]; exact within_z zj s W (by omega) (by omega) (by omega)
                    have HK : Hid ((mu = true → tb = true) → (tb = true → tw = true) → GoodTo T O m i (j + 1)) := (fun h1 h2 => good_step HGd.out ⟨by rw [HI.out]; omega, fun h => by rw [HI.out, Int.toNat_natCast, htb]; exact h1 (by rw [← HM.out]; exact h), fun h => by rw [HI.out, Int.toNat_natCast, htb] at h; rw [HI.out, HJ.out, htw]; exact h2 h⟩ : (mu = true → tb = true) → (tb = true → tw = true) → GoodTo T O m i (j + 1))
                    clear htb htw hneg hwi hwj
                    cases mu with
                    | true =>
                      cases tb with
                      | false =>
                        go_wp2_with fail
                        go_big_quiet ((go_at_call 10; exact Calls.quiet_of_same ((hb9 _).mono (fun e w' h => ⟨h.1, h.2.symm⟩))))
                        go_wp2_with fail
                        go_roundw
                        case rel => exact ⟨j + 1, false, rfl, by go_num, by omega, (fun h => by cases h), hBc.trans ((below_drewN _ _).mono hBc.size)⟩
                        case measure => simp [intOf]; omega
                      | true =>
                        cases tw with
                        | false =>
                          go_wp2_with fail
                          go_big_quiet (first | (go_at_call 10; exact Calls.quiet_of_same ((hb9 _).mono (fun e w' h => ⟨h.1, h.2.symm⟩))) | (go_at_call 11; exact Calls.quiet_of_same ((hw9 _).mono (fun e w' h => ⟨h.1, h.2.symm⟩))))
                          go_wp2_with fail
                          go_roundw
                          case rel => exact ⟨j + 1, false, rfl, by go_num, by omega, (fun h => by cases h), hBc.trans ((below_drewN _ _).mono hBc.size)⟩
                          case measure => simp [intOf]; omega
                        | true =>
                          have HKK : Hid (GoodTo T O m i (j + 1)) := HK.out (fun _ => rfl) (fun _ => rfl)
                          clear HK
                          go_wp2_with fail
                          go_big_quiet (first | (go_at_call 10; exact Calls.quiet_of_same ((hb9 _).mono (fun e w' h => ⟨h.1, h.2.symm⟩))) | (go_at_call 11; exact Calls.quiet_of_same ((hw9 _).mono (fun e w' h => ⟨h.1, h.2.symm⟩))))
                          go_wp2_with fail
                          go_roundw
                          case rel => exact ⟨j + 1, true, rfl, by go_num, by omega, (fun _ => HKK.out), hBc.trans ((below_drewN _ _).mono hBc.size)⟩
                          case measure => simp [intOf]; omega
                    | false =>
                      cases tb with
                      | false =>
                        have HKK : Hid (GoodTo T O m i (j + 1)) := HK.out (fun h => absurd h (by simp)) (fun h => absurd h (by simp))
                        clear HK
                        go_wp2_with fail
                        go_big_quiet ((go_at_call 10; exact Calls.quiet_of_same ((hb9 _).mono (fun e w' h => ⟨h.1, h.2.symm⟩))))
                        go_wp2_with fail
                        go_roundw
                        case rel => exact ⟨j + 1, true, rfl, by go_num, by omega, (fun _ => HKK.out), hBc.trans ((below_drewN _ _).mono hBc.size)⟩
                        case measure => simp [intOf]; omega
                      | true =>
                        cases tw with
                        | false =>
                          go_wp2_with fail
                          go_big_quiet (first | (go_at_call 10; exact Calls.quiet_of_same ((hb9 _).mono (fun e w' h => ⟨h.1, h.2.symm⟩))) | (go_at_call 11; exact Calls.quiet_of_same ((hw9 _).mono (fun e w' h => ⟨h.1, h.2.symm⟩))))
                          go_wp2_with fail
                          go_roundw
                          case rel => exact ⟨j + 1, false, rfl, by go_num, by omega, (fun h => by cases h), hBc.trans ((below_drewN _ _).mono hBc.size)⟩
                          case measure => simp [intOf]; omega
                        | true =>
                          have HKK : Hid (GoodTo T O m i (j + 1)) := HK.out (fun _ => rfl) (fun _ => rfl)
                          clear HK
                          go_wp2_with fail
                          go_big_quiet (first | (go_at_call 10; exact Calls.quiet_of_same ((hb9 _).mono (fun e w' h => ⟨h.1, h.2.symm⟩))) | (go_at_call 11; exact Calls.quiet_of_same ((hw9 _).mono (fun e w' h => ⟨h.1, h.2.symm⟩))))
                          go_wp2_with fail
                          go_roundw
                          case rel => exact ⟨j + 1, true, rfl, by go_num, by omega, (fun _ => HKK.out), hBc.trans ((below_drewN _ _).mono hBc.size)⟩
                          case measure => simp [intOf]; omega
          · obtain rfl : j = i := by omega
            have HN : Hid (g2 = true → GoodTo T O n (j + 1) 0) := (fun h => good_next (hG2.out h) : g2 = true → GoodTo T O n (j + 1) 0)
            go_wp2_with fail
            go_roundw
            case rel => exact ⟨j + 1, g2, rfl, by go_num, by omega, HN, hBs⟩
            case measure => simp [intOf]; omega
      · obtain rfl : i = n := by omega
        clear hlt hi
        go_wp2_with fail
        go_loopw [13] (fun v wx => ∃ k : Nat, v = .int .i64 k ∧ k ≤ i ∧ Below w2.heap.size w2 wx) (fun v _ => i - (intOf v).toNat)
        case atStart => exact ⟨0, rfl, Nat.zero_le _, hBr⟩
        case round =>
          obtain ⟨k, rfl, hk, hBx⟩ := hrel
          by_cases hki : k < i
          · cases g with
            | false =>
              go_wp2_with fail
              go_ret
              exact ⟨rfl, bel_on hC2 hBx⟩
            | true =>
              have hGd := hG.out rfl
              have hmn : m = i := by have := hGd.1; omega
              subst hmn
              have hrr := hr.below hBx hr.lt
              have hcx := hrr.cell (k := k) (by omega)
              rw [M.before_row T (by omega)] at hcx
              obtain ⟨b2, off2, rfl, hb2', hok2⟩ := (ho2.later hBx) k (by omega)
              rw [show O[k]?.getD 0 = nz O k from rfl] at hok2
              have hw9 : ∀ W, Calls Try.prog 11 #[.int .i64 (M.bs T k : Nat), .int .i64 (nz O k)] W fun e w' => e = .returned (.bool true) ∧ W = w' := fun W => by
                have h1 := good_least hGd hki
                have h2 := M.bs_lt T k
                have h3 := pow_24 k (by omega)
                have h4 := hwf k
                by_cases hx0 : M.bs T k = 0
                · rw [hx0]; exact within_none _ _ W (by omega)
                · have hk0 : 0 < k := by
                    rcases Nat.eq_zero_or_pos k with e | e
                    · subst e; simp at h2; omega
                    · exact e
                  have h5 := (hGd.2 k 0 hki hk0 (by omega)).pos
                  have := within_z (M.bs T k : Nat) (nz O k) W (by omega) h4 h5
                  rw [h1] at this
                  exact this
              obtain ⟨x, hx⟩ : ∃ x, M.bs T k = x := ⟨_, rfl⟩
              obtain ⟨z, hz⟩ : ∃ z, nz O k = z := ⟨_, rfl⟩
              rw [hx] at hcx
              rw [hz] at hok2
              simp only [hx, hz] at hw9
              clear hx hz hGd hG hwf
              go_wp2_with fail
              go_big_quiet ((go_at_call 11; exact Calls.quiet_of_same ((hw9 _).mono (fun e w' h => ⟨h.1, h.2.symm⟩))))
              go_wp2_with fail
              go_roundw
              case rel => exact ⟨k + 1, by go_num, by omega, hBx.trans ((below_drewN _ _).mono hBx.size)⟩
              case measure => simp [intOf]; omega
          · go_wp2_with fail
            go_ret
            exact ⟨rfl, bel_on hC2 hBx⟩
  · refine (before_err P T p n cap _ _ hl hmax (hc.later hC1) rfl h0).mono ?_
    rintro e w2 ⟨rfl, hB2⟩
    go_wp2_with fail
    go_ret
    exact ⟨rfl, bel_on hC1 hB2⟩
end Go.Proofs.Ytnofgmbpkgnciaa
