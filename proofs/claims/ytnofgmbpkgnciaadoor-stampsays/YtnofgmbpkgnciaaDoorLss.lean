/- OF ANY TRACE THE CLOCKS, AND THE ROW (law StampSays): whatever the trace and the two lists, the call returns true; what lay in memory lies as it lay. -/
import Derived.Test.YtnofgmbpkgnciaaDoorErr
import Derived.Test.YtnofgmbpkgnciaaDoorRefTrc
import Derived.Test.YtnofgmbpkgnciaaDoorRefRow
import Derived.Test.YtnofgmbpkgnciaaDoorRefVec
import Derived.Test.YtnofgmbpkgnciaaDoorSrw
import Derived.Test.YtnofgmbpkgnciaaDoorSbl
namespace Go.Proofs.YtnofgmbpkgnciaaDoor
open Go.RowKit

theorem er_none (w : World) : Calls Tryd.prog 6 #[.nilIface, .int .i64 0] w fun e w' => e = .returned (.bool true) ∧ Below w.heap.size w w' := by
  refine (error_nil w).mono ?_
  rintro e w' ⟨rfl, rfl⟩
  exact ⟨rfl, Below.refl _ _⟩
theorem in_none (w : World) : Calls Tryd.prog 11 #[.slice none 0 0, .slice none 0 0] w fun e w' => e = .returned (.bool true) ∧ Below w.heap.size w w' :=
  same_intsI [] none none 0 0 0 w rfl (Nat.zero_le _) (fun _ hj => absurd hj (Nat.not_lt_zero _)) (fun _ hj => absurd hj (Nat.not_lt_zero _))
theorem rw_none (w : World) : Calls Tryd.prog 20 #[.slice none 0 0, .slice none 0 0] w fun e w' => e = .returned (.bool true) ∧ Below w.heap.size w w' :=
  same_rows [] none none 0 0 0 w rfl (Nat.zero_le _) (fun j => by simp) (fun _ hj => absurd hj (Nat.not_lt_zero _)) (fun _ hj => absurd hj (Nat.not_lt_zero _))
theorem plainI_ok (P : Int) (T : List (Int × Int)) (p : Option Addr) (n cap : Nat) (w : World) (hl : T.length = n) (hmax : n ≤ maxLen) (hc : HasE T p w) (h0 : M.tcode P T = 0) :
    Calls Tryd.prog 18 #[trV P p n cap] w fun e w' => ∃ q, e = .returned (.tuple #[.slice q n n, .nilIface]) ∧ HasI (ints (M.clocks T)) q w' ∧ Below w.heap.size w w' := by
  refine (plain_ok P T p n cap w hl hmax hc h0).mono ?_
  rintro e w' ⟨A, rfl, hr, _, hB⟩
  exact ⟨_, rfl, RowAt.hasI hr, hB⟩
theorem vectorsR_ok (P : Nat) (T : List (Int × Int)) (p : Option Addr) (n cap : Nat) (w : World) (hl : T.length = n) (hmax : n ≤ maxLen) (hc : HasE T p w) (h0 : M.tcode P T = 0) :
    Calls Tryd.prog 19 #[trV P p n cap] w fun e w' => ∃ q, e = .returned (.tuple #[.slice q n n, .nilIface]) ∧ HasR ((List.range n).map fun j => ints (M.vcs T j P)) q w' ∧ Below w.heap.size w w' := by
  have hP5 := (M.tcode_zero.1 h0).p5
  refine (vectors_ok P T p n cap w hl hmax hc h0).mono ?_
  rintro e w' ⟨A, N, rfl, hr, _, _, hB⟩
  exact ⟨_, rfl, hr.hasR (by omega), hB⟩
theorem rowI_ok (P : Nat) (T : List (Int × Int)) (p : Option Addr) (n cap : Nat) (w : World) (hl : T.length = n) (hmax : n ≤ maxLen) (hc : HasE T p w) (h0 : M.tcode P T = 0) :
    Calls Tryd.prog 21 #[trV P p n cap] w fun e w' => ∃ q, e = .returned (.tuple #[.slice q n n, .nilIface]) ∧ HasI (ints (M.rc T n P n)) q w' ∧ Below w.heap.size w w' := by
  have hR := M.rc_is (M.tcode_zero.1 h0)
  rw [hl] at hR
  refine (row_ok P T p n cap w hl hmax hc h0).mono ?_
  rintro e w' ⟨A, L, rfl, hL, hI, _, hB⟩
  rw [hL.one hR] at hI
  exact ⟨_, rfl, hI, hB⟩
namespace M
/-- are two lists the same, below k? -/
def eqB (V W : List Int) : Nat → Bool
  | 0 => true
  | k + 1 => eqB V W k && (iz V k == iz W k)
theorem eqB_iff {V W : List Int} (n : Nat) : eqB V W n = true ↔ ∀ k, k < n → iz V k = iz W k := by
  induction n with
  | zero => simp [eqB]
  | succ n ih =>
    simp only [eqB]
    rw [Bool.and_eq_true, ih, beq_iff_eq]
    constructor
    · rintro ⟨h1, h2⟩ k hk
      by_cases e : k = n
      · subst e; exact h2
      · exact h1 k (by omega)
    · intro h; exact ⟨fun k hk => h k (by omega), h n (by omega)⟩
theorem eqB_no {V W : List Int} {k n : Nat} (hk : k < n) (h : iz V k ≠ iz W k) : eqB V W n = false := by
  cases e : eqB V W n with
  | false => rfl
  | true => exact absurd ((eqB_iff n).1 e k hk) h
theorem below_eq (V W : List Int) (n : Nat) : belowB V W n = (!eqB V W n && leB V W n) := by
  unfold belowB
  cases h : leB V W n with
  | false => simp
  | true =>
    have hle := (leB_iff n).1 h
    rw [Bool.true_and, Bool.and_true]
    cases e : eqB V W n with
    | true =>
      have he := (eqB_iff n).1 e
      cases f : ltB V W n with
      | false => rfl
      | true =>
        obtain ⟨k, a, b⟩ := (ltB_iff n).1 f
        have := he k a
        omega
    | false =>
      have : ∃ k, k < n ∧ iz V k < iz W k := by
        apply Classical.byContradiction
        intro hno
        have : eqB V W n = true := (eqB_iff n).2 fun k hk => by
          have h1 := hle k hk
          have h2 : ¬ iz V k < iz W k := fun h => hno ⟨k, hk, h⟩
          omega
        rw [e] at this; cases this
      rw [(ltB_iff n).2 this]; rfl
end M
set_option maxHeartbeats 1000000 in
theorem ints_any (V W : List Int) (p q : Option Addr) (n cap cap' : Nat) (w : World) (hlv : V.length = n) (hlw : W.length = n) (hmax : n ≤ maxLen) (hp : HasI V p w) (hq : HasI W q w) :
    Calls Tryd.prog 11 #[.slice p n cap, .slice q n cap'] w fun e w' => e = .returned (.bool (M.eqB V W n)) ∧ Below w.heap.size w w' := by
  unfold maxLen at hmax
  go_enter Tryd.func11, Tryd.ntmps11
  go_wp2
  go_loopw [5] (fun i wr => ∃ k : Nat, k ≤ n ∧ i = .int .i64 k ∧ Hid (M.eqB V W k = true) ∧ Below w.heap.size w wr) (fun i _ => n - (intOf i).toNat)
  case atStart => exact ⟨0, Nat.zero_le _, rfl, (rfl : M.eqB V W 0 = true), Below.refl _ _⟩
  case round =>
    obtain ⟨k, hk, rfl, hG, hB⟩ := hrel
    by_cases hlt : k < n
    · obtain ⟨b, off, rfl, hb, hc1⟩ := hp.later hB k (by omega)
      obtain ⟨b', off', rfl, hb', hc2⟩ := hq.later hB k (by omega)
      obtain ⟨x, hx⟩ : ∃ z, V[k]?.getD 0 = z := ⟨_, rfl⟩
      obtain ⟨y, hy⟩ : ∃ z, W[k]?.getD 0 = z := ⟨_, rfl⟩
      rw [hx] at hc1
      rw [hy] at hc2
      have HX : Hid (M.iz V k = x) := hx
      have HY : Hid (M.iz W k = y) := hy
      clear hx hy hp hq
      by_cases h : x = y
      · have d1 : (x != y) = false := by subst h; simp
        have HN : Hid (M.eqB V W (k + 1) = true) := by
          show _ = _
          simp only [M.eqB]; rw [hG.out, HX.out, HY.out, h]; simp
        clear h
        go_wp2
        go_big_quiet (fail)
        go_wp2
        go_roundw
        case rel => exact ⟨k + 1, by omega, by go_num, HN, bel_drN hB _⟩
        case measure => simp [intOf]; omega
      · have d1 : (x != y) = true := by simpa using h
        have HN : Hid (M.eqB V W n = false) := M.eqB_no hlt (by rw [HX.out, HY.out]; exact h)
        clear h
        go_wp2
        go_big_quiet (fail)
        go_wp2
        go_ret
        exact ⟨by rw [HN.out]; rfl, bel_drN hB _⟩
    · obtain rfl : k = n := by omega
      clear hp hq
      go_wp2
      go_ret
      exact ⟨by rw [hG.out]; rfl, hB⟩
set_option maxRecDepth 100000 in
set_option maxHeartbeats 8000000 in
theorem sts_ok_eq (Pn : Nat) (T : List (Int × Int)) (p : Option Addr) (n cap : Nat) (V : List Int) (q' : Option Addr) (m cv : Nat) (Z : List Int) (r' : Option Addr) (m' cw : Nat) (w : World) (hl : T.length = n) (hmax : n ≤ maxLen) (hc : HasE T p w) (hlV : V.length = m) (hmV : m ≤ maxLen) (hV : HasI V q' w) (hlZ : Z.length = m') (_hmZ : m' ≤ maxLen) (hZ : HasI Z r' w) (hg : Ety w) (h0 : M.tcode Pn T = 0) (hml : m = m') :
    Calls Tryd.prog 4 #[trV Pn p n cap, .slice q' m cv, .slice r' m' cw] w fun e w' => e = .returned (.bool true) ∧ Below w.heap.size w w' := by
  have hB0 : Below w.heap.size w (w.alloc (.cells #[.int .i64 Pn, .slice p n cap] 24)) := bel_al (Below.refl _ _) _
  have hb1 := tbox_new w Pn p n cap
  obtain ⟨wb, hwb⟩ : ∃ wb, w.alloc (.cells #[.int .i64 Pn, .slice p n cap] 24) = wb := ⟨_, rfl⟩
  rw [hwb] at hB0 hb1
  have hcT := hc.later hB0
  have hcV := hV.later hB0
  have hcW := hZ.later hB0
  have hty := hg.later hB0
  have hC : Below wb.heap.size wb wb := Below.refl _ _
  have hk1 := hb1.procs
  have hk2 := hb1.events
  have hok := M.tcode_zero.1 h0
  have hP5 := hok.p5
  have hlr : (M.rc T n Pn n).length = n := by have := (M.rc_is hok).length; rw [hl] at this; exact this
  have hsm : ∀ j : Nat, (((List.range n).map fun j => ints (M.vcs T j Pn))[j]?.getD []).length ≤ maxLen := fun j => by
    by_cases hj : j < n
    · simp only [List.getElem?_map, List.getElem?_range hj, Option.map_some, Option.getD_some]
      rw [ints_length, M.vcs_length T j (by omega)]; unfold maxLen; omega
    · simp [hj]
  subst hml
  go_enter Tryd.func4, Tryd.ntmps4
  go_wp2_with fail
  refine (refTrace_ok Pn T p n cap _ hl hmax hcT).mono ?_
  rw [h0]
  rintro e v1 ⟨rfl, hB⟩
  clear hk1 hk2
  replace hcT := hcT.later hB
  replace hcV := hcV.later hB
  replace hcW := hcW.later hB
  replace hty := hty.later hB
  replace hb1 := hb1.later hB hb1.lt
  replace hC := bel_on hC hB
  have hk1 := hb1.procs
  have hk2 := hb1.events
  clear hB
  go_wp2_with fail
  refine (refPlain_ok Pn T p n cap _ hl hcT hok).mono ?_
  rintro e v2 ⟨qx, cx, rfl, hx, hB⟩
  clear hk1 hk2
  replace hcT := hcT.later hB
  replace hcV := hcV.later hB
  replace hcW := hcW.later hB
  replace hty := hty.later hB
  replace hb1 := hb1.later hB hb1.lt
  replace hC := bel_on hC hB
  have hk1 := hb1.procs
  have hk2 := hb1.events
  clear hB
  go_wp2_with fail
  refine (refVectors_ok Pn T p n cap _ hl hcT hok).mono ?_
  rintro e v3 ⟨qy, cy, rfl, hy, hB⟩
  clear hk1 hk2
  replace hcT := hcT.later hB
  replace hcV := hcV.later hB
  replace hcW := hcW.later hB
  replace hty := hty.later hB
  replace hx := hx.later hB
  replace hb1 := hb1.later hB hb1.lt
  replace hC := bel_on hC hB
  have hk1 := hb1.procs
  have hk2 := hb1.events
  clear hB
  go_wp2_with fail
  refine (refRow_ok Pn T p n cap _ hl hcT hok).mono ?_
  rintro e v4 ⟨qz, cz, rfl, hz, hB⟩
  clear hk1 hk2
  replace hcT := hcT.later hB
  replace hcV := hcV.later hB
  replace hcW := hcW.later hB
  replace hty := hty.later hB
  replace hx := hx.later hB
  replace hy := hy.later hB
  replace hb1 := hb1.later hB hb1.lt
  replace hC := bel_on hC hB
  have hk1 := hb1.procs
  have hk2 := hb1.events
  clear hB
  go_wp2_with fail
  refine (plainI_ok Pn T p n cap _ hl hmax hcT h0).mono ?_
  rintro e v5 ⟨q1, rfl, hx1, hB⟩
  clear hk1 hk2
  replace hcT := hcT.later hB
  replace hcV := hcV.later hB
  replace hcW := hcW.later hB
  replace hty := hty.later hB
  replace hx := hx.later hB
  replace hy := hy.later hB
  replace hz := hz.later hB
  replace hb1 := hb1.later hB hb1.lt
  replace hC := bel_on hC hB
  have hk1 := hb1.procs
  have hk2 := hb1.events
  clear hB
  go_wp2_with fail
  refine (er_none _).mono ?_
  rintro e v6 ⟨rfl, hB⟩
  clear hk1 hk2
  replace hcT := hcT.later hB
  replace hcV := hcV.later hB
  replace hcW := hcW.later hB
  replace hty := hty.later hB
  replace hx := hx.later hB
  replace hy := hy.later hB
  replace hz := hz.later hB
  replace hx1 := hx1.later hB
  replace hb1 := hb1.later hB hb1.lt
  replace hC := bel_on hC hB
  have hk1 := hb1.procs
  have hk2 := hb1.events
  clear hB
  go_wp2_with fail
  refine (same_intsI (ints (M.clocks T)) _ _ n n cx _ (by rw [ints_length, M.clocks_length, hl]) hmax hx1 hx).mono ?_
  rintro e v7 ⟨rfl, hB⟩
  clear hk1 hk2
  replace hcT := hcT.later hB
  replace hcV := hcV.later hB
  replace hcW := hcW.later hB
  replace hty := hty.later hB
  replace hx := hx.later hB
  replace hy := hy.later hB
  replace hz := hz.later hB
  replace hx1 := hx1.later hB
  replace hb1 := hb1.later hB hb1.lt
  replace hC := bel_on hC hB
  have hk1 := hb1.procs
  have hk2 := hb1.events
  clear hB
  go_wp2_with fail
  refine (vectorsR_ok Pn T p n cap _ hl hmax hcT h0).mono ?_
  rintro e v8 ⟨q2, rfl, hy1, hB⟩
  clear hk1 hk2
  replace hcT := hcT.later hB
  replace hcV := hcV.later hB
  replace hcW := hcW.later hB
  replace hty := hty.later hB
  replace hx := hx.later hB
  replace hy := hy.later hB
  replace hz := hz.later hB
  replace hx1 := hx1.later hB
  replace hb1 := hb1.later hB hb1.lt
  replace hC := bel_on hC hB
  have hk1 := hb1.procs
  have hk2 := hb1.events
  clear hB
  go_wp2_with fail
  refine (er_none _).mono ?_
  rintro e v9 ⟨rfl, hB⟩
  clear hk1 hk2
  replace hcT := hcT.later hB
  replace hcV := hcV.later hB
  replace hcW := hcW.later hB
  replace hty := hty.later hB
  replace hx := hx.later hB
  replace hy := hy.later hB
  replace hz := hz.later hB
  replace hx1 := hx1.later hB
  replace hy1 := hy1.later hB
  replace hb1 := hb1.later hB hb1.lt
  replace hC := bel_on hC hB
  have hk1 := hb1.procs
  have hk2 := hb1.events
  clear hB
  go_wp2_with fail
  refine (same_rows ((List.range n).map fun j => ints (M.vcs T j Pn)) _ _ n n cy _ (by simp) hmax hsm hy1 hy).mono ?_
  rintro e v10 ⟨rfl, hB⟩
  clear hk1 hk2
  replace hcT := hcT.later hB
  replace hcV := hcV.later hB
  replace hcW := hcW.later hB
  replace hty := hty.later hB
  replace hx := hx.later hB
  replace hy := hy.later hB
  replace hz := hz.later hB
  replace hx1 := hx1.later hB
  replace hy1 := hy1.later hB
  replace hb1 := hb1.later hB hb1.lt
  replace hC := bel_on hC hB
  have hk1 := hb1.procs
  have hk2 := hb1.events
  clear hB
  go_wp2_with fail
  refine (rowI_ok Pn T p n cap _ hl hmax hcT h0).mono ?_
  rintro e v11 ⟨q3, rfl, hz1, hB⟩
  clear hk1 hk2
  replace hcT := hcT.later hB
  replace hcV := hcV.later hB
  replace hcW := hcW.later hB
  replace hty := hty.later hB
  replace hx := hx.later hB
  replace hy := hy.later hB
  replace hz := hz.later hB
  replace hx1 := hx1.later hB
  replace hy1 := hy1.later hB
  replace hb1 := hb1.later hB hb1.lt
  replace hC := bel_on hC hB
  have hk1 := hb1.procs
  have hk2 := hb1.events
  clear hB
  go_wp2_with fail
  refine (er_none _).mono ?_
  rintro e v12 ⟨rfl, hB⟩
  clear hk1 hk2
  replace hcT := hcT.later hB
  replace hcV := hcV.later hB
  replace hcW := hcW.later hB
  replace hty := hty.later hB
  replace hx := hx.later hB
  replace hy := hy.later hB
  replace hz := hz.later hB
  replace hx1 := hx1.later hB
  replace hy1 := hy1.later hB
  replace hz1 := hz1.later hB
  replace hb1 := hb1.later hB hb1.lt
  replace hC := bel_on hC hB
  have hk1 := hb1.procs
  have hk2 := hb1.events
  clear hB
  go_wp2_with fail
  refine (same_intsI (ints (M.rc T n Pn n)) _ _ n n cz _ (by rw [ints_length]; exact hlr) hmax hz1 hz).mono ?_
  rintro e v13 ⟨rfl, hB⟩
  clear hk1 hk2
  replace hcT := hcT.later hB
  replace hcV := hcV.later hB
  replace hcW := hcW.later hB
  replace hty := hty.later hB
  replace hx := hx.later hB
  replace hy := hy.later hB
  replace hz := hz.later hB
  replace hx1 := hx1.later hB
  replace hy1 := hy1.later hB
  replace hz1 := hz1.later hB
  replace hb1 := hb1.later hB hb1.lt
  replace hC := bel_on hC hB
  have hk1 := hb1.procs
  have hk2 := hb1.events
  clear hB
  go_wp2_with fail
  refine (ints_any V Z q' r' m cv cw _ hlV hlZ hmV hcV hcW).mono ?_
  rintro e v14 ⟨rfl, hB⟩
  clear hk1 hk2
  replace hcT := hcT.later hB
  replace hcV := hcV.later hB
  replace hcW := hcW.later hB
  replace hty := hty.later hB
  replace hx := hx.later hB
  replace hy := hy.later hB
  replace hz := hz.later hB
  replace hx1 := hx1.later hB
  replace hy1 := hy1.later hB
  replace hz1 := hz1.later hB
  replace hb1 := hb1.later hB hb1.lt
  replace hC := bel_on hC hB
  have hk1 := hb1.procs
  have hk2 := hb1.events
  clear hB
  obtain ⟨eq, heq⟩ : ∃ b, M.eqB V Z m = b := ⟨_, rfl⟩
  rw [heq]
  have HE : Hid (M.eqB V Z m = eq) := heq
  clear heq
  go_wp2_with fail
  go_loopw [17, 18] (fun u x wr => ∃ (k : Nat) (g : Bool), u = .bool g ∧ x = .int .i64 k ∧ k ≤ m ∧ Hid (g = (!eq && M.leB V Z k)) ∧ Below v14.heap.size v14 wr) (fun _ x _ => m - (intOf x).toNat)
  case atStart => exact ⟨0, !eq, rfl, rfl, Nat.zero_le _, (by simp [M.leB] : (!eq) = (!eq && M.leB V Z 0)), Below.refl _ _⟩
  case round =>
    clear hk1 hk2
    have hm9 : m ≤ 9223372036854775807 := by have := hmV; unfold maxLen at this; omega
    obtain ⟨k, g, rfl, rfl, hk, hG, hBr⟩ := hrel
    by_cases hlt : k < m
    · obtain ⟨b1, o1, rfl, hb1l, hd1⟩ := hcV.later hBr k (by omega)
      obtain ⟨b2, o2, rfl, hb2l, hd2⟩ := hcW.later hBr k (by omega)
      obtain ⟨x, hx9⟩ : ∃ z, V[k]?.getD 0 = z := ⟨_, rfl⟩
      obtain ⟨y, hy9⟩ : ∃ z, Z[k]?.getD 0 = z := ⟨_, rfl⟩
      rw [hx9] at hd1
      rw [hy9] at hd2
      have HX : Hid (M.iz V k = x) := hx9
      have HY : Hid (M.iz Z k = y) := hy9
      have hkm : (k : Int) < (m : Int) := by omega
      obtain ⟨l, hle⟩ : ∃ l, decide (x ≤ y) = l := ⟨_, rfl⟩
      have HL : Hid (decide (x ≤ y) = l) := hle
      clear hx9 hy9
      cases g with
      | true =>
        have HN : Hid (l = (!eq && M.leB V Z (k + 1))) := by
          show _ = _
          simp only [M.leB]; rw [← Bool.and_assoc, ← hG.out, HX.out, HY.out, HL.out, Bool.true_and]
        go_wp2_with fail
        go_big_quiet (fail)
        go_wp2_with fail
        go_roundw
        case rel => exact ⟨k + 1, l, rfl, by go_num, by omega, HN, bel_drN hBr _⟩
        case measure => simp [intOf]; omega
      | false =>
        have HN : Hid (false = (!eq && M.leB V Z (k + 1))) := by
          show _ = _
          simp only [M.leB]; rw [← Bool.and_assoc, ← hG.out, Bool.false_and]
        go_wp2_with fail
        go_big_quiet (fail)
        go_wp2_with fail
        go_roundw
        case rel => exact ⟨k + 1, false, rfl, by go_num, by omega, HN, bel_drN hBr _⟩
        case measure => simp [intOf]; omega
    · obtain rfl : k = m := by omega
      have hbw := below_ok V Z q' r' k cv cw wr hlV hlZ hmV (hcV.later hBr) (hcW.later hBr)
      rw [M.below_eq, HE.out, ← hG.out] at hbw
      go_wp2_with fail
      refine hbw.mono ?_
      rintro e wy ⟨rfl, hBy⟩
      go_wp2_with fail
      refine (er_none _).mono ?_
      rintro e wz ⟨rfl, hBz⟩
      cases g with
      | true =>
        go_wp2_with fail
        go_ret
        exact ⟨rfl, bel_on hB0 (bel_on hC (bel_on hBr (bel_on hBy hBz)))⟩
      | false =>
        go_wp2_with fail
        go_ret
        exact ⟨rfl, bel_on hB0 (bel_on hC (bel_on hBr (bel_on hBy hBz)))⟩
set_option maxRecDepth 100000 in
set_option maxHeartbeats 8000000 in
theorem sts_ok_ne (Pn : Nat) (T : List (Int × Int)) (p : Option Addr) (n cap : Nat) (V : List Int) (q' : Option Addr) (m cv : Nat) (Z : List Int) (r' : Option Addr) (m' cw : Nat) (w : World) (hl : T.length = n) (hmax : n ≤ maxLen) (hc : HasE T p w) (_hlV : V.length = m) (_hmV : m ≤ maxLen) (hV : HasI V q' w) (_hlZ : Z.length = m') (_hmZ : m' ≤ maxLen) (hZ : HasI Z r' w) (hg : Ety w) (h0 : M.tcode Pn T = 0) (hml : m ≠ m') :
    Calls Tryd.prog 4 #[trV Pn p n cap, .slice q' m cv, .slice r' m' cw] w fun e w' => e = .returned (.bool true) ∧ Below w.heap.size w w' := by
  have hB0 : Below w.heap.size w (w.alloc (.cells #[.int .i64 Pn, .slice p n cap] 24)) := bel_al (Below.refl _ _) _
  have hb1 := tbox_new w Pn p n cap
  obtain ⟨wb, hwb⟩ : ∃ wb, w.alloc (.cells #[.int .i64 Pn, .slice p n cap] 24) = wb := ⟨_, rfl⟩
  rw [hwb] at hB0 hb1
  have hcT := hc.later hB0
  have hcV := hV.later hB0
  have hcW := hZ.later hB0
  have hty := hg.later hB0
  have hC : Below wb.heap.size wb wb := Below.refl _ _
  have hk1 := hb1.procs
  have hk2 := hb1.events
  have hok := M.tcode_zero.1 h0
  have hP5 := hok.p5
  have hlr : (M.rc T n Pn n).length = n := by have := (M.rc_is hok).length; rw [hl] at this; exact this
  have hsm : ∀ j : Nat, (((List.range n).map fun j => ints (M.vcs T j Pn))[j]?.getD []).length ≤ maxLen := fun j => by
    by_cases hj : j < n
    · simp only [List.getElem?_map, List.getElem?_range hj, Option.map_some, Option.getD_some]
      rw [ints_length, M.vcs_length T j (by omega)]; unfold maxLen; omega
    · simp [hj]
  have hm1 : ((m : Int) != (m' : Int)) = true := by simp; omega
  have hm2 : (m != m') = true := by simpa using hml
  go_enter Tryd.func4, Tryd.ntmps4
  go_wp2_with fail
  refine (refTrace_ok Pn T p n cap _ hl hmax hcT).mono ?_
  rw [h0]
  rintro e v1 ⟨rfl, hB⟩
  clear hk1 hk2
  replace hcT := hcT.later hB
  replace hcV := hcV.later hB
  replace hcW := hcW.later hB
  replace hty := hty.later hB
  replace hb1 := hb1.later hB hb1.lt
  replace hC := bel_on hC hB
  have hk1 := hb1.procs
  have hk2 := hb1.events
  clear hB
  go_wp2_with fail
  refine (refPlain_ok Pn T p n cap _ hl hcT hok).mono ?_
  rintro e v2 ⟨qx, cx, rfl, hx, hB⟩
  clear hk1 hk2
  replace hcT := hcT.later hB
  replace hcV := hcV.later hB
  replace hcW := hcW.later hB
  replace hty := hty.later hB
  replace hb1 := hb1.later hB hb1.lt
  replace hC := bel_on hC hB
  have hk1 := hb1.procs
  have hk2 := hb1.events
  clear hB
  go_wp2_with fail
  refine (refVectors_ok Pn T p n cap _ hl hcT hok).mono ?_
  rintro e v3 ⟨qy, cy, rfl, hy, hB⟩
  clear hk1 hk2
  replace hcT := hcT.later hB
  replace hcV := hcV.later hB
  replace hcW := hcW.later hB
  replace hty := hty.later hB
  replace hx := hx.later hB
  replace hb1 := hb1.later hB hb1.lt
  replace hC := bel_on hC hB
  have hk1 := hb1.procs
  have hk2 := hb1.events
  clear hB
  go_wp2_with fail
  refine (refRow_ok Pn T p n cap _ hl hcT hok).mono ?_
  rintro e v4 ⟨qz, cz, rfl, hz, hB⟩
  clear hk1 hk2
  replace hcT := hcT.later hB
  replace hcV := hcV.later hB
  replace hcW := hcW.later hB
  replace hty := hty.later hB
  replace hx := hx.later hB
  replace hy := hy.later hB
  replace hb1 := hb1.later hB hb1.lt
  replace hC := bel_on hC hB
  have hk1 := hb1.procs
  have hk2 := hb1.events
  clear hB
  go_wp2_with fail
  refine (plainI_ok Pn T p n cap _ hl hmax hcT h0).mono ?_
  rintro e v5 ⟨q1, rfl, hx1, hB⟩
  clear hk1 hk2
  replace hcT := hcT.later hB
  replace hcV := hcV.later hB
  replace hcW := hcW.later hB
  replace hty := hty.later hB
  replace hx := hx.later hB
  replace hy := hy.later hB
  replace hz := hz.later hB
  replace hb1 := hb1.later hB hb1.lt
  replace hC := bel_on hC hB
  have hk1 := hb1.procs
  have hk2 := hb1.events
  clear hB
  go_wp2_with fail
  refine (er_none _).mono ?_
  rintro e v6 ⟨rfl, hB⟩
  clear hk1 hk2
  replace hcT := hcT.later hB
  replace hcV := hcV.later hB
  replace hcW := hcW.later hB
  replace hty := hty.later hB
  replace hx := hx.later hB
  replace hy := hy.later hB
  replace hz := hz.later hB
  replace hx1 := hx1.later hB
  replace hb1 := hb1.later hB hb1.lt
  replace hC := bel_on hC hB
  have hk1 := hb1.procs
  have hk2 := hb1.events
  clear hB
  go_wp2_with fail
  refine (same_intsI (ints (M.clocks T)) _ _ n n cx _ (by rw [ints_length, M.clocks_length, hl]) hmax hx1 hx).mono ?_
  rintro e v7 ⟨rfl, hB⟩
  clear hk1 hk2
  replace hcT := hcT.later hB
  replace hcV := hcV.later hB
  replace hcW := hcW.later hB
  replace hty := hty.later hB
  replace hx := hx.later hB
  replace hy := hy.later hB
  replace hz := hz.later hB
  replace hx1 := hx1.later hB
  replace hb1 := hb1.later hB hb1.lt
  replace hC := bel_on hC hB
  have hk1 := hb1.procs
  have hk2 := hb1.events
  clear hB
  go_wp2_with fail
  refine (vectorsR_ok Pn T p n cap _ hl hmax hcT h0).mono ?_
  rintro e v8 ⟨q2, rfl, hy1, hB⟩
  clear hk1 hk2
  replace hcT := hcT.later hB
  replace hcV := hcV.later hB
  replace hcW := hcW.later hB
  replace hty := hty.later hB
  replace hx := hx.later hB
  replace hy := hy.later hB
  replace hz := hz.later hB
  replace hx1 := hx1.later hB
  replace hb1 := hb1.later hB hb1.lt
  replace hC := bel_on hC hB
  have hk1 := hb1.procs
  have hk2 := hb1.events
  clear hB
  go_wp2_with fail
  refine (er_none _).mono ?_
  rintro e v9 ⟨rfl, hB⟩
  clear hk1 hk2
  replace hcT := hcT.later hB
  replace hcV := hcV.later hB
  replace hcW := hcW.later hB
  replace hty := hty.later hB
  replace hx := hx.later hB
  replace hy := hy.later hB
  replace hz := hz.later hB
  replace hx1 := hx1.later hB
  replace hy1 := hy1.later hB
  replace hb1 := hb1.later hB hb1.lt
  replace hC := bel_on hC hB
  have hk1 := hb1.procs
  have hk2 := hb1.events
  clear hB
  go_wp2_with fail
  refine (same_rows ((List.range n).map fun j => ints (M.vcs T j Pn)) _ _ n n cy _ (by simp) hmax hsm hy1 hy).mono ?_
  rintro e v10 ⟨rfl, hB⟩
  clear hk1 hk2
  replace hcT := hcT.later hB
  replace hcV := hcV.later hB
  replace hcW := hcW.later hB
  replace hty := hty.later hB
  replace hx := hx.later hB
  replace hy := hy.later hB
  replace hz := hz.later hB
  replace hx1 := hx1.later hB
  replace hy1 := hy1.later hB
  replace hb1 := hb1.later hB hb1.lt
  replace hC := bel_on hC hB
  have hk1 := hb1.procs
  have hk2 := hb1.events
  clear hB
  go_wp2_with fail
  refine (rowI_ok Pn T p n cap _ hl hmax hcT h0).mono ?_
  rintro e v11 ⟨q3, rfl, hz1, hB⟩
  clear hk1 hk2
  replace hcT := hcT.later hB
  replace hcV := hcV.later hB
  replace hcW := hcW.later hB
  replace hty := hty.later hB
  replace hx := hx.later hB
  replace hy := hy.later hB
  replace hz := hz.later hB
  replace hx1 := hx1.later hB
  replace hy1 := hy1.later hB
  replace hb1 := hb1.later hB hb1.lt
  replace hC := bel_on hC hB
  have hk1 := hb1.procs
  have hk2 := hb1.events
  clear hB
  go_wp2_with fail
  refine (er_none _).mono ?_
  rintro e v12 ⟨rfl, hB⟩
  clear hk1 hk2
  replace hcT := hcT.later hB
  replace hcV := hcV.later hB
  replace hcW := hcW.later hB
  replace hty := hty.later hB
  replace hx := hx.later hB
  replace hy := hy.later hB
  replace hz := hz.later hB
  replace hx1 := hx1.later hB
  replace hy1 := hy1.later hB
  replace hz1 := hz1.later hB
  replace hb1 := hb1.later hB hb1.lt
  replace hC := bel_on hC hB
  have hk1 := hb1.procs
  have hk2 := hb1.events
  clear hB
  go_wp2_with fail
  refine (same_intsI (ints (M.rc T n Pn n)) _ _ n n cz _ (by rw [ints_length]; exact hlr) hmax hz1 hz).mono ?_
  rintro e v13 ⟨rfl, hB⟩
  clear hk1 hk2
  replace hcT := hcT.later hB
  replace hcV := hcV.later hB
  replace hcW := hcW.later hB
  replace hty := hty.later hB
  replace hx := hx.later hB
  replace hy := hy.later hB
  replace hz := hz.later hB
  replace hx1 := hx1.later hB
  replace hy1 := hy1.later hB
  replace hz1 := hz1.later hB
  replace hb1 := hb1.later hB hb1.lt
  replace hC := bel_on hC hB
  have hk1 := hb1.procs
  have hk2 := hb1.events
  clear hB
  go_wp2_with fail
  refine (below_shape q' r' m m' cv cw _ hml).mono ?_
  rintro e v14 ⟨rfl, hB⟩
  clear hk1 hk2
  replace hcT := hcT.later hB
  replace hcV := hcV.later hB
  replace hcW := hcW.later hB
  replace hty := hty.later hB
  replace hx := hx.later hB
  replace hy := hy.later hB
  replace hz := hz.later hB
  replace hx1 := hx1.later hB
  replace hy1 := hy1.later hB
  replace hz1 := hz1.later hB
  replace hb1 := hb1.later hB hb1.lt
  replace hC := bel_on hC hB
  have hk1 := hb1.procs
  have hk2 := hb1.events
  clear hB
  go_wp2_with fail
  refine (error_same 3 _ hty).mono ?_
  rintro e v15 ⟨rfl, hB⟩
  clear hk1 hk2
  replace hcT := hcT.later hB
  replace hcV := hcV.later hB
  replace hcW := hcW.later hB
  replace hty := hty.later hB
  replace hx := hx.later hB
  replace hy := hy.later hB
  replace hz := hz.later hB
  replace hx1 := hx1.later hB
  replace hy1 := hy1.later hB
  replace hz1 := hz1.later hB
  replace hb1 := hb1.later hB hb1.lt
  replace hC := bel_on hC hB
  have hk1 := hb1.procs
  have hk2 := hb1.events
  clear hB
  go_wp2_with fail
  go_ret
  exact ⟨rfl, bel_on hB0 hC⟩
set_option maxRecDepth 100000 in
set_option maxHeartbeats 8000000 in
theorem sts_bad_eq (P : Int) (T : List (Int × Int)) (p : Option Addr) (n cap : Nat) (V : List Int) (q' : Option Addr) (m cv : Nat) (Z : List Int) (r' : Option Addr) (m' cw : Nat) (w : World) (hl : T.length = n) (hmax : n ≤ maxLen) (hc : HasE T p w) (hlV : V.length = m) (hmV : m ≤ maxLen) (hV : HasI V q' w) (hlZ : Z.length = m') (_hmZ : m' ≤ maxLen) (hZ : HasI Z r' w) (hg : Ety w) (c : Nat) (hcd : M.tcode P T = c) (hne : c ≠ 0) (hml : m = m') :
    Calls Tryd.prog 4 #[trV P p n cap, .slice q' m cv, .slice r' m' cw] w fun e w' => e = .returned (.bool true) ∧ Below w.heap.size w w' := by
  have hB0 : Below w.heap.size w (w.alloc (.cells #[.int .i64 P, .slice p n cap] 24)) := bel_al (Below.refl _ _) _
  have hb1 := tbox_new w P p n cap
  obtain ⟨wb, hwb⟩ : ∃ wb, w.alloc (.cells #[.int .i64 P, .slice p n cap] 24) = wb := ⟨_, rfl⟩
  rw [hwb] at hB0 hb1
  have hcT := hc.later hB0
  have hcV := hV.later hB0
  have hcW := hZ.later hB0
  have hty := hg.later hB0
  have hC : Below wb.heap.size wb wb := Below.refl _ _
  have hk1 := hb1.procs
  have hk2 := hb1.events
  have hd : ((c : Int) == 0) = false := by simp; omega
  have hd2 : (c == 0) = false := by simpa using hne
  subst hml
  go_enter Tryd.func4, Tryd.ntmps4
  go_wp2_with fail
  refine (refTrace_ok P T p n cap _ hl hmax hcT).mono ?_
  rw [hcd]
  rintro e v1 ⟨rfl, hB⟩
  clear hk1 hk2
  replace hcT := hcT.later hB
  replace hcV := hcV.later hB
  replace hcW := hcW.later hB
  replace hty := hty.later hB
  replace hb1 := hb1.later hB hb1.lt
  replace hC := bel_on hC hB
  have hk1 := hb1.procs
  have hk2 := hb1.events
  clear hB
  go_wp2_with fail
  refine (plain_err P T p n cap c _ hl hmax hcT hcd hne).mono ?_
  rintro e v2 ⟨rfl, hB⟩
  clear hk1 hk2
  replace hcT := hcT.later hB
  replace hcV := hcV.later hB
  replace hcW := hcW.later hB
  replace hty := hty.later hB
  replace hb1 := hb1.later hB hb1.lt
  replace hC := bel_on hC hB
  have hk1 := hb1.procs
  have hk2 := hb1.events
  clear hB
  go_wp2_with fail
  refine (error_same (c : Nat) _ hty).mono ?_
  rintro e v3 ⟨rfl, hB⟩
  clear hk1 hk2
  replace hcT := hcT.later hB
  replace hcV := hcV.later hB
  replace hcW := hcW.later hB
  replace hty := hty.later hB
  replace hb1 := hb1.later hB hb1.lt
  replace hC := bel_on hC hB
  have hk1 := hb1.procs
  have hk2 := hb1.events
  clear hB
  go_wp2_with fail
  refine (in_none _).mono ?_
  rintro e v4 ⟨rfl, hB⟩
  clear hk1 hk2
  replace hcT := hcT.later hB
  replace hcV := hcV.later hB
  replace hcW := hcW.later hB
  replace hty := hty.later hB
  replace hb1 := hb1.later hB hb1.lt
  replace hC := bel_on hC hB
  have hk1 := hb1.procs
  have hk2 := hb1.events
  clear hB
  go_wp2_with fail
  refine (vectors_err P T p n cap c _ hl hmax hcT hcd hne).mono ?_
  rintro e v5 ⟨rfl, hB⟩
  clear hk1 hk2
  replace hcT := hcT.later hB
  replace hcV := hcV.later hB
  replace hcW := hcW.later hB
  replace hty := hty.later hB
  replace hb1 := hb1.later hB hb1.lt
  replace hC := bel_on hC hB
  have hk1 := hb1.procs
  have hk2 := hb1.events
  clear hB
  go_wp2_with fail
  refine (error_same (c : Nat) _ hty).mono ?_
  rintro e v6 ⟨rfl, hB⟩
  clear hk1 hk2
  replace hcT := hcT.later hB
  replace hcV := hcV.later hB
  replace hcW := hcW.later hB
  replace hty := hty.later hB
  replace hb1 := hb1.later hB hb1.lt
  replace hC := bel_on hC hB
  have hk1 := hb1.procs
  have hk2 := hb1.events
  clear hB
  go_wp2_with fail
  refine (rw_none _).mono ?_
  rintro e v7 ⟨rfl, hB⟩
  clear hk1 hk2
  replace hcT := hcT.later hB
  replace hcV := hcV.later hB
  replace hcW := hcW.later hB
  replace hty := hty.later hB
  replace hb1 := hb1.later hB hb1.lt
  replace hC := bel_on hC hB
  have hk1 := hb1.procs
  have hk2 := hb1.events
  clear hB
  go_wp2_with fail
  refine (row_err P T p n cap c _ hl hmax hcT hcd hne).mono ?_
  rintro e v8 ⟨rfl, hB⟩
  clear hk1 hk2
  replace hcT := hcT.later hB
  replace hcV := hcV.later hB
  replace hcW := hcW.later hB
  replace hty := hty.later hB
  replace hb1 := hb1.later hB hb1.lt
  replace hC := bel_on hC hB
  have hk1 := hb1.procs
  have hk2 := hb1.events
  clear hB
  go_wp2_with fail
  refine (error_same (c : Nat) _ hty).mono ?_
  rintro e v9 ⟨rfl, hB⟩
  clear hk1 hk2
  replace hcT := hcT.later hB
  replace hcV := hcV.later hB
  replace hcW := hcW.later hB
  replace hty := hty.later hB
  replace hb1 := hb1.later hB hb1.lt
  replace hC := bel_on hC hB
  have hk1 := hb1.procs
  have hk2 := hb1.events
  clear hB
  go_wp2_with fail
  refine (in_none _).mono ?_
  rintro e v10 ⟨rfl, hB⟩
  clear hk1 hk2
  replace hcT := hcT.later hB
  replace hcV := hcV.later hB
  replace hcW := hcW.later hB
  replace hty := hty.later hB
  replace hb1 := hb1.later hB hb1.lt
  replace hC := bel_on hC hB
  have hk1 := hb1.procs
  have hk2 := hb1.events
  clear hB
  go_wp2_with fail
  refine (ints_any V Z q' r' m cv cw _ hlV hlZ hmV hcV hcW).mono ?_
  rintro e v11 ⟨rfl, hB⟩
  clear hk1 hk2
  replace hcT := hcT.later hB
  replace hcV := hcV.later hB
  replace hcW := hcW.later hB
  replace hty := hty.later hB
  replace hb1 := hb1.later hB hb1.lt
  replace hC := bel_on hC hB
  have hk1 := hb1.procs
  have hk2 := hb1.events
  clear hB
  obtain ⟨eq, heq⟩ : ∃ b, M.eqB V Z m = b := ⟨_, rfl⟩
  rw [heq]
  have HE : Hid (M.eqB V Z m = eq) := heq
  clear heq
  go_wp2_with fail
  go_loopw [17, 18] (fun u x wr => ∃ (k : Nat) (g : Bool), u = .bool g ∧ x = .int .i64 k ∧ k ≤ m ∧ Hid (g = (!eq && M.leB V Z k)) ∧ Below v11.heap.size v11 wr) (fun _ x _ => m - (intOf x).toNat)
  case atStart => exact ⟨0, !eq, rfl, rfl, Nat.zero_le _, (by simp [M.leB] : (!eq) = (!eq && M.leB V Z 0)), Below.refl _ _⟩
  case round =>
    clear hk1 hk2
    have hm9 : m ≤ 9223372036854775807 := by have := hmV; unfold maxLen at this; omega
    obtain ⟨k, g, rfl, rfl, hk, hG, hBr⟩ := hrel
    by_cases hlt : k < m
    · obtain ⟨b1, o1, rfl, hb1l, hd1⟩ := hcV.later hBr k (by omega)
      obtain ⟨b2, o2, rfl, hb2l, hd2⟩ := hcW.later hBr k (by omega)
      obtain ⟨x, hx9⟩ : ∃ z, V[k]?.getD 0 = z := ⟨_, rfl⟩
      obtain ⟨y, hy9⟩ : ∃ z, Z[k]?.getD 0 = z := ⟨_, rfl⟩
      rw [hx9] at hd1
      rw [hy9] at hd2
      have HX : Hid (M.iz V k = x) := hx9
      have HY : Hid (M.iz Z k = y) := hy9
      have hkm : (k : Int) < (m : Int) := by omega
      obtain ⟨l, hle⟩ : ∃ l, decide (x ≤ y) = l := ⟨_, rfl⟩
      have HL : Hid (decide (x ≤ y) = l) := hle
      clear hx9 hy9
      cases g with
      | true =>
        have HN : Hid (l = (!eq && M.leB V Z (k + 1))) := by
          show _ = _
          simp only [M.leB]; rw [← Bool.and_assoc, ← hG.out, HX.out, HY.out, HL.out, Bool.true_and]
        go_wp2_with fail
        go_big_quiet (fail)
        go_wp2_with fail
        go_roundw
        case rel => exact ⟨k + 1, l, rfl, by go_num, by omega, HN, bel_drN hBr _⟩
        case measure => simp [intOf]; omega
      | false =>
        have HN : Hid (false = (!eq && M.leB V Z (k + 1))) := by
          show _ = _
          simp only [M.leB]; rw [← Bool.and_assoc, ← hG.out, Bool.false_and]
        go_wp2_with fail
        go_big_quiet (fail)
        go_wp2_with fail
        go_roundw
        case rel => exact ⟨k + 1, false, rfl, by go_num, by omega, HN, bel_drN hBr _⟩
        case measure => simp [intOf]; omega
    · obtain rfl : k = m := by omega
      have hbw := below_ok V Z q' r' k cv cw wr hlV hlZ hmV (hcV.later hBr) (hcW.later hBr)
      rw [M.below_eq, HE.out, ← hG.out] at hbw
      go_wp2_with fail
      refine hbw.mono ?_
      rintro e wy ⟨rfl, hBy⟩
      go_wp2_with fail
      refine (er_none _).mono ?_
      rintro e wz ⟨rfl, hBz⟩
      cases g with
      | true =>
        go_wp2_with fail
        go_ret
        exact ⟨rfl, bel_on hB0 (bel_on hC (bel_on hBr (bel_on hBy hBz)))⟩
      | false =>
        go_wp2_with fail
        go_ret
        exact ⟨rfl, bel_on hB0 (bel_on hC (bel_on hBr (bel_on hBy hBz)))⟩
set_option maxRecDepth 100000 in
set_option maxHeartbeats 8000000 in
theorem sts_bad_ne (P : Int) (T : List (Int × Int)) (p : Option Addr) (n cap : Nat) (V : List Int) (q' : Option Addr) (m cv : Nat) (Z : List Int) (r' : Option Addr) (m' cw : Nat) (w : World) (hl : T.length = n) (hmax : n ≤ maxLen) (hc : HasE T p w) (_hlV : V.length = m) (_hmV : m ≤ maxLen) (hV : HasI V q' w) (_hlZ : Z.length = m') (_hmZ : m' ≤ maxLen) (hZ : HasI Z r' w) (hg : Ety w) (c : Nat) (hcd : M.tcode P T = c) (hne : c ≠ 0) (hml : m ≠ m') :
    Calls Tryd.prog 4 #[trV P p n cap, .slice q' m cv, .slice r' m' cw] w fun e w' => e = .returned (.bool true) ∧ Below w.heap.size w w' := by
  have hB0 : Below w.heap.size w (w.alloc (.cells #[.int .i64 P, .slice p n cap] 24)) := bel_al (Below.refl _ _) _
  have hb1 := tbox_new w P p n cap
  obtain ⟨wb, hwb⟩ : ∃ wb, w.alloc (.cells #[.int .i64 P, .slice p n cap] 24) = wb := ⟨_, rfl⟩
  rw [hwb] at hB0 hb1
  have hcT := hc.later hB0
  have hcV := hV.later hB0
  have hcW := hZ.later hB0
  have hty := hg.later hB0
  have hC : Below wb.heap.size wb wb := Below.refl _ _
  have hk1 := hb1.procs
  have hk2 := hb1.events
  have hd : ((c : Int) == 0) = false := by simp; omega
  have hd2 : (c == 0) = false := by simpa using hne
  have hm1 : ((m : Int) != (m' : Int)) = true := by simp; omega
  have hm2 : (m != m') = true := by simpa using hml
  go_enter Tryd.func4, Tryd.ntmps4
  go_wp2_with fail
  refine (refTrace_ok P T p n cap _ hl hmax hcT).mono ?_
  rw [hcd]
  rintro e v1 ⟨rfl, hB⟩
  clear hk1 hk2
  replace hcT := hcT.later hB
  replace hcV := hcV.later hB
  replace hcW := hcW.later hB
  replace hty := hty.later hB
  replace hb1 := hb1.later hB hb1.lt
  replace hC := bel_on hC hB
  have hk1 := hb1.procs
  have hk2 := hb1.events
  clear hB
  go_wp2_with fail
  refine (plain_err P T p n cap c _ hl hmax hcT hcd hne).mono ?_
  rintro e v2 ⟨rfl, hB⟩
  clear hk1 hk2
  replace hcT := hcT.later hB
  replace hcV := hcV.later hB
  replace hcW := hcW.later hB
  replace hty := hty.later hB
  replace hb1 := hb1.later hB hb1.lt
  replace hC := bel_on hC hB
  have hk1 := hb1.procs
  have hk2 := hb1.events
  clear hB
  go_wp2_with fail
  refine (error_same (c : Nat) _ hty).mono ?_
  rintro e v3 ⟨rfl, hB⟩
  clear hk1 hk2
  replace hcT := hcT.later hB
  replace hcV := hcV.later hB
  replace hcW := hcW.later hB
  replace hty := hty.later hB
  replace hb1 := hb1.later hB hb1.lt
  replace hC := bel_on hC hB
  have hk1 := hb1.procs
  have hk2 := hb1.events
  clear hB
  go_wp2_with fail
  refine (in_none _).mono ?_
  rintro e v4 ⟨rfl, hB⟩
  clear hk1 hk2
  replace hcT := hcT.later hB
  replace hcV := hcV.later hB
  replace hcW := hcW.later hB
  replace hty := hty.later hB
  replace hb1 := hb1.later hB hb1.lt
  replace hC := bel_on hC hB
  have hk1 := hb1.procs
  have hk2 := hb1.events
  clear hB
  go_wp2_with fail
  refine (vectors_err P T p n cap c _ hl hmax hcT hcd hne).mono ?_
  rintro e v5 ⟨rfl, hB⟩
  clear hk1 hk2
  replace hcT := hcT.later hB
  replace hcV := hcV.later hB
  replace hcW := hcW.later hB
  replace hty := hty.later hB
  replace hb1 := hb1.later hB hb1.lt
  replace hC := bel_on hC hB
  have hk1 := hb1.procs
  have hk2 := hb1.events
  clear hB
  go_wp2_with fail
  refine (error_same (c : Nat) _ hty).mono ?_
  rintro e v6 ⟨rfl, hB⟩
  clear hk1 hk2
  replace hcT := hcT.later hB
  replace hcV := hcV.later hB
  replace hcW := hcW.later hB
  replace hty := hty.later hB
  replace hb1 := hb1.later hB hb1.lt
  replace hC := bel_on hC hB
  have hk1 := hb1.procs
  have hk2 := hb1.events
  clear hB
  go_wp2_with fail
  refine (rw_none _).mono ?_
  rintro e v7 ⟨rfl, hB⟩
  clear hk1 hk2
  replace hcT := hcT.later hB
  replace hcV := hcV.later hB
  replace hcW := hcW.later hB
  replace hty := hty.later hB
  replace hb1 := hb1.later hB hb1.lt
  replace hC := bel_on hC hB
  have hk1 := hb1.procs
  have hk2 := hb1.events
  clear hB
  go_wp2_with fail
  refine (row_err P T p n cap c _ hl hmax hcT hcd hne).mono ?_
  rintro e v8 ⟨rfl, hB⟩
  clear hk1 hk2
  replace hcT := hcT.later hB
  replace hcV := hcV.later hB
  replace hcW := hcW.later hB
  replace hty := hty.later hB
  replace hb1 := hb1.later hB hb1.lt
  replace hC := bel_on hC hB
  have hk1 := hb1.procs
  have hk2 := hb1.events
  clear hB
  go_wp2_with fail
  refine (error_same (c : Nat) _ hty).mono ?_
  rintro e v9 ⟨rfl, hB⟩
  clear hk1 hk2
  replace hcT := hcT.later hB
  replace hcV := hcV.later hB
  replace hcW := hcW.later hB
  replace hty := hty.later hB
  replace hb1 := hb1.later hB hb1.lt
  replace hC := bel_on hC hB
  have hk1 := hb1.procs
  have hk2 := hb1.events
  clear hB
  go_wp2_with fail
  refine (in_none _).mono ?_
  rintro e v10 ⟨rfl, hB⟩
  clear hk1 hk2
  replace hcT := hcT.later hB
  replace hcV := hcV.later hB
  replace hcW := hcW.later hB
  replace hty := hty.later hB
  replace hb1 := hb1.later hB hb1.lt
  replace hC := bel_on hC hB
  have hk1 := hb1.procs
  have hk2 := hb1.events
  clear hB
  go_wp2_with fail
  refine (below_shape q' r' m m' cv cw _ hml).mono ?_
  rintro e v11 ⟨rfl, hB⟩
  clear hk1 hk2
  replace hcT := hcT.later hB
  replace hcV := hcV.later hB
  replace hcW := hcW.later hB
  replace hty := hty.later hB
  replace hb1 := hb1.later hB hb1.lt
  replace hC := bel_on hC hB
  have hk1 := hb1.procs
  have hk2 := hb1.events
  clear hB
  go_wp2_with fail
  refine (error_same 3 _ hty).mono ?_
  rintro e v12 ⟨rfl, hB⟩
  clear hk1 hk2
  replace hcT := hcT.later hB
  replace hcV := hcV.later hB
  replace hcW := hcW.later hB
  replace hty := hty.later hB
  replace hb1 := hb1.later hB hb1.lt
  replace hC := bel_on hC hB
  have hk1 := hb1.procs
  have hk2 := hb1.events
  clear hB
  go_wp2_with fail
  go_ret
  exact ⟨rfl, bel_on hB0 hC⟩
theorem sts_walk (P : Int) (T : List (Int × Int)) (p : Option Addr) (n cap : Nat) (V : List Int) (q' : Option Addr) (m cv : Nat) (Z : List Int) (r' : Option Addr) (m' cw : Nat) (w : World) (hg : Ety w) (hl : T.length = n) (hmax : n ≤ maxLen) (hc : HasE T p w) (hlV : V.length = m) (hmV : m ≤ maxLen) (hV : HasI V q' w) (_hwV : ∀ k : Nat, V[k]?.getD 0 < 9223372036854775808) (hlZ : Z.length = m') (hmZ : m' ≤ maxLen) (hZ : HasI Z r' w) (_hwZ : ∀ k : Nat, Z[k]?.getD 0 < 9223372036854775808) :
    Calls Tryd.prog 4 #[trV P p n cap, .slice q' m cv, .slice r' m' cw] w fun e w' => e = .returned (.bool true) ∧ Below w.heap.size w w' := by
  by_cases h0 : M.tcode P T = 0
  · have hP1 := (M.tcode_zero.1 h0).p1
    obtain ⟨Pn, rfl⟩ : ∃ Pn : Nat, P = Pn := ⟨P.toNat, by omega⟩
    by_cases hml : m = m'
    · exact sts_ok_eq Pn T p n cap V q' m cv Z r' m' cw w hl hmax hc hlV hmV hV hlZ hmZ hZ hg h0 hml
    · exact sts_ok_ne Pn T p n cap V q' m cv Z r' m' cw w hl hmax hc hlV hmV hV hlZ hmZ hZ hg h0 hml
  · by_cases hml : m = m'
    · exact sts_bad_eq P T p n cap V q' m cv Z r' m' cw w hl hmax hc hlV hmV hV hlZ hmZ hZ hg _ rfl h0 hml
    · exact sts_bad_ne P T p n cap V q' m cv Z r' m' cw w hl hmax hc hlV hmV hV hlZ hmZ hZ hg _ rfl h0 hml
end Go.Proofs.YtnofgmbpkgnciaaDoor
