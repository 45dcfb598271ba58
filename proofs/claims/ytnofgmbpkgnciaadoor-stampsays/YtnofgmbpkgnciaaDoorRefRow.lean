/- The document's own row of all events (package whensteadref2, Row), at a trace with no fault: clock by clock, process by process; what lay in memory lies as it lay. -/
import Derived.Test.YtnofgmbpkgnciaaDoorRefPln
import Derived.Test.YtnofgmbpkgnciaaDoorSrt
namespace Go.Proofs.YtnofgmbpkgnciaaDoor
open Go.RowKit
namespace M
theorem ri_len (T : List (Int × Int)) (c : Nat) (p : Int) (i : Nat) : (ri T c p i).length ≤ i := by
  induction i with
  | zero => simp [ri]
  | succ i ih =>
    simp only [ri]
    split
    · simp; exact ih
    · omega
theorem rp_len (T : List (Int × Int)) (c m p : Nat) : (rp T c m p).length ≤ p * m := by
  induction p with
  | zero => simp [rp]
  | succ p ih =>
    simp only [rp]
    rw [List.length_append, Nat.succ_mul]
    have := ri_len T c (p : Int) m
    omega
theorem rc_len (T : List (Int × Int)) (m P c : Nat) : (rc T m P c).length ≤ c * (P * m) := by
  induction c with
  | zero => simp [rc]
  | succ c ih =>
    simp only [rc]
    rw [List.length_append, Nat.succ_mul]
    have := rp_len T (c + 1) m P
    omega
/-- so far: clocks up to c, of clock c + 1 processes below p, of process p events below i -/
def so (T : List (Int × Int)) (m P c p i : Nat) : List Nat := rc T m P c ++ rp T (c + 1) m p ++ ri T (c + 1) (p : Int) i
theorem so_i (T : List (Int × Int)) (m P c p : Nat) : so T m P c p m = so T m P c (p + 1) 0 := by
  simp [so, rp, ri]
theorem so_p (T : List (Int × Int)) (m P c : Nat) : so T m P c P 0 = so T m P (c + 1) 0 0 := by
  simp [so, rc, rp, ri]
theorem so_c (T : List (Int × Int)) (m P c : Nat) : so T m P c 0 0 = rc T m P c := by simp [so, rp, ri]
theorem so_yes {T : List (Int × Int)} {m P c p i : Nat} (h1 : ck T i = c + 1) (h2 : pr T i = (p : Nat)) : so T m P c p (i + 1) = so T m P c p i ++ [i] := by
  simp [so, ri, h1, h2]
theorem so_no {T : List (Int × Int)} {m P c p i : Nat} (h : ¬ (ck T i = c + 1 ∧ pr T i = (p : Nat))) : so T m P c p (i + 1) = so T m P c p i := by
  simp only [so, ri]; rw [if_neg h]
theorem so_len (T : List (Int × Int)) {m P c p i : Nat} (hm : m ≤ 24) (hP : P ≤ 5) (hc : c ≤ 24) (hp : p ≤ 5) (hi : i ≤ 24) : (so T m P c p i).length ≤ 4000 := by
  unfold so
  rw [List.length_append, List.length_append]
  have h1 := rc_len T m P c
  have h2 := rp_len T (c + 1) m p
  have h3 := ri_len T (c + 1) (p : Int) i
  have h4 : P * m ≤ 5 * 24 := Nat.mul_le_mul hP hm
  have h5 : c * (P * m) ≤ 24 * (5 * 24) := Nat.mul_le_mul hc h4
  have h6 : p * m ≤ 5 * 24 := Nat.mul_le_mul hp hm
  omega
end M
/-- The list of the numbers m, made by appending. -/
def OutI (base : Nat) (v : Value) (m : List Nat) (w : World) : Prop := w.ownsRow base 3 1 v m.length (icells m)
set_option maxRecDepth 100000 in
set_option maxHeartbeats 4000000 in
theorem refRow_ok (P : Nat) (T : List (Int × Int)) (p : Option Addr) (n cap : Nat) (w : World) (hl : T.length = n) (hc : HasE T p w) (hok : M.TOk P T) :
    Calls Tryd.prog 17 #[trV P p n cap] w fun e w' => ∃ q c, e = .returned (.slice q n c) ∧ HasI (ints (M.rc T n P n)) q w' ∧ Below w.heap.size w w' := by
  have hn : n ≤ 24 := hl ▸ hok.len
  have hP5 := hok.p5
  have hP : P ≤ 5 := by omega
  have hB0 : Below w.heap.size w (w.alloc (.cells #[.int .i64 P, .slice p n cap] 24)) := (Below.refl _ _).alloc (Nat.le_refl _) _
  have hcb := hc.later hB0
  obtain ⟨i0, hi0, hz0, hz1, hz2⟩ := info_parts infoInt
  go_enter Tryd.func17, Tryd.ntmps17
  go_wp2_with fail
  refine (refPlain_ok P T p n cap _ hl hcb hok).mono ?_
  rintro e w1 ⟨qb, cb, rfl, hb0, hB1⟩
  have hbox : TBox w1 w.heap.size P p n cap := (tbox_new w P p n cap).later hB1 (by simp)
  have hC1 := bel_on hB0 hB1
  have hc1 := hc.later hC1
  clear hB0 hB1 hcb
  go_wp2_with fail
  go_loopw [4, 5] (fun v c wr => ∃ k : Nat, k ≤ n ∧ c = .int .i64 ((k : Int) + 1) ∧ OutI w1.heap.size v (M.so T n P k 0 0) wr ∧ Below w1.heap.size w1 wr) (fun _ c _ => n + 1 - (intOf c).toNat)
  case atStart => exact ⟨0, Nat.zero_le _, rfl, by rw [M.so_c]; exact World.ownsRow_nil _ _ _ _, Below.refl _ _⟩
  case round =>
    obtain ⟨k, hk, rfl, hown, hB⟩ := hrel
    obtain ⟨k1, hk1⟩ : ∃ k1 : Nat, k + 1 = k1 := ⟨_, rfl⟩
    have hki : (k : Int) + 1 = (k1 : Int) := by omega
    rw [hki]
    by_cases hlt : k < n
    · have g1 : decide ((k1 : Int) ≤ (n : Int)) = true := decide_eq_true (by omega)
      have g2 : decide (k1 ≤ n) = true := decide_eq_true (by omega)
      obtain ⟨wo, hwo⟩ : ∃ wo, wo = wr := ⟨_, rfl⟩
      subst hwo
      go_wp2_with fail
      go_loopw [4, 6] (fun v c wr => ∃ a : Nat, a ≤ P ∧ c = .int .i64 a ∧ OutI w1.heap.size v (M.so T n P k a 0) wr ∧ Below w1.heap.size w1 wr) (fun _ c _ => P - (intOf c).toNat)
      case atStart => exact ⟨0, Nat.zero_le _, rfl, hown, hB⟩
      case round =>
        clear hown hB
        obtain ⟨a, ha, rfl, hown, hB⟩ := hrel
        have hk0 := (hbox.later hB hbox.lt).procs
        by_cases hap : a < P
        · have g3 : (a : Int) < (P : Int) := by omega
          obtain ⟨wp, hwp⟩ : ∃ wo, wo = wr := ⟨_, rfl⟩
          subst hwp
          go_wp2_with fail
          go_loopw [4, 7] (fun v c wr => ∃ i : Nat, i ≤ n ∧ c = .int .i64 i ∧ OutI w1.heap.size v (M.so T n P k a i) wr ∧ Below w1.heap.size w1 wr) (fun _ c _ => n - (intOf c).toNat)
          case atStart => exact ⟨0, Nat.zero_le _, rfl, hown, hB⟩
          case round =>
            clear hown hB hk0
            obtain ⟨i, hi, rfl, hown, hB⟩ := hrel
            unfold OutI at hown
            obtain ⟨len, hle⟩ : ∃ l, (M.so T n P k a i).length = l := ⟨_, rfl⟩
            rw [hle] at hown
            obtain ⟨q, c, rfl⟩ := owns_slice hown
            by_cases hin : i < n
            · obtain ⟨b1, o1, rfl, hb1l, hcx⟩ := (hb0.later hB) i (by rw [ints_length, M.clocks_length]; omega)
              rw [ints_get, M.clocks_row T (by omega)] at hcx
              obtain ⟨b, off, rfl, hb, hp1, -⟩ := (hc1.later hB) i (by omega)
              have hk2 := (hbox.later hB hbox.lt).events
              have hlen := M.so_len T (m := n) (P := P) (c := k) (p := a) (i := i) hn hP (by omega) (by omega) (by omega)
              have hini : (i : Int) < (n : Int) := by omega
              have HY : Hid (M.ck T i = k1 → M.pr T i = (a : Nat) → M.so T n P k a (i + 1) = M.so T n P k a i ++ [i]) := fun h1 h2 => M.so_yes (by omega) h2
              have HN : Hid (¬ (M.ck T i = k1 ∧ M.pr T i = (a : Nat)) → M.so T n P k a (i + 1) = M.so T n P k a i) := fun h => M.so_no (by rw [hk1]; exact h)
              obtain ⟨x, hx⟩ : ∃ x, M.ck T i = x := ⟨_, rfl⟩
              obtain ⟨y, hy⟩ : ∃ y, M.pr T i = y := ⟨_, rfl⟩
              rw [hx] at hcx HY HN
              rw [hy] at hp1 HY HN
              clear hx hy
              rw [hle] at hlen
              obtain ⟨mm, hmm⟩ : ∃ m, M.so T n P k a i = m := ⟨_, rfl⟩
              rw [hmm] at hown hle HY HN
              clear hmm
              by_cases h1 : x = k1
              · have d1 : ((x : Int) == (k1 : Int)) = true := by subst h1; simp
                have d2 : (x == k1) = true := by subst h1; simp
                by_cases h2 : y = (a : Nat)
                · have d3 : (y == (a : Int)) = true := by subst h2; simp
                  have HE := HY.out h1 h2
                  have HO : Hid (M.so T n P k a (i + 1) = mm ++ [i] ∧ mm.length = len) := ⟨HE, hle⟩
                  clear HY HN h1 h2 HE hle
                  go_wp2_with (at_builtin; refine wpList_append_own _ rfl _ _ 30 rfl w1.heap.size 3 i0 (.int .i64 0) 1 8 Tryd.underlying30 hi0 hz0 hz1 hz2 rfl (by decide) _ _ _ rfl (hown.alloc _) ⟨wr.heap.size, 0, none⟩ 1 1 [.int .i64 (i : Nat)] rfl rfl (cell_one_new _ _ _) (by simp [Value.oneCell']) (by unfold maxLen; omega) (by omega) (by have := hB.size; simp; omega) ?_; intro v' w5 hown' hgrow _)
                  have hB2 : Below w1.heap.size w1 w5 := (hB.alloc hB.size _).grown hgrow (by have := hB.size; simp; omega) (fun j e => (hown.lt j e).1)
                  first | go_roundw | skip
                  case rel => exact ⟨i + 1, by omega, by go_num, by unfold OutI; rw [HO.out.1, icells_snoc, List.length_append, HO.out.2]; exact hown', hB2⟩
                  case measure => simp [intOf]; omega
                · have d3 : (y == (a : Int)) = false := by simpa using h2
                  have HE := HN.out (fun h => h2 h.2)
                  have HO : Hid (OutI w1.heap.size (.slice q len c) (M.so T n P k a (i + 1)) wr) := by show OutI _ _ _ _; unfold OutI; rw [HE, hle]; exact hown
                  clear HY HN h1 h2 HE hle
                  go_wp2_with fail
                  go_roundw
                  case rel => exact ⟨i + 1, by omega, by go_num, HO.out, hB⟩
                  case measure => simp [intOf]; omega
              · have d1 : ((x : Int) == (k1 : Int)) = false := by simp; omega
                have d2 : (x == k1) = false := by simpa using h1
                have HE := HN.out (fun h => h1 h.1)
                have HO : Hid (OutI w1.heap.size (.slice q len c) (M.so T n P k a (i + 1)) wr) := by show OutI _ _ _ _; unfold OutI; rw [HE, hle]; exact hown
                clear HY HN h1 HE hle
                go_wp2_with fail
                go_roundw
                case rel => exact ⟨i + 1, by omega, by go_num, HO.out, hB⟩
                case measure => simp [intOf]; omega
            · obtain rfl : i = n := by omega
              have HO : Hid (OutI w1.heap.size (.slice q len c) (M.so T i P k (a + 1) 0) wr) := by show OutI _ _ _ _; unfold OutI; rw [← M.so_i, hle]; exact hown
              clear hown hle
              go_wp2_with fail
              go_roundw
              case rel => exact ⟨a + 1, by omega, by go_num, HO.out, hB⟩
              case measure => simp [intOf]; omega
        · obtain rfl : a = P := by omega
          rw [M.so_p] at hown
          have HO : Hid _ := hown
          clear hown
          go_wp2_with fail
          go_roundw
          case rel => exact ⟨k + 1, by omega, by go_num, HO.out, hB⟩
          case measure => simp [intOf]; omega
    · obtain rfl : k = n := by omega
      have g1 : decide ((k1 : Int) ≤ (k : Int)) = false := decide_eq_false (by omega)
      have g2 : decide (k1 ≤ k) = false := decide_eq_false (by omega)
      rw [M.so_c] at hown
      unfold OutI at hown
      have hlen : (M.rc T k P k).length = k := by have := (M.rc_is hok).length; rw [hl] at this; exact this
      rw [hlen] at hown
      obtain ⟨q, c, rfl⟩ := owns_slice hown
      have hhas := hasI_of_owns hlen hown
      go_wp2_with fail
      go_ret
      exact ⟨q, c, rfl, hhas, bel_on hC1 hB⟩
end Go.Proofs.YtnofgmbpkgnciaaDoor
