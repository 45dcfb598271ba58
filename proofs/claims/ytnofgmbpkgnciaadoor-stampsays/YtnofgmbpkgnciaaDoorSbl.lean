/- Whether one list of numbers is below another one (package stamp, Below), at whatever numbers; what lay in memory lies as it lay. -/
import Derived.Test.YtnofgmbpkgnciaaDoorSin
namespace Go.Proofs.YtnofgmbpkgnciaaDoor
open Go.RowKit
namespace M
/-- the k-th number -/
def iz (V : List Int) (k : Nat) : Int := V[k]?.getD 0
/-- below k none is above -/
def leB (V W : List Int) : Nat → Bool
  | 0 => true
  | k + 1 => leB V W k && decide (iz V k ≤ iz W k)
/-- below k one is below -/
def ltB (V W : List Int) : Nat → Bool
  | 0 => false
  | k + 1 => ltB V W k || decide (iz V k < iz W k)
/-- one is below the other one -/
def belowB (V W : List Int) (n : Nat) : Bool := leB V W n && ltB V W n
theorem leB_iff {V W : List Int} (n : Nat) : leB V W n = true ↔ ∀ k, k < n → iz V k ≤ iz W k := by
  induction n with
  | zero => simp [leB]
  | succ n ih =>
    simp only [leB]
    rw [Bool.and_eq_true, ih, decide_eq_true_eq]
    constructor
    · rintro ⟨h1, h2⟩ k hk
      by_cases e : k = n
      · subst e; exact h2
      · exact h1 k (by omega)
    · intro h; exact ⟨fun k hk => h k (by omega), h n (by omega)⟩
theorem ltB_iff {V W : List Int} (n : Nat) : ltB V W n = true ↔ ∃ k, k < n ∧ iz V k < iz W k := by
  induction n with
  | zero => simp [ltB]
  | succ n ih =>
    simp only [ltB]
    rw [Bool.or_eq_true, ih, decide_eq_true_eq]
    constructor
    · rintro (⟨k, a, b⟩ | h)
      · exact ⟨k, by omega, b⟩
      · exact ⟨n, by omega, h⟩
    · rintro ⟨k, a, b⟩
      by_cases e : k = n
      · subst e; exact .inr b
      · exact .inl ⟨k, by omega, b⟩
theorem below_no {V W : List Int} {k n : Nat} (hk : k < n) (h : iz W k < iz V k) : belowB V W n = false := by
  unfold belowB
  cases e : leB V W n with
  | false => rfl
  | true => have := (leB_iff n).1 e k hk; omega
end M
set_option maxHeartbeats 400000 in
theorem below_shape (p q : Option Addr) (n m cap cap' : Nat) (w : World) (h : n ≠ m) :
    Calls Tryd.prog 22 #[.slice p n cap, .slice q m cap'] w fun e w' => e = .returned (.tuple #[.bool false, .iface 51 (.int .i64 3)]) ∧ Below w.heap.size w w' := by
  have hd : ((n : Int) != (m : Int)) = true := by simp; omega
  have hd2 : (n != m) = true := by simpa using h
  clear h
  go_enter Tryd.func22, Tryd.ntmps22
  go_wp2_with fail
  go_ret2
  exact ⟨rfl, Below.refl _ _⟩
set_option maxHeartbeats 1000000 in
theorem belowQ (V W : List Int) (p q : Option Addr) (n cap cap' : Nat) (w : World) (hlv : V.length = n) (hlw : W.length = n) (hn : n ≤ maxLen) (hp : HasI V p w) (hq : HasI W q w) :
    Calls Tryd.prog 22 #[.slice p n cap, .slice q n cap'] w fun e w' => e = .returned (.tuple #[.bool (M.belowB V W n), .nilIface]) ∧ ∃ m, w' = w.drewN m := by
  unfold maxLen at hn
  go_enter Tryd.func22, Tryd.ntmps22
  go_wp2_with fail
  go_loopw [6, 16] (fun u v wr => ∃ (k : Nat) (g : Bool), u = .bool g ∧ v = .int .i64 k ∧ k ≤ n ∧ Hid (M.leB V W k = true ∧ M.ltB V W k = g) ∧ ∃ m, wr = w.drewN m) (fun _ v _ => n - (intOf v).toNat)
  case atStart => exact ⟨0, false, rfl, rfl, Nat.zero_le _, (⟨rfl, rfl⟩ : M.leB V W 0 = true ∧ M.ltB V W 0 = false), 0, rfl⟩
  case round =>
    obtain ⟨k, g, rfl, rfl, hk, hG, m0, rfl⟩ := hrel
    by_cases hlt : k < n
    · obtain ⟨b, off, rfl, hb, hc1⟩ := hp k (by omega)
      obtain ⟨b', off', rfl, hb', hc2⟩ := hq k (by omega)
      obtain ⟨x, hx⟩ : ∃ z, V[k]?.getD 0 = z := ⟨_, rfl⟩
      obtain ⟨y, hy⟩ : ∃ z, W[k]?.getD 0 = z := ⟨_, rfl⟩
      rw [hx] at hc1
      rw [hy] at hc2
      have HX : Hid (M.iz V k = x) := hx
      have HY : Hid (M.iz W k = y) := hy
      clear hx hy hp hq
      by_cases h1 : y < x
      · have hd : decide (y < x) = true := decide_eq_true h1
        have HN : Hid (M.belowB V W n = false) := M.below_no hlt (by rw [HX.out, HY.out]; exact h1)
        clear h1
        go_wp2_with fail
        go_big_quiet (fail)
        go_wp2_with fail
        go_ret2
        exact ⟨by rw [HN.out]; rfl, _, World.drewN_drewN _ _ _⟩
      · have hd : decide (y < x) = false := decide_eq_false h1
        have HL : Hid (M.leB V W (k + 1) = true) := by
          show _ = _
          simp only [M.leB]; rw [hG.out.1, HX.out, HY.out]; simpa using h1
        by_cases h2 : x < y
        · have hd2 : decide (x < y) = true := decide_eq_true h2
          have HT : Hid (M.ltB V W (k + 1) = true) := by
            show _ = _
            simp only [M.ltB]; rw [HX.out, HY.out, hd2, Bool.or_true]
          clear h1 h2
          go_wp2_with fail
          go_big_quiet (fail)
          go_wp2_with fail
          go_big_quiet (fail)
          go_wp2_with fail
          go_roundw
          case rel => exact ⟨k + 1, true, rfl, by go_num, by omega, (⟨HL.out, HT.out⟩ : M.leB V W (k + 1) = true ∧ M.ltB V W (k + 1) = true), _, rfl⟩
          case measure => simp [intOf]; omega
        · have hd2 : decide (x < y) = false := decide_eq_false h2
          have HT : Hid (M.ltB V W (k + 1) = g) := by
            show _ = _
            simp only [M.ltB]; rw [HX.out, HY.out, hd2, Bool.or_false]; exact hG.out.2
          clear h1 h2
          go_wp2_with fail
          go_big_quiet (fail)
          go_wp2_with fail
          go_big_quiet (fail)
          go_wp2_with fail
          go_roundw
          case rel => exact ⟨k + 1, g, rfl, by go_num, by omega, (⟨HL.out, HT.out⟩ : M.leB V W (k + 1) = true ∧ M.ltB V W (k + 1) = g), _, rfl⟩
          case measure => simp [intOf]; omega
    · obtain rfl : k = n := by omega
      clear hp hq
      go_wp2_with fail
      go_ret2
      exact ⟨by unfold M.belowB; rw [hG.out.1, hG.out.2, Bool.true_and]; rfl, m0, rfl⟩
theorem below_ok (V W : List Int) (p q : Option Addr) (n cap cap' : Nat) (w : World) (hlv : V.length = n) (hlw : W.length = n) (hn : n ≤ maxLen) (hp : HasI V p w) (hq : HasI W q w) :
    Calls Tryd.prog 22 #[.slice p n cap, .slice q n cap'] w fun e w' => e = .returned (.tuple #[.bool (M.belowB V W n), .nilIface]) ∧ Below w.heap.size w w' :=
  (belowQ V W p q n cap cap' w hlv hlw hn hp hq).mono (by rintro e w' ⟨rfl, m, rfl⟩; exact ⟨rfl, below_drewN _ _⟩)
end Go.Proofs.YtnofgmbpkgnciaaDoor
