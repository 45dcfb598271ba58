/- The document's own answer on what is wrong with letters and words, and on what must stay behind (package whensteadref3, in, Free, Word, stays); what lay in memory lies as it lay. -/
import Derived.Test.YtbacngbcnkikiaaDoorFo1
import Derived.Test.YtbacngbcnkikiaaDoorRefBig
namespace Go.Proofs.YtbacngbcnkikiaaDoor
open Go.RowKit

def inW (z lo hi : Int) : Bool := decide (lo ≤ z ∧ z ≤ hi)
theorem inW_true {z lo hi : Int} (h0 : lo ≤ z) (h1 : z ≤ hi) : inW z lo hi = true := decide_eq_true ⟨h0, h1⟩
theorem inW_false {z lo hi : Int} (h : ¬ (lo ≤ z ∧ z ≤ hi)) : inW z lo hi = false := decide_eq_false h
set_option maxHeartbeats 400000 in
theorem inW_any (z lo hi : Int) (w : World) :
    Calls Tryd.prog 32 #[.int .i64 z, .int .i64 lo, .int .i64 hi] w fun e w' => e = .returned (.bool (inW z lo hi)) ∧ w = w' := by
  by_cases hz : lo ≤ z
  · have hd : decide (lo ≤ z) = true := decide_eq_true hz
    go_enter Tryd.func32, Tryd.ntmps32
    go_wp2
    go_ret
    exact ⟨bool_ret (by unfold inW; rw [Bool.eq_iff_iff]; simp [hz]), rfl⟩
  · have hd : decide (lo ≤ z) = false := decide_eq_false hz
    go_enter Tryd.func32, Tryd.ntmps32
    go_wp2
    go_ret
    exact ⟨bool_ret (inW_false (fun h => by omega)).symm, rfl⟩
theorem inW_thing (z : Int) (n : Nat) : inW z 0 ((n : Int) - 1) = thingB z n := by
  unfold inW thingB
  rw [Bool.eq_iff_iff, decide_eq_true_iff, decide_eq_true_iff]
  omega
set_option maxRecDepth 100000 in
set_option maxHeartbeats 4000000 in
theorem refFree_any (zs : List Int) (p : Option Addr) (n cap : Nat) (w : World) (hl : zs.length = n) (hmax : n ≤ maxLen) (hc : HasI zs p w) :
    Calls Tryd.prog 11 #[.slice p n cap] w fun e w' => e = .returned (.int .i64 (frcode zs : Nat)) ∧ w = w' := by
  unfold maxLen at hmax
  by_cases h6 : 6 < n
  · have HC : Hid (frcode zs = 4) := frcode_full (by omega)
    have hd6 : decide ((6 : Int) < (n : Int)) = true := decide_eq_true (by omega)
    go_enter Tryd.func11, Tryd.ntmps11
    go_wp2_with fail
    go_ret
    exact ⟨by rw [HC.out]; rfl, rfl⟩
  · have hd6 : decide ((6 : Int) < (n : Int)) = false := decide_eq_false (by omega)
    have hn6 : n ≤ 6 := by omega
    clear h6
    go_enter Tryd.func11, Tryd.ntmps11
    go_wp2_with fail
    go_loopw [3] (fun v wr => ∃ i : Nat, v = .int .i64 i ∧ i ≤ n ∧ Hid (∀ j, j < i → setB (zs[j]?.getD 0) n = true) ∧ wr = w) (fun v _ => n - (intOf v).toNat)
    case atStart => exact ⟨0, rfl, Nat.zero_le _, show ∀ j, j < 0 → _ from fun j hj => absurd hj (Nat.not_lt_zero _), rfl⟩
    case round =>
      obtain ⟨i, rfl, hi, hJ, rfl⟩ := hrel
      by_cases hlt : i < n
      · obtain ⟨b, off, rfl, hb, hcz⟩ := hc i (by omega)
        obtain ⟨z, hz⟩ : ∃ z, zs[i]?.getD 0 = z := ⟨_, rfl⟩
        rw [hz] at hcz
        have HZ : Hid (zs[i]?.getD 0 = z) := hz
        clear hz
        have his := fun W => mask_any z n W (by omega)
        cases hs : setB z n with
        | false =>
          rw [hs] at his
          have HC : Hid (frcode zs = 1) := frcode_range (by omega) (by
            cases h : allSets zs with
            | false => rfl
            | true => have := (allSets_iff zs).1 h i (by omega); rw [HZ.out, hl, hs] at this; cases this)
          clear hs
          go_wp2_with fail
          refine (his _).mono ?_
          rintro e w2 ⟨rfl, rfl⟩
          go_wp2_with fail
          go_ret
          exact ⟨by rw [HC.out]; rfl, rfl⟩
        | true =>
          rw [hs] at his
          have HJ : Hid (∀ j, j < i + 1 → setB (zs[j]?.getD 0) n = true) := fun j hj => by
            by_cases e : j = i
            · subst e; rw [HZ.out]; exact hs
            · exact hJ.out j (by omega)
          clear hs
          go_wp2_with fail
          refine (his _).mono ?_
          rintro e w2 ⟨rfl, rfl⟩
          go_wp2_with fail
          go_roundw
          case rel => exact ⟨i + 1, by go_num, by omega, HJ, trivial⟩
          case measure => simp [intOf]; omega
      · obtain rfl : i = n := by omega
        have hall : allSets zs = true := (allSets_iff zs).2 (by rw [hl]; exact hJ.out)
        obtain ⟨F, rfl⟩ : ∃ F, zs = ints F := ⟨nats zs, ints_nats hall⟩
        have hlF : F.length = i := by rw [ints_length] at hl; exact hl
        have hO : M.Ok F := by have := nats_ok hall; rw [nats_ints] at this; exact this
        have hF64 : ∀ k, M.row F k < 64 := fun k => by have h1 := hO k; have h2 : 2 ^ F.length ≤ 2 ^ 6 := Nat.pow_le_pow_right (by omega) (by omega); omega
        have HF0 : Hid (frcode (ints F) = if M.frB F then 0 else 6) := by
          show _ = _
          cases hf : M.frB F with
          | true => exact frcode_none (by rw [ints_length]; omega) hall (by rw [nats_ints]; exact hf)
          | false => exact frcode_clash (by rw [ints_length]; omega) hall (by rw [nats_ints]; exact hf)
        clear hall hJ hd6
        go_wp2_with fail
        go_loopw [4] (fun v w2 => ∃ k : Nat, v = .int .i64 k ∧ k ≤ i ∧ Hid (∀ a, a < k → M.gdL F a) ∧ w2 = wr) (fun v _ => i - (intOf v).toNat)
        case atStart => exact ⟨0, rfl, Nat.zero_le _, show ∀ a, a < 0 → _ from fun a ha => absurd ha (Nat.not_lt_zero _), rfl⟩
        case round =>
          obtain ⟨k, rfl, hk, hG, rfl⟩ := hrel
          by_cases hlt : k < i
          · obtain ⟨b, off, rfl, hb, hcz⟩ := hc k (by rw [ints_length]; omega)
            rw [ints_get] at hcz
            have hx64 := hF64 k
            have hbit := fun W => bit_big (M.row F k) k W (by omega) (by omega)
            rw [show (M.row F k).testBit k = M.fr F k k from rfl] at hbit
            have hbj := fun j W (hj : j < 6) => bit_big (M.row F k) j W (by omega) (by omega)
            have hbe : ∀ j, (M.row F k).testBit j = M.fr F k j := fun j => rfl
            obtain ⟨x, hx⟩ : ∃ x, M.row F k = x := ⟨_, rfl⟩
            rw [hx] at hcz hbit hbj hbe hx64
            have hki : (k : Int) < (i : Int) := by omega
            clear hx
            cases hs : M.fr F k k with
            | true =>
              have HC : Hid (M.frB F = false) := M.frB_not hO (a := k) (by omega) (fun h => by rw [h.1] at hs; cases hs)
              rw [hs] at hbit
              clear hs hbe hbj
              go_wp2_with fail
              refine (hbit _).mono ?_
              rintro e w2 ⟨rfl, rfl⟩
              go_wp2_with fail
              go_ret
              exact ⟨by rw [HF0.out, HC.out]; rfl, rfl⟩
            | false =>
              have HSE : Hid (M.fr F k k = false) := hs
              rw [hs] at hbit
              have HBJ : Hid (∀ j W, j < 6 → Calls Tryd.prog 23 #[.int .i64 (x : Nat), .int .i64 (j : Nat)] W fun e w' => e = .returned (.bool (x.testBit j)) ∧ W = w') := hbj
              have HBE : Hid (∀ j, x.testBit j = M.fr F k j) := hbe
              clear hs hbe hbj
              go_wp2_with fail
              refine (hbit _).mono ?_
              rintro e w2 ⟨rfl, rfl⟩
              go_wp2_with fail
              go_loopw [5] (fun v w2 => ∃ j : Nat, v = .int .i64 j ∧ j ≤ i ∧ Hid (∀ b, b < j → M.fr F k b = true → M.fr F b k = true) ∧ w2 = wr) (fun v _ => i - (intOf v).toNat)
              case atStart => exact ⟨0, rfl, Nat.zero_le _, show ∀ b, b < 0 → _ from fun a ha => absurd ha (Nat.not_lt_zero _), rfl⟩
              case round =>
                obtain ⟨j, rfl, hj, hJ, rfl⟩ := hrel
                by_cases hji : j < i
                · obtain ⟨_, _, e', hb2, hcy⟩ := hc j (by rw [ints_length]; omega)
                  cases e'
                  rw [ints_get] at hcy
                  have hy64 := hF64 j
                  have hb1 := fun W => HBJ.out j W (by omega)
                  rw [HBE.out j] at hb1
                  have hb2 := fun W => bit_big (M.row F j) k W (by omega) (by omega)
                  rw [show (M.row F j).testBit k = M.fr F j k from rfl] at hb2
                  obtain ⟨y, hy⟩ : ∃ y, M.row F j = y := ⟨_, rfl⟩
                  rw [hy] at hcy hb2
                  have hji' : (j : Int) < (i : Int) := by omega
                  clear hy
                  cases hs1 : M.fr F k j with
                  | false =>
                    rw [hs1] at hb1
                    have HN : Hid (∀ b, b < j + 1 → M.fr F k b = true → M.fr F b k = true) := fun b hb => by
                      by_cases e : b = j
                      · subst e; rw [hs1]; intro h; cases h
                      · exact hJ.out b (by omega)
                    clear hs1
                    go_wp2_with fail
                    refine (hb1 _).mono ?_
                    rintro e w2 ⟨rfl, rfl⟩
                    go_wp2_with fail
                    go_roundw
                    case rel => exact ⟨j + 1, by go_num, by omega, HN, trivial⟩
                    case measure => simp [intOf]; omega
                  | true =>
                    rw [hs1] at hb1
                    cases hs2 : M.fr F j k with
                    | true =>
                      rw [hs2] at hb2
                      have HN : Hid (∀ b, b < j + 1 → M.fr F k b = true → M.fr F b k = true) := fun b hb => by
                        by_cases e : b = j
                        · subst e; intro _; exact hs2
                        · exact hJ.out b (by omega)
                      clear hs1 hs2
                      go_wp2_with fail
                      refine (hb1 _).mono ?_
                      rintro e w2 ⟨rfl, rfl⟩
                      go_wp2_with fail
                      refine (hb2 _).mono ?_
                      rintro e w2 ⟨rfl, rfl⟩
                      go_wp2_with fail
                      go_roundw
                      case rel => exact ⟨j + 1, by go_num, by omega, HN, trivial⟩
                      case measure => simp [intOf]; omega
                    | false =>
                      rw [hs2] at hb2
                      have HC : Hid (M.frB F = false) := M.frB_not hO (a := k) (by omega) (fun h => by have := h.2 j hs1; rw [hs2] at this; cases this)
                      clear hs1 hs2
                      go_wp2_with fail
                      refine (hb1 _).mono ?_
                      rintro e w2 ⟨rfl, rfl⟩
                      go_wp2_with fail
                      refine (hb2 _).mono ?_
                      rintro e w2 ⟨rfl, rfl⟩
                      go_wp2_with fail
                      go_ret
                      exact ⟨by rw [HF0.out, HC.out]; rfl, rfl⟩
                · obtain rfl : j = i := by omega
                  have HG : Hid (∀ a, a < k + 1 → M.gdL F a) := fun a ha => by
                    by_cases e : a = k
                    · subst e
                      exact ⟨HSE.out, fun b hb => hJ.out b (by have := M.fr_to hO hb; omega) hb⟩
                    · exact hG.out a (by omega)
                  go_wp2_with fail
                  go_roundw
                  case rel => exact ⟨k + 1, by go_num, by omega, HG, trivial⟩
                  case measure => simp [intOf]; omega
          · obtain rfl : k = i := by omega
            have HC : Hid (M.frB F = true) := (M.frB_iff hO).2 (by rw [hlF]; exact hG.out)
            go_wp2_with fail
            go_ret
            exact ⟨by rw [HF0.out, HC.out]; rfl, rfl⟩
set_option maxRecDepth 100000 in
set_option maxHeartbeats 4000000 in
theorem refWord_any (zs : List Int) (p : Option Addr) (n cap : Nat) (ws : List Int) (q : Option Addr) (m cap2 : Nat) (w : World) (hl : zs.length = n) (hmax : n ≤ maxLen) (hc : HasI zs p w) (hl2 : ws.length = m) (hmax2 : m ≤ maxLen) (hd : HasI ws q w) :
    Calls Tryd.prog 12 #[.slice p n cap, .slice q m cap2] w fun e w' => e = .returned (.int .i64 (wcode zs ws : Nat)) ∧ w = w' := by
  go_enter Tryd.func12, Tryd.ntmps12
  go_wp2_with fail
  refine (refFree_any zs p n cap _ hl hmax hc).mono ?_
  unfold maxLen at hmax hmax2
  rintro e w1 ⟨rfl, rfl⟩
  by_cases h0 : frcode zs = 0
  · rw [h0]
    by_cases h24 : 24 < m
    · have HC : Hid (wcode zs ws = 4) := wcode_full h0 (by omega)
      have hd4 : decide ((24 : Int) < (m : Int)) = true := decide_eq_true (by omega)
      clear h0
      go_wp2_with fail
      go_loopw [5, 6] (fun u v wr => u = .int .i64 4 ∧ v = .int .i64 0 ∧ wr = w) (fun _ _ _ => 0)
      case atStart => exact ⟨rfl, rfl, rfl⟩
      case round =>
        obtain ⟨rfl, rfl, rfl⟩ := hrel
        have f1 : decide ((0 : Int) < (m : Int)) = true := decide_eq_true (by omega)
        go_wp2_with fail
        go_ret
        exact ⟨by rw [HC.out]; rfl, rfl⟩
    · have hd4 : decide ((24 : Int) < (m : Int)) = false := decide_eq_false (by omega)
      have H0 : Hid (frcode zs = 0) := h0
      have hm : m ≤ 24 := by omega
      clear h0 h24
      go_wp2_with fail
      go_loopw [5, 6] (fun u v wr => ∃ (i c : Nat), u = .int .i64 c ∧ v = .int .i64 i ∧ i ≤ m ∧ Hid ((c = 0 ∧ ∀ j, j < i → thingB (ws[j]?.getD 0) n = true) ∨ (c = 1 ∧ wcode zs ws = 1)) ∧ wr = w) (fun _ v _ => m - (intOf v).toNat)
      case atStart => exact ⟨0, 0, rfl, rfl, Nat.zero_le _, show _ ∨ _ from .inl ⟨rfl, fun j hj => absurd hj (Nat.not_lt_zero _)⟩, rfl⟩
      case round =>
        obtain ⟨i, c, rfl, rfl, hi, hD, rfl⟩ := hrel
        by_cases hlt : i < m
        · have f1 : decide ((i : Int) < (m : Int)) = true := decide_eq_true (by omega)
          rcases hD.out with ⟨rfl, hJ⟩ | ⟨rfl, hW⟩
          · obtain ⟨b, off, rfl, hb, hcz⟩ := hd i (by omega)
            obtain ⟨z, hz⟩ : ∃ z, ws[i]?.getD 0 = z := ⟨_, rfl⟩
            rw [hz] at hcz
            have his := fun W => inW_any z 0 ((n : Int) - 1) W
            rw [inW_thing] at his
            have HZ : Hid (ws[i]?.getD 0 = z) := hz
            have HJ : Hid (∀ j, j < i → thingB (ws[j]?.getD 0) n = true) := hJ
            clear hz hJ hD
            cases hs : thingB z n with
            | false =>
              rw [hs] at his
              have HC : Hid (wcode zs ws = 1) := (wcode_range H0.out (by omega) (allT_not (k := i) (by omega) (by rw [HZ.out, hl]; exact hs)) : wcode zs ws = 1)
              clear hs
              go_wp2_with fail
              refine (his _).mono ?_
              rintro e w2 ⟨rfl, rfl⟩
              go_wp2_with fail
              go_roundw
              case rel => exact ⟨i + 1, 1, rfl, by go_num, by omega, show _ ∨ _ from .inr ⟨rfl, HC.out⟩, trivial⟩
              case measure => simp [intOf]; omega
            | true =>
              rw [hs] at his
              have HC : Hid (∀ j, j < i + 1 → thingB (ws[j]?.getD 0) n = true) := fun j hj => by
                by_cases e : j = i
                · subst e; rw [HZ.out]; exact hs
                · exact HJ.out j (by omega)
              clear hs
              go_wp2_with fail
              refine (his _).mono ?_
              rintro e w2 ⟨rfl, rfl⟩
              go_wp2_with fail
              go_roundw
              case rel => exact ⟨i + 1, 0, rfl, by go_num, by omega, show _ ∨ _ from .inl ⟨rfl, HC.out⟩, trivial⟩
              case measure => simp [intOf]; omega
          · have HW : Hid (wcode zs ws = 1) := hW
            clear hW hD
            go_wp2_with fail
            go_ret
            exact ⟨by rw [HW.out]; rfl, rfl⟩
        · obtain rfl : i = m := by omega
          have f1 : decide ((i : Int) < (i : Int)) = false := decide_eq_false (by omega)
          have HW : Hid (wcode zs ws = c) := by
            show _ = _
            rcases hD.out with ⟨rfl, hJ⟩ | ⟨rfl, hW⟩
            · exact wcode_none H0.out (by omega) (allT_iff.2 (by rw [hl2, hl]; exact hJ))
            · exact hW
          clear hD
          go_wp2_with fail
          go_ret
          exact ⟨by rw [HW.out]; rfl, rfl⟩
  · have HC : Hid (wcode zs ws = frcode zs) := wcode_letters h0
    obtain ⟨c, hcc⟩ : ∃ c, frcode zs = c := ⟨_, rfl⟩
    rw [hcc]
    rw [hcc] at HC h0
    have g1 : ((c : Int) == 0) = false := by simp; omega
    have g2 : (c == 0) = false := by simpa using h0
    clear h0 hcc
    go_wp2_with fail
    go_loopw [5, 6] (fun u v wr => u = .int .i64 c ∧ v = .int .i64 0 ∧ wr = w) (fun _ _ _ => 0)
    case atStart => exact ⟨rfl, rfl, rfl⟩
    case round =>
      obtain ⟨rfl, rfl, rfl⟩ := hrel
      by_cases h0 : 0 < m
      · have f1 : decide ((0 : Int) < (m : Int)) = true := decide_eq_true (by omega)
        go_wp2_with fail
        go_ret
        exact ⟨by rw [HC.out]; rfl, rfl⟩
      · have f1 : decide ((0 : Int) < (m : Int)) = false := decide_eq_false (by omega)
        go_wp2_with fail
        go_ret
        exact ⟨by rw [HC.out]; rfl, rfl⟩
set_option maxRecDepth 100000 in
set_option maxHeartbeats 4000000 in
theorem stays_ok (F u : List Nat) (p : Option Addr) (n cap : Nat) (q : Option Addr) (m cap2 i j : Nat) (w : World) (hl : F.length = n) (hF : FOk F) (hc : HasI (ints F) p w) (hl2 : u.length = m) (hU : WOk F u) (hd : HasI (ints u) q w) (hi : i < m) (hj : j < m) :
    Calls Tryd.prog 33 #[.slice p n cap, .slice q m cap2, .int .i64 (i : Nat), .int .i64 (j : Nat)] w fun e w' => e = .returned (.bool (M.ahB (M.fr F) u i j)) ∧ Below w.heap.size w w' := by
  have hm : m ≤ 24 := hl2 ▸ hU.len
  have hn6 := hF.len
  by_cases hij : i < j
  · have d1 : decide ((i : Int) < (j : Int)) = true := decide_eq_true (by omega)
    have d1' : decide (i < j) = true := decide_eq_true hij
    obtain ⟨b, off, rfl, hb, hci⟩ := hd i (by rw [ints_length]; omega)
    obtain ⟨_, _, e', _, hcj⟩ := hd j (by rw [ints_length]; omega)
    cases e'
    rw [ints_get] at hci hcj
    have hri := hU.row (i := i) (by omega)
    have hrj := hU.row (i := j) (by omega)
    have HA : Hid (M.ahB (M.fr F) u i j = !M.fr F (M.row u i) (M.row u j)) := by show _ = _; unfold M.ahB; rw [d1']; rfl
    obtain ⟨c, hcc⟩ : ∃ c, M.row u i = c := ⟨_, rfl⟩
    obtain ⟨d, hdd⟩ : ∃ d, M.row u j = d := ⟨_, rfl⟩
    rw [hcc] at hci hri HA
    rw [hdd] at hcj hrj HA
    obtain ⟨bf, of, rfl, hbf, hcf⟩ := hc c (by rw [ints_length]; omega)
    rw [ints_get] at hcf
    have hfl := hF.lt c
    have hbit := fun W => bit_big (M.row F c) d W (by omega) (by omega)
    rw [show (M.row F c).testBit d = M.fr F c d from rfl] at hbit
    obtain ⟨x, hx⟩ : ∃ x, M.row F c = x := ⟨_, rfl⟩
    rw [hx] at hcf hbit
    obtain ⟨t, ht⟩ : ∃ t, M.fr F c d = t := ⟨_, rfl⟩
    rw [ht] at hbit HA
    have him : (i : Int) < (m : Int) := by omega
    have hjm : (j : Int) < (m : Int) := by omega
    have hcn : (c : Int) < (n : Int) := by omega
    clear hcc hdd hx ht hfl
    go_enter Tryd.func33, Tryd.ntmps33
    go_wp2_with fail
    go_big_quiet ((go_at_call 23; exact Calls.quiet_of_same ((hbit _).mono (fun e w' h => ⟨h.1, h.2.symm⟩))))
    go_wp2_with fail
    go_ret
    exact ⟨by rw [HA.out]; cases t <;> rfl, bel_drN (Below.refl _ _) _⟩
  · have d1 : decide ((i : Int) < (j : Int)) = false := decide_eq_false (by omega)
    have d1' : decide (i < j) = false := decide_eq_false hij
    have HA : Hid (M.ahB (M.fr F) u i j = false) := by show _ = _; unfold M.ahB; rw [d1']; rfl
    clear hij
    go_enter Tryd.func33, Tryd.ntmps33
    go_wp2_with fail
    go_big_quiet (fail)
    go_wp2_with fail
    go_ret
    exact ⟨by rw [HA.out]; rfl, bel_drN (Below.refl _ _) _⟩
end Go.Proofs.YtbacngbcnkikiaaDoor
