/- Sums of few numbers (package whensteadsame, Sum), and all money of a bank (package whensteadlaw2, whole). -/
import Derived.Test.YtplplgpfglaajaaBk11
namespace Go.Proofs.Ytplplgpfglaajaa
open Go.RowKit
namespace M
def suml (l : List Int) : Int := sumN (mof l) l.length
theorem suml_mol (n : Nat) (b : Bk) : suml (mol n b) = sumN b.mo n := by
  unfold suml
  rw [mol_length]
  exact sumN_congr fun i hi => mol_at b hi
theorem suml_nol (n : Nat) (b : Bk) : suml (nol n b) = sumN b.no n := by
  unfold suml
  rw [nol_length]
  exact sumN_congr fun i hi => nol_at b hi
/-- all money but that on the ways from process p on -/
def W1 (n : Nat) (b : Bk) (p : Nat) : Int := sumN b.mo n + sumN (fun a => sumN (fun c => posS (b.wy a c)) n) p
def W2 (n : Nat) (b : Bk) (p q : Nat) : Int := W1 n b p + sumN (fun c => posS (b.wy p c)) q
def W3 (n : Nat) (b : Bk) (p q k : Nat) : Int := W2 n b p q + posS ((b.wy p q).take k)
theorem W1_zero (n : Nat) (b : Bk) : W1 n b 0 = sumN b.mo n := by unfold W1; simp [sumN]
theorem W1_end (n : Nat) (b : Bk) : W1 n b n = tot n b := rfl
theorem W2_zero (n : Nat) (b : Bk) (p : Nat) : W2 n b p 0 = W1 n b p := by unfold W2; simp [sumN]
theorem W2_end (n : Nat) (b : Bk) (p : Nat) : W2 n b p n = W1 n b (p + 1) := by unfold W2 W1; simp only [sumN]; omega
theorem W3_zero (n : Nat) (b : Bk) (p q : Nat) : W3 n b p q 0 = W2 n b p q := by unfold W3; simp [posS]
theorem W3_end (n : Nat) (b : Bk) (p q : Nat) {k : Nat} (h : (b.wy p q).length = k) : W3 n b p q k = W2 n b p (q + 1) := by
  unfold W3
  rw [← h, List.take_length]
  unfold W2
  simp only [sumN]; omega
theorem W3_step (n : Nat) (b : Bk) (p q : Nat) {k : Nat} {x : Int} (h : k < (b.wy p q).length) (hx : (b.wy p q)[k]?.getD 0 = x) : W3 n b p q (k + 1) = W3 n b p q k + if 0 < x then x else 0 := by
  unfold W3
  have e : (b.wy p q).take (k + 1) = (b.wy p q).take k ++ [x] := by
    rw [List.take_add_one, List.getElem?_eq_getElem h]
    rw [List.getElem?_eq_getElem h] at hx
    simp at hx
    simp [hx]
  rw [e, posS_app]
  simp only [posS]; omega
theorem posS_take (l : List Int) (k : Nat) : posS (l.take k) ≤ posS l := by
  have : posS l = posS (l.take k) + posS (l.drop k) := by rw [← posS_app, List.take_append_drop]
  have := posS_nonneg (l.drop k)
  omega
theorem W_bounds {n : Nat} {b : Bk} (h : BG n b) {p q : Nat} (hp : p < n) (hq : q < n) (k : Nat) : 0 ≤ W3 n b p q k ∧ W3 n b p q k ≤ 5000 := by
  have h1 := sumN_nonneg (f := b.mo) (n := n) h.ok.mo0
  have h2 : 0 ≤ sumN (fun a => sumN (fun c => posS (b.wy a c)) n) p := sumN_nonneg fun a _ => sumN_nonneg fun c _ => posS_nonneg _
  have h3 : 0 ≤ sumN (fun c => posS (b.wy p c)) q := sumN_nonneg fun c _ => posS_nonneg _
  have h4 := posS_nonneg ((b.wy p q).take k)
  have h5 := posS_take (b.wy p q) k
  have h6 : sumN (fun c => posS (b.wy p c)) (q + 1) ≤ sumN (fun c => posS (b.wy p c)) n := sumN_part (fun c _ => posS_nonneg _) (by omega)
  have h7 : sumN (fun a => sumN (fun c => posS (b.wy a c)) n) (p + 1) ≤ sumN (fun a => sumN (fun c => posS (b.wy a c)) n) n := sumN_part (fun a _ => sumN_nonneg fun c _ => posS_nonneg _) (by omega)
  have h8 := h.tt
  have h9 : sum2 (fun p q => posS (b.wy p q)) n = sumN (fun a => sumN (fun c => posS (b.wy a c)) n) n := rfl
  unfold tot at h8
  simp only [sumN] at h6 h7
  unfold W3 W2 W1
  omega
end M
set_option maxHeartbeats 1000000 in
theorem sum_ok (l : List Int) (p : Option Addr) (n cap : Nat) (w : World) (hl : l.length = n) (hn : n ≤ 10) (hb : ∀ i, i < n → 0 ≤ M.mof l i ∧ M.mof l i ≤ 10000) (hp : HasI l p w) :
    Calls Try.prog 8 #[.slice p n cap] w fun e w' => e = .returned (.int .i64 (M.suml l)) ∧ w = w' := by
  have HB : Hid (∀ i, i < n → 0 ≤ M.mof l i ∧ M.mof l i ≤ 10000) := hb
  have HS : Hid (M.suml l = M.sumN (M.mof l) n) := by unfold M.suml; rw [hl]; rfl
  clear hb
  go_enter Try.func8, Try.ntmps8
  go_wp2_with fail
  go_loopw [3, 4] (fun u v wr => ∃ (k : Nat) (s : Int), u = .int .i64 s ∧ v = .int .i64 k ∧ k ≤ n ∧ Hid (s = M.sumN (M.mof l) k) ∧ w = wr) (fun _ v _ => n - (intOf v).toNat)
  case atStart => exact ⟨0, 0, rfl, rfl, Nat.zero_le _, (rfl : (0 : Int) = _), rfl⟩
  case round =>
    obtain ⟨k, s, rfl, rfl, hk, hs, rfl⟩ := hrel
    by_cases hlt : k < n
    · obtain ⟨b, off, rfl, hb, hc⟩ := hp k (by omega)
      have hz0 := HB.out k hlt
      have hs0 : 0 ≤ s := by rw [hs.out]; exact M.sumN_nonneg fun i hi => (HB.out i (by omega)).1
      have hs1 : s ≤ 100000 := by
        rw [hs.out]
        have := M.sumN_bound (f := M.mof l) (n := k) (c := 10000) (fun i hi => (HB.out i (by omega)).2)
        have : (k : Int) * 10000 ≤ 100000 := by omega
        omega
      have hs2 : s + M.mof l k = M.sumN (M.mof l) (k + 1) := by rw [hs.out]; rfl
      unfold M.mof at hz0 hs2
      obtain ⟨z, hz⟩ : ∃ z, l[k]?.getD 0 = z := ⟨_, rfl⟩
      rw [hz] at hc hz0 hs2
      obtain ⟨hz0, hz1⟩ := hz0
      have H2 : Hid (s + z = M.sumN (M.mof l) (k + 1)) := hs2
      have hki : (k : Int) < n := by omega
      clear hz hs hs2 hp
      go_wp2_with fail
      go_roundw
      case rel => exact ⟨k + 1, s + z, rfl, by go_num, by omega, H2, by trivial⟩
      case measure => simp [intOf]; omega
    · obtain rfl : n = k := by omega
      have H2 : Hid (M.suml l = s) := by rw [hs.out, HS.out]; rfl
      clear hs hp
      go_wp2_with fail
      go_ret
      exact ⟨by rw [H2.out]; rfl, rfl⟩
theorem mol_bound {n : Nat} {b : M.Bk} (h : M.BG n b) : ∀ i, i < n → 0 ≤ M.mof (M.mol n b) i ∧ M.mof (M.mol n b) i ≤ 10000 := fun i hi => by
  unfold M.mof
  rw [M.mol_at b hi]
  exact ⟨h.mo0 hi, by have := h.mo_le hi; omega⟩
set_option maxRecDepth 100000 in
set_option maxHeartbeats 2000000 in
theorem whole_ok {O : Nat → Prop} {S n : Nat} {b : M.Bk} (w : World) (h : BV O S n b w) (hg : M.BG n b) :
    Calls Try.prog 10 #[.pointer (some ⟨S, 0, none⟩), .int .i64 n] w fun e w' => e = .returned (.int .i64 (M.tot n b)) ∧ Below w.heap.size w w' := by
  have hn5 := hg.n5
  have HG : Hid (M.BG n b) := hg
  have H : Hid (BV O S n b w) := h
  clear h hg
  go_enter Try.func10, Try.ntmps10
  go_wp2_with fail
  refine (money_ok w H.out hn5).mono ?_
  rintro e w1 ⟨ad, rfl, hI, hB1⟩
  go_wp2_with fail
  refine (sum_ok (M.mol n b) ad n n w1 (M.mol_length n b) (by omega) (mol_bound HG.out) hI).mono ?_
  rintro e w2 ⟨rfl, rfl⟩
  have HS : Hid (M.suml (M.mol n b) = M.W1 n b 0) := by rw [M.suml_mol, M.W1_zero]; rfl
  obtain ⟨s0, hs0⟩ : ∃ s, M.suml (M.mol n b) = s := ⟨_, rfl⟩
  rw [hs0] at HS ⊢
  clear hs0 hI
  go_wp2_with fail
  go_loopw [5, 6] (fun u v wr => ∃ (p : Nat) (s : Int), u = .int .i64 s ∧ v = .int .i64 p ∧ p ≤ n ∧ Hid (s = M.W1 n b p) ∧ Below w.heap.size w wr) (fun _ v _ => n - (intOf v).toNat)
  case atStart => exact ⟨0, s0, rfl, rfl, Nat.zero_le _, HS, hB1⟩
  case round =>
    clear HS hB1
    obtain ⟨p, s, rfl, rfl, hp, hs, hB⟩ := hrel
    by_cases hltp : p < n
    · have hpi : (p : Int) < n := by omega
      have HS : Hid (s = M.W2 n b p 0) := by rw [M.W2_zero]; exact hs
      clear hs
      obtain ⟨wo, hwo⟩ : ∃ wo, wo = wr := ⟨_, rfl⟩
      subst hwo
      go_wp2_with fail
      go_loopw [5, 7] (fun u v wr => ∃ (q : Nat) (s : Int), u = .int .i64 s ∧ v = .int .i64 q ∧ q ≤ n ∧ Hid (s = M.W2 n b p q) ∧ Below w.heap.size w wr) (fun _ v _ => n - (intOf v).toNat)
      case atStart => exact ⟨0, s, rfl, rfl, Nat.zero_le _, HS, hB⟩
      case round =>
        clear HS hB
        obtain ⟨q, s, rfl, rfl, hq, hs, hB⟩ := hrel
        by_cases hltq : q < n
        · have hqi : (q : Int) < n := by omega
          have HS : Hid (s = M.W3 n b p q 0) := by rw [M.W3_zero]; exact hs
          clear hs
          obtain ⟨wi, hwi⟩ : ∃ wi, wi = wr := ⟨_, rfl⟩
          subst hwi
          go_wp2_with fail
          refine (way_ok p q wi (H.out.below hB) HG.out hltp hltq).mono ?_
          rintro e w3 ⟨ad, c, rfl, hI, hB3⟩
          have hC3 := bel_on hB hB3
          have HL : Hid ((b.wy p q).length ≤ 9) := HG.out.cnt p q
          have HI : Hid (HasI (b.wy p q) ad w3) := hI
          obtain ⟨L, hL⟩ : ∃ L, (b.wy p q).length = L := ⟨_, rfl⟩
          have HLL : Hid ((b.wy p q).length = L) := hL
          rw [hL] at HL ⊢
          clear hL hI hB3 hB
          go_wp2_with fail
          go_loopw [5, 9] (fun u v wr => ∃ (k : Nat) (s : Int), u = .int .i64 s ∧ v = .int .i64 k ∧ k ≤ L ∧ Hid (s = M.W3 n b p q k) ∧ w3 = wr) (fun _ v _ => L - (intOf v).toNat)
          case atStart => exact ⟨0, s, rfl, rfl, Nat.zero_le _, HS, rfl⟩
          case round =>
            clear HS
            obtain ⟨k, s, rfl, rfl, hk, hs, rfl⟩ := hrel
            by_cases hltk : k < L
            · have hkL : k < (b.wy p q).length := by rw [HLL.out]; exact hltk
              obtain ⟨z, hz⟩ : ∃ z, (b.wy p q)[k]?.getD 0 = z := ⟨_, rfl⟩
              obtain ⟨b', off, rfl, hb, hc⟩ := HI.out k hkL
              rw [hz] at hc
              have hstep := M.W3_step n b p q hkL hz
              have hz5 : z = -1 ∨ (0 ≤ z ∧ z ≤ 5000) := HG.out.wy_le (p := p) (q := q) (x := z) (by
                rw [← hz, List.getElem?_eq_getElem hkL]; exact List.getElem_mem hkL)
              obtain ⟨hs0, hs1⟩ := M.W_bounds HG.out hltp hltq k
              have e := hs.out
              rw [← e] at hs0 hs1 hstep
              have hL9 : k < 9 := by have := HL.out; omega
              have hki : (k : Int) < L := by omega
              have hz9 : z ≤ 5000 := by omega
              by_cases hpos : 0 < z
              · rw [if_pos hpos] at hstep
                have H2 : Hid (s + z = M.W3 n b p q (k + 1)) := hstep.symm
                clear hz hs hstep hz5 e
                go_wp2_with fail
                go_roundw
                case rel => exact ⟨k + 1, s + z, rfl, by go_num, by omega, H2, by trivial⟩
                case measure => simp [intOf]; omega
              · rw [if_neg hpos, Int.add_zero] at hstep
                have H2 : Hid (s = M.W3 n b p q (k + 1)) := hstep.symm
                have hpos' : z ≤ 0 := by omega
                clear hz hs hstep hz5 e hpos
                go_wp2_with fail
                go_roundw
                case rel => exact ⟨k + 1, s, rfl, by go_num, by omega, H2, by trivial⟩
                case measure => simp [intOf]; omega
            · obtain rfl : L = k := by omega
              have H2 : Hid (s = M.W2 n b p (q + 1)) := by rw [hs.out, M.W3_end n b p q HLL.out]; rfl
              clear hs
              go_wp2_with fail
              go_roundw
              case rel => exact ⟨q + 1, s, rfl, by go_num, by omega, H2, hC3⟩
              case measure => simp [intOf]; omega
        · obtain rfl : n = q := by omega
          have H2 : Hid (s = M.W1 n b (p + 1)) := by rw [hs.out, M.W2_end]; rfl
          clear hs
          go_wp2_with fail
          go_roundw
          case rel => exact ⟨p + 1, s, rfl, by go_num, by omega, H2, hB⟩
          case measure => simp [intOf]; omega
    · obtain rfl : n = p := by omega
      have H2 : Hid (M.tot n b = s) := by rw [hs.out, M.W1_end]; rfl
      clear hs
      go_wp2_with fail
      go_ret
      exact ⟨by rw [H2.out]; rfl, hB⟩
end Go.Proofs.Ytplplgpfglaajaa
