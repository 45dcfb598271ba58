/- Two phases are enough (law LockTwo), the walk. -/
import Derived.Test.YtcjodlgkmbmcgaaDoorLkf
import Derived.Test.YtcjodlgkmbmcgaaDoorLxr
namespace Go.Proofs.YtcjodlgkmbmcgaaDoor
open Go.RowKit
set_option maxRecDepth 100000 in
set_option maxHeartbeats 4000000 in
theorem kt_walk (zs : List Dz) (p : Option Addr) (n cap : Nat) (w : World) (he : Env w) (hty : Ety w) (hl : zs.length = n) (_ : n ≤ maxLen) (hc : HasD zs p w) :
    Calls Tryd.prog 3 #[.slice p n cap] w fun e w' => e = .returned (.bool true) ∧ Below w.heap.size w w' := by
  have hf := lockFact_ok w hty
  have HE : Hid (Env w) := he
  have HC : Hid (HasD zs p w) := hc
  clear he hc hty
  go_enter Tryd.func3, Tryd.ntmps3
  go_wp2_with fail
  refine hf.mono ?_
  rintro e w1 ⟨rfl, hB1⟩
  have H1 : Hid (Below w.heap.size w w1) := hB1
  clear hf hB1
  go_wp2_with fail
  refine (lnew_ok (O := fun k => w.heap.size ≤ k) w1 H1.out.size).mono ?_
  rintro e w2 ⟨S, hS, rfl, hT2, hB2⟩
  have H2 : Hid (TV (fun k => w.heap.size ≤ k) S M.lk0 w2 ∧ Below w.heap.size w w2) := ⟨hT2, H1.out.trans (hB2.mono H1.out.size)⟩
  clear hT2 hB2 hS H1
  go_wp2_with fail
  go_loopw [5] (fun u wr => ∃ (i : Nat) (s : M.Lk), u = .int .i64 (i : Nat) ∧ i ≤ n ∧ i ≤ 80 ∧ Hid (TV (fun k => w.heap.size ≤ k) S s wr ∧ M.LG s ∧ Below w.heap.size w wr)) (fun u _ => 80 - (intOf u).toNat)
  case atStart => exact ⟨0, _, rfl, Nat.zero_le _, Nat.zero_le _, ⟨H2.out.1, M.LG.zero, H2.out.2⟩⟩
  case round =>
    clear H2
    obtain ⟨i, s, rfl, hi, hi2, HP⟩ := hrel
    by_cases hlt : i < n ∧ i < 80
    · obtain ⟨h1, h2⟩ := hlt
      have h1i : (i : Int) < n := by omega
      have h2i : (i : Int) < 80 := by omega
      obtain ⟨b, off, rfl, hd⟩ := (HC.out.later HP.out.2.2) i (by omega)
      obtain ⟨⟨k, t, o, x⟩, hz⟩ : ∃ d, dAt zs i = d := ⟨_, rfl⟩
      rw [hz] at hd
      have c0 := hd.c0
      have c1 := hd.c1
      have c2 := hd.c2
      have c3 := hd.c3
      have hb := hd.lt
      simp only at c0 c1 c2 c3
      have dd := ldo_ok k t o x wr HP.out.1 (fun k hk => Nat.le_trans HP.out.2.2.size hk) HP.out.2.1
      have HN : Hid (∀ w', TV (fun k => w.heap.size ≤ k) S (lkZ s k t o x).1 w' → Frm (fun k => w.heap.size ≤ k) wr w' → TV (fun k => w.heap.size ≤ k) S (lkZ s k t o x).1 w' ∧ M.LG (lkZ s k t o x).1 ∧ Below w.heap.size w w') := fun w' h1 h2 => ⟨h1, HP.out.2.1.z k t o x, HP.out.2.2.trans (h2.below HP.out.2.2.size (fun k hk h => by omega))⟩
      clear hz hd HP
      go_wp2_with fail
      refine dd.mono ?_
      rintro e w3 ⟨rfl, h3, h4⟩
      have H3 : Hid _ := HN.out w3 h3 h4
      clear dd h3 h4 HN c0 c1 c2 c3
      go_wp2_with fail
      go_roundw
      case rel => exact ⟨i + 1, _, by go_num, by omega, by omega, H3⟩
      case measure => simp [intOf]; omega
    · have ha := lacts_ok wr HP.out.1 HP.out.2.1
      have hx : Hid (i < n → i = 80) := (by omega : i < n → i = 80)
      have hser : ∀ w' p c, Below wr.heap.size wr w' → s.ac.length ≤ c → HasAc (az s.ac) p w' → Calls Tryd.prog 10 #[.slice p s.ac.length c] w' fun e w'' => ∃ v, e = .returned (.tuple #[.bool true, v, .nilIface]) ∧ Below w.heap.size w w'' := fun w' p c hb hcap hh => by
        have h5 := HP.out.2.2.trans (hb.mono HP.out.2.2.size)
        refine (serial_any s.ac p s.ac.length c w' (HE.out.later h5) rfl HP.out.2.1.aok hcap hh).mono ?_
        rintro e w'' ⟨v, rfl, hB⟩
        have hno : ringB (M.edR s.ac) = false := by
          cases c : ringB (M.edR s.ac) with
          | false => rfl
          | true => exact absurd (ringB_iff.1 c) (M.two_phases HP.out.2.1.li (M.edR_ok s.ac) (fun t u h => ((M.edR_bit s.ac t u).1 h).2.2))
        rw [hno]
        exact ⟨v, rfl, h5.trans (hB.mono h5.size)⟩
      obtain ⟨L, hL⟩ : ∃ L, s.ac.length = L := ⟨_, rfl⟩
      rw [hL] at ha hser
      clear hL HP
      by_cases hn : i < n
      · obtain rfl : i = 80 := hx.out hn
        have hn2 : (80 : Int) < n := by omega
        go_wp2_with fail
        refine ha.mono ?_
        rintro e w3 ⟨q, c, rfl, h1, h2, h3⟩
        have hs := hser w3 q c h3 h1 h2
        clear ha hser h1 h2 h3
        go_wp2_with fail
        refine hs.mono ?_
        rintro e w4 ⟨v, rfl, hB⟩
        go_wp2_with fail
        go_ret
        exact ⟨rfl, hB⟩
      · obtain rfl : n = i := by omega
        go_wp2_with fail
        refine ha.mono ?_
        rintro e w3 ⟨q, c, rfl, h1, h2, h3⟩
        have hs := hser w3 q c h3 h1 h2
        clear ha hser h1 h2 h3
        go_wp2_with fail
        refine hs.mono ?_
        rintro e w4 ⟨v, rfl, hB⟩
        go_wp2_with fail
        go_ret
        exact ⟨rfl, hB⟩
end Go.Proofs.YtcjodlgkmbmcgaaDoor
