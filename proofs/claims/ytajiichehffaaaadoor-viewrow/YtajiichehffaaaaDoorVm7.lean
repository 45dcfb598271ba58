/- Who wrote next what one wrote (package view, wroteNext). -/
import Derived.Test.YtajiichehffaaaaDoorVm4
namespace Go.Proofs.YtajiichehffaaaaDoor
open Go.RowKit
theorem i64_andNot_v (a b : Nat) (ha : a < 65536) (hb : b < 65536) : ∃ r : Nat, bits .andNot .i64 (a : Int) (b : Int) = (r : Int) ∧ r ≤ a ∧ ∀ j, r.testBit j = (a.testBit j && !b.testBit j) := by
  obtain ⟨r, hr⟩ : ∃ r : Nat, (BitVec.ofInt 64 (a : Int) &&& ~~~BitVec.ofInt 64 (b : Int)).toNat = r := ⟨_, rfl⟩
  have hle : r ≤ a := by
    rw [← hr, BitVec.toNat_and, ofInt_i64 a ha]
    exact Nat.and_le_left
  have hbit : ∀ j, r.testBit j = (a.testBit j && !b.testBit j) := fun j => by
    rw [← hr, BitVec.toNat_and, BitVec.toNat_not, Nat.testBit_and, ofInt_i64 a ha, ofInt_i64 b hb]
    by_cases hj : j < 64
    · rw [show (2 ^ 64 - 1 - b) = 2 ^ 64 - (b + 1) by omega, Nat.testBit_two_pow_sub_succ (by omega)]
      simp [hj]
    · have : a.testBit j = false := Nat.testBit_lt_two_pow (Nat.lt_of_lt_of_le ha (Nat.pow_le_pow_right (n := 2) (by omega) (by omega : 16 ≤ j)))
      rw [this]; simp
  refine ⟨r, ?_, hle, hbit⟩
  show IntKind.i64.wrap ((BitVec.ofInt 64 (a : Int) &&& ~~~BitVec.ofInt 64 (b : Int)).toNat : Int) = _
  rw [hr, i64_wrap_nat _ (by omega)]
set_option maxRecDepth 100000 in
set_option maxHeartbeats 4000000 in
theorem vnext_ok {O : Nat → Prop} {S : Nat} {s : M.Vw} (a t : Nat) (w : World) (h : VV O S s w) (hI : M.VI s) (ha : a < s.ro.length) (hat : M.row s.ro a = t) :
    Calls Tryd.prog 36 #[.pointer (some ⟨S, 0, none⟩), .int .i64 (a : Nat)] w fun e w' => e = .returned (.int .i64 (M.vNxS s t a : Nat)) ∧ Below w.heap.size w w' := by
  have HV : Hid (VV O S s w) := h
  have HI : Hid (M.VI s) := hI
  obtain ⟨p, c, v1, _⟩ := h.parts
  have cr := v1.ro
  have hlen := hI.len
  have l1 := v1.lt
  obtain ⟨L, hL⟩ : ∃ L, s.ro.length = L := ⟨_, rfl⟩
  have hrow := row_at rfl v1.row
  rw [hL] at hrow
  have hLc : L ≤ c := by rcases hrow with ⟨_, h2, h3⟩ | ⟨g, _, h2, _⟩ <;> omega
  have HAT : Hid (M.row s.ro a = t) := hat
  rw [hL] at cr hlen ha
  have HL : Hid (s.ro.length = L ∧ w.cell? ⟨S, 20, none⟩ = some (.slice p L c)) := ⟨hL, cr⟩
  have hx0 : Hid (M.LfS s a 0 (s.wr t)) := by rw [← hat]; exact M.LfS.zero hI a
  obtain ⟨g, u, rfl, _, hu, hu5, hg, c0, _, _, c3⟩ := h.place hI cr hL (Below.refl _ _) ha
  obtain rfl : u = t := hu.symm.trans hat
  obtain ⟨x, hx⟩ : ∃ x, s.wr u = x := ⟨_, rfl⟩
  rw [hx] at c3 hx0
  have hai : (a : Int) < L := by omega
  have hui : (u : Int) < 5 := by omega
  clear hL v1 h hI hrow hu hat hx
  go_enter Tryd.func36, Tryd.ntmps36
  go_wp2_with fail
  go_quiet (fail)
  have HB0 : Hid (Below w.heap.size w (w.drewN nq)) := bel_drN (Below.refl _ _) _
  obtain ⟨wq, hwq⟩ : ∃ wq, w.drewN nq = wq := ⟨_, rfl⟩
  rw [hwq] at HB0 ⊢
  have cq := (HB0.out.cell (p := ⟨S, 20, none⟩) l1).trans cr
  have lq : S < wq.heap.size := by have := HB0.out.size; omega
  have ha1 : (a : Int) + 1 = ((a + 1 : Nat) : Int) := by omega
  obtain ⟨z, hz⟩ : ∃ z, a + 1 = z := ⟨_, rfl⟩
  rw [hz] at ha1
  have hzi : (z : Int) ≤ L := by omega
  have hzc : (z : Int) ≤ c := by omega
  have HZ : Hid (a + 1 = z) := hz
  clear hwq cr c0 c3 hg l1 hai hui hz
  go_wp2_with fail
  all_goals
    obtain ⟨m, hm⟩ : ∃ m, L - z = m := ⟨_, rfl⟩
    rw [hm]
    have HM : Hid (L - z = m) := hm
    have hm5 : m ≤ 5 := by omega
    clear hm cq
    go_loopw [5, 6, 30] (fun u' l' v wr => ∃ k q lf : Nat, u' = .int .i64 (q : Nat) ∧ l' = .int .i64 (lf : Nat) ∧ v = .int .i64 (k : Nat) ∧ k ≤ m ∧ Hid (M.orL ((s.ro.drop z).take k) (M.nxF s u) = q) ∧ Hid (M.LfS s a k lf) ∧ Hid (Below w.heap.size w wr)) (fun _ _ v _ => m - (intOf v).toNat)
    case atStart => exact ⟨0, 0, x, rfl, rfl, rfl, Nat.zero_le _, (rfl : M.orL ((s.ro.drop z).take 0) (M.nxF s u) = 0), hx0, HB0⟩
    case round =>
      clear HB0
      obtain ⟨k, q, lf, rfl, rfl, rfl, hk, hq, hlf, HB⟩ := hrel
      by_cases hlt : k < m
      · first
          | (exfalso; have := HM.out; omega)
          | (obtain ⟨g', b, hpg, _, hb, hb5, hg, c0, _, _, c3⟩ := HV.out.place HI.out HL.out.2 HL.out.1 HB.out (show z + k < L by have := HM.out; omega)
             cases hpg
             have hki : (k : Int) < m := by omega
             have hui : (b : Int) < 5 := by omega
             have hls : S < wr.heap.size := by have := HV.out.lt; have := HB.out.size; omega
             have hq32 : q < 32 := by rw [← hq.out]; exact HI.out.orS_lt _ _ _
             have hw16 := HI.out.wb b
             have hl16 := hlf.out.1
             have hzk : z + k < s.ro.length := by have := HL.out.1; have := HM.out; omega
             have hbz : M.row s.ro (a + 1 + k) = b := by rw [HZ.out]; exact hb
             have hcond := M.nx_cond HI.out hlf.out (by rw [HZ.out]; exact hzk)
             rw [hbz, HAT.out] at hcond
             obtain ⟨y, hy⟩ : ∃ y, s.wr b = y := ⟨_, rfl⟩
             rw [hy] at c3 hw16 hcond
             have HY : Hid (s.wr (M.row s.ro (a + 1 + k)) = y) := by show _ = _; rw [hbz]; exact hy
             have hand := i64_and_nat y lf (by omega) (by omega)
             obtain ⟨r, hr⟩ : ∃ r, y &&& lf = r := ⟨_, rfl⟩
             rw [hr] at hand hcond
             by_cases hr0 : r = 0
             · have hg0 : ((r : Int) != 0) = false := by simp [hr0]
               have hf : M.nxF s u b = false := by
                 cases e : M.nxF s u b with
                 | false => rfl
                 | true => exact absurd hr0 (hcond.2 e)
               have HQ : Hid (M.orL ((s.ro.drop z).take (k + 1)) (M.nxF s u) = q) := by show _ = _; rw [M.orS_no hzk hb hf, hq.out]
               have HLF : Hid (M.LfS s a (k + 1) lf) := hlf.out.none (by rw [HZ.out]; exact hzk) (by rw [HY.out, hr]; exact hr0)
               clear hr0 hf hcond hq hlf hr hy hb hbz hzk
               go_wp2_with fail
               go_roundw
               case rel => exact ⟨k + 1, q, lf, rfl, rfl, by go_num, by omega, HQ, HLF, HB⟩
               case measure => simp [intOf]; omega
             · have hg0 : ((r : Int) != 0) = true := by simp [hr0]
               have HQ : Hid (M.orL ((s.ro.drop z).take (k + 1)) (M.nxF s u) = q ||| 1 <<< b) := by show _ = _; rw [M.orS_yes hzk hb (hcond.1 hr0), hq.out]
               obtain ⟨l2, hl2, hle2, hbit2⟩ := i64_andNot_v lf y (by omega) (by omega)
               have HLF : Hid (M.LfS s a (k + 1) l2) := hlf.out.cut (by rw [HZ.out]; exact hzk) hle2 (fun j => by rw [HY.out]; exact hbit2 j)
               have hor := i64_or_nat q (1 <<< b) (by omega) (by have := one32 hb5; omega)
               have hsh : IntKind.i64.wrap (2 ^ b) = ((1 <<< b : Nat) : Int) := i64_shl b (by omega)
               obtain ⟨z', hz'⟩ : ∃ z, 1 <<< b = z := ⟨_, rfl⟩
               obtain ⟨r2, hr2⟩ : ∃ r, q ||| z' = r := ⟨_, rfl⟩
               rw [hz'] at hor hsh HQ
               rw [hr2] at hor HQ
               clear hr0 hcond hq hlf hr hy hb hbz hzk hbit2 hle2 hz' hr2
               go_wp2_with fail
               go_roundw
               case rel => exact ⟨k + 1, r2, l2, rfl, rfl, by go_num, by omega, HQ, HLF, HB⟩
               case measure => simp [intOf]; omega)
      · obtain rfl : k = m := by omega
        have HQ : Hid (M.vNxS s u a = q) := by
          show _ = _
          unfold M.vNxS
          rw [HZ.out, ← hq.out, M.orS_all (by have := HL.out.1; have := HM.out; omega)]
        clear hq hlf
        go_wp2_with fail
        go_ret
        exact ⟨by rw [HQ.out]; rfl, HB.out⟩
end Go.Proofs.YtajiichehffaaaaDoor
