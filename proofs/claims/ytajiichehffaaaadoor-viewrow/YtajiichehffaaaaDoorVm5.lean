/- Who could read what one wrote (package view, couldRead), who wrote over what it read (wroteOver), who wrote next (wroteNext). -/
import Derived.Test.YtajiichehffaaaaDoorVm4
namespace Go.Proofs.YtajiichehffaaaaDoor
open Go.RowKit
set_option maxRecDepth 100000 in
set_option maxHeartbeats 4000000 in
theorem vcould_ok {O : Nat → Prop} {S : Nat} {s : M.Vw} (a t : Nat) (w : World) (h : VV O S s w) (hI : M.VI s) (ha : a < s.ro.length) (hat : M.row s.ro a = t) :
    Calls Tryd.prog 37 #[.pointer (some ⟨S, 0, none⟩), .int .i64 (a : Nat)] w fun e w' => e = .returned (.int .i64 (M.readS s t a : Nat)) ∧ Below w.heap.size w w' := by
  have HV : Hid (VV O S s w) := h
  have HI : Hid (M.VI s) := hI
  obtain ⟨p, c, v1, _⟩ := h.parts
  have cr := v1.ro
  have hlen := hI.len
  have l1 := v1.lt
  obtain ⟨L, hL⟩ : ∃ L, s.ro.length = L := ⟨_, rfl⟩
  have hrow := row_at rfl v1.row
  rw [hL] at hrow
  have hLc : L ≤ c := by rcases hrow with ⟨_, h2, h3⟩ | ⟨g, _, h2, _⟩ <;> omega
  have HAT : Hid (M.row s.ro a = t) := hat
  rw [hL] at cr hlen ha
  have HL : Hid (s.ro.length = L ∧ w.cell? ⟨S, 20, none⟩ = some (.slice p L c)) := ⟨hL, cr⟩
  obtain ⟨g, u, rfl, _, hu, hu5, hg, c0, _, _, c3⟩ := h.place hI cr hL (Below.refl _ _) ha
  obtain rfl : u = t := hu.symm.trans hat
  obtain ⟨x, hx⟩ : ∃ x, s.wr u = x := ⟨_, rfl⟩
  have HX : Hid (s.wr u = x ∧ x < 16) := ⟨hx, by rw [← hx]; exact hI.wb u⟩
  rw [hx] at c3
  have hai : (a : Int) < L := by omega
  have hui : (u : Int) < 5 := by omega
  clear hL v1 h hI hrow hu hat hx
  go_enter Tryd.func37, Tryd.ntmps37
  go_wp2_with fail
  go_quiet (fail)
  have HB0 : Hid (Below w.heap.size w (w.drewN nq)) := bel_drN (Below.refl _ _) _
  obtain ⟨wq, hwq⟩ : ∃ wq, w.drewN nq = wq := ⟨_, rfl⟩
  rw [hwq] at HB0 ⊢
  have cq := (HB0.out.cell (p := ⟨S, 20, none⟩) l1).trans cr
  have lq : S < wq.heap.size := by have := HB0.out.size; omega
  clear hwq cr c0 c3 hg l1 hai hui
  go_wp2_with fail
  go_loopw [5, 27] (fun u' v wr => ∃ k q : Nat, u' = .int .i64 (q : Nat) ∧ v = .int .i64 (k : Nat) ∧ k ≤ L ∧ Hid (M.orL ((s.ro.drop 0).take k) (M.rdF s u a) = q) ∧ Hid (Below w.heap.size w wr)) (fun _ v _ => L - (intOf v).toNat)
  case atStart => exact ⟨0, 0, rfl, rfl, Nat.zero_le _, (rfl : M.orL ((s.ro.drop 0).take 0) (M.rdF s u a) = 0), HB0⟩
  case round =>
    clear HB0 cq lq
    obtain ⟨k, q, rfl, rfl, hk, hq, HB⟩ := hrel
    by_cases hlt : k < L
    · obtain ⟨g', b, eg, _, hb, hb5, hg, c0, c1, c2, _⟩ := HV.out.place HI.out HL.out.2 HL.out.1 HB.out hlt
      cases eg
      have hki : (k : Int) < L := by omega
      have hui : (b : Int) < 5 := by omega
      have hls : S < wr.heap.size := by have := HV.out.lt; have := HB.out.size; omega
      have hq32 : q < 32 := by rw [← hq.out]; exact HI.out.orS_lt _ _ _
      have hr16 := HI.out.rb b
      obtain ⟨e, he⟩ : ∃ e, s.se b = e := ⟨_, rfl⟩
      obtain ⟨y, hy⟩ : ∃ y, s.rd b = y := ⟨_, rfl⟩
      rw [he] at c1
      rw [hy] at c2 hr16
      have hb' : M.row s.ro (0 + k) = b := by rw [Nat.zero_add]; exact hb
      have hF : M.rdF s u a b = (decide (a < e) && (y &&& x) != 0) := by unfold M.rdF; rw [he, hy, HX.out.1]
      have hand := i64_and_nat y x (by omega) (by have := HX.out.2; omega)
      obtain ⟨r, hr⟩ : ∃ r, y &&& x = r := ⟨_, rfl⟩
      rw [hr] at hand hF
      have hor := i64_or_nat q (1 <<< b) (by omega) (by have := one32 hb5; omega)
      have hsh : IntKind.i64.wrap (2 ^ b) = ((1 <<< b : Nat) : Int) := i64_shl b (by omega)
      have HQ1 : M.rdF s u a b = true → M.orL ((s.ro.drop 0).take (k + 1)) (M.rdF s u a) = q ||| 1 <<< b := fun e1 => by
        rw [M.orS_yes (by have := HL.out.1; omega) hb' e1, hq.out]
      have HQ0 : M.rdF s u a b = false → M.orL ((s.ro.drop 0).take (k + 1)) (M.rdF s u a) = q := fun e1 => by
        rw [M.orS_no (by have := HL.out.1; omega) hb' e1, hq.out]
      clear hr he hy hb hb' hq
      by_cases hc : a < e
      · have hcd : decide ((a : Int) < (e : Int)) = true := decide_eq_true (by omega)
        have hcd' : decide (a < e) = true := decide_eq_true hc
        by_cases hr0 : r = 0
        · have hg0 : ((r : Int) != 0) = false := by simp [hr0]
          have HQ : Hid (M.orL ((s.ro.drop 0).take (k + 1)) (M.rdF s u a) = q) := HQ0 (by rw [hF, hr0]; simp)
          clear hr0 HQ0 HQ1 hF hc hor hsh
          go_wp2_with fail
          go_roundw
          case rel => exact ⟨k + 1, q, rfl, by go_num, by omega, HQ, HB⟩
          case measure => simp [intOf]; omega
        · have hg0 : ((r : Int) != 0) = true := by simp [hr0]
          have HQ : Hid (M.orL ((s.ro.drop 0).take (k + 1)) (M.rdF s u a) = q ||| 1 <<< b) := HQ1 (by rw [hF, decide_eq_true hc]; simp [hr0])
          obtain ⟨z, hz⟩ : ∃ z, 1 <<< b = z := ⟨_, rfl⟩
          obtain ⟨r2, hr2⟩ : ∃ r, q ||| z = r := ⟨_, rfl⟩
          rw [hz] at hor hsh HQ
          rw [hr2] at hor HQ
          clear hr0 HQ0 HQ1 hF hc hz hr2
          go_wp2_with fail
          go_roundw
          case rel => exact ⟨k + 1, r2, rfl, by go_num, by omega, HQ, HB⟩
          case measure => simp [intOf]; omega
      · have hcd : decide ((a : Int) < (e : Int)) = false := decide_eq_false (by omega)
        have hcd' : decide (a < e) = false := decide_eq_false hc
        have HQ : Hid (M.orL ((s.ro.drop 0).take (k + 1)) (M.rdF s u a) = q) := HQ0 (by rw [hF, decide_eq_false hc]; simp)
        clear HQ0 HQ1 hF hc hor hsh hand
        go_wp2_with fail
        go_roundw
        case rel => exact ⟨k + 1, q, rfl, by go_num, by omega, HQ, HB⟩
        case measure => simp [intOf]; omega
    · obtain rfl : k = L := by omega
      have HQ : Hid (M.readS s u a = q) := by
        show _ = _
        unfold M.readS
        rw [← hq.out, M.orS_all (by have := HL.out.1; omega)]; rfl
      clear hq
      go_wp2_with fail
      go_ret
      exact ⟨by rw [HQ.out]; rfl, HB.out⟩
end Go.Proofs.YtajiichehffaaaaDoor
