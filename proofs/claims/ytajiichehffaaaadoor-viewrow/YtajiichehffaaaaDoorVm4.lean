/- Who had begun ahead (package view, beganAhead), who could read (couldRead), who wrote over (wroteOver), who wrote next (wroteNext). -/
import Derived.Test.YtajiichehffaaaaDoorVm3
import Derived.Test.YtajiichehffaaaaDoorVw2
namespace Go.Proofs.YtajiichehffaaaaDoor
open Go.RowKit
theorem one32 {u : Nat} (h : u < 5) : 1 <<< u < 32 := by
  rw [Nat.shiftLeft_eq, Nat.one_mul]
  exact Nat.pow_lt_pow_right (by decide : 1 < 2) h
theorem or32 {a b : Nat} (ha : a < 32) (hb : b < 32) : a ||| b < 32 := Nat.or_lt_two_pow (n := 5) ha hb
/-- what a walk along the row takes at place j of it -/
theorem VV.place {O : Nat → Prop} {S L c : Nat} {s : M.Vw} {p : Option Addr} {w wr : World} (h : VV O S s w) (hI : M.VI s) (hro : w.cell? ⟨S, 20, none⟩ = some (.slice p L c)) (hL : s.ro.length = L) (hB : Below w.heap.size w wr) {j : Nat} (hj : j < L) :
    ∃ g u, p = some ⟨g, 0, none⟩ ∧ L ≤ c ∧ M.row s.ro j = u ∧ u < 5 ∧ g < wr.heap.size ∧ wr.cell? ⟨g, j, none⟩ = some (.int .i64 (u : Nat)) ∧ wr.cell? ⟨S, u * 4 + 1, none⟩ = some (.int .i64 (s.se u : Nat)) ∧ wr.cell? ⟨S, u * 4 + 2, none⟩ = some (.int .i64 (s.rd u : Nat)) ∧ wr.cell? ⟨S, u * 4 + 3, none⟩ = some (.int .i64 (s.wr u : Nat)) := by
  subst hL
  obtain ⟨v, h1, _⟩ := h.below hB
  have e : v = .slice p s.ro.length c := by
    have h2 := h1.ro
    rw [(hB.cell (p := ⟨S, 20, none⟩) h.lt).trans hro] at h2
    exact (Option.some.inj h2).symm
  subst e
  have h5 := hI.row5 hj
  rcases row_at rfl h1.row with ⟨_, h2, _⟩ | ⟨g, e1, e2, e3, e4, e5⟩
  · omega
  · exact ⟨g, _, e1, e2, rfl, h5, e4, e5 j hj, h1.se h5, h1.rd h5, h1.wr h5⟩
set_option maxRecDepth 100000 in
set_option maxHeartbeats 4000000 in
theorem vago_ok {O : Nat → Prop} {S : Nat} {s : M.Vw} (a : Nat) (w : World) (h : VV O S s w) (hI : M.VI s) :
    Calls Tryd.prog 38 #[.pointer (some ⟨S, 0, none⟩), .int .i64 (a : Nat)] w fun e w' => e = .returned (.int .i64 (M.agoS s a : Nat)) ∧ Below w.heap.size w w' := by
  have HV : Hid (VV O S s w) := h
  have HI : Hid (M.VI s) := hI
  obtain ⟨p, c, v1, _⟩ := h.parts
  have cr := v1.ro
  have hlen := hI.len
  have l1 := v1.lt
  obtain ⟨L, hL⟩ : ∃ L, s.ro.length = L := ⟨_, rfl⟩
  rw [hL] at cr hlen
  have HL : Hid (s.ro.length = L ∧ w.cell? ⟨S, 20, none⟩ = some (.slice p L c)) := ⟨hL, cr⟩
  clear hL v1 h hI
  go_enter Tryd.func38, Tryd.ntmps38
  go_wp2_with fail
  go_loopw [5, 13] (fun u v wr => ∃ k q : Nat, u = .int .i64 (q : Nat) ∧ v = .int .i64 (k : Nat) ∧ k ≤ L ∧ Hid (M.orL ((s.ro.drop 0).take k) (M.agF s a) = q) ∧ Hid (Below w.heap.size w wr)) (fun _ v _ => L - (intOf v).toNat)
  case atStart => exact ⟨0, 0, rfl, rfl, Nat.zero_le _, (rfl : M.orL ((s.ro.drop 0).take 0) (M.agF s a) = 0), (Below.refl _ _ : Below w.heap.size w w)⟩
  case round =>
    obtain ⟨k, q, rfl, rfl, hk, hq, HB⟩ := hrel
    by_cases hlt : k < L
    · obtain ⟨g, u, rfl, _, hu, hu5, hg, c0, c1, _, _⟩ := HV.out.place HI.out HL.out.2 HL.out.1 HB.out hlt
      have hki : (k : Int) < L := by omega
      have hui : (u : Int) < 5 := by omega
      have hls : S < wr.heap.size := by have := HB.out.size; omega
      have hq32 : q < 32 := by rw [← hq.out]; exact HI.out.orS_lt _ _ _
      obtain ⟨e, he⟩ : ∃ e, s.se u = e := ⟨_, rfl⟩
      rw [he] at c1
      have hu' : M.row s.ro (0 + k) = u := by rw [Nat.zero_add]; exact hu
      by_cases hc : e ≤ a
      · have hcd : decide ((e : Int) ≤ (a : Int)) = true := decide_eq_true (by omega)
        have hcd' : decide (e ≤ a) = true := decide_eq_true hc
        have HQ : Hid (M.orL ((s.ro.drop 0).take (k + 1)) (M.agF s a) = q ||| 1 <<< u) := by
          show _ = _
          rw [M.orS_yes (by have := HL.out.1; omega) hu' (by unfold M.agF; rw [he]; exact hcd'), hq.out]
        have hor := i64_or_nat q (1 <<< u) (by omega) (by have := one32 hu5; omega)
        have hsh : IntKind.i64.wrap (2 ^ u) = ((1 <<< u : Nat) : Int) := i64_shl u (by omega)
        obtain ⟨y, hy⟩ : ∃ y, 1 <<< u = y := ⟨_, rfl⟩
        obtain ⟨r, hr⟩ : ∃ r, q ||| y = r := ⟨_, rfl⟩
        rw [hy] at hor hsh HQ
        rw [hr] at hor HQ
        clear hy hr he hu hu' hq hc
        go_wp2_with fail
        go_roundw
        case rel => exact ⟨k + 1, r, rfl, by go_num, by omega, HQ, HB⟩
        case measure => simp [intOf]; omega
      · have hcd : decide ((e : Int) ≤ (a : Int)) = false := decide_eq_false (by omega)
        have hcd' : decide (e ≤ a) = false := decide_eq_false hc
        have HQ : Hid (M.orL ((s.ro.drop 0).take (k + 1)) (M.agF s a) = q) := by
          show _ = _
          rw [M.orS_no (by have := HL.out.1; omega) hu' (by unfold M.agF; rw [he]; exact hcd'), hq.out]
        clear he hu hu' hq hc
        go_wp2_with fail
        go_roundw
        case rel => exact ⟨k + 1, q, rfl, by go_num, by omega, HQ, HB⟩
        case measure => simp [intOf]; omega
    · obtain rfl : k = L := by omega
      have HQ : Hid (M.agoS s a = q) := by
        show _ = _
        unfold M.agoS
        rw [← hq.out, M.orS_all (by have := HL.out.1; omega)]; rfl
      clear hq
      go_wp2_with fail
      go_ret
      exact ⟨by rw [HQ.out]; rfl, HB.out⟩
end Go.Proofs.YtajiichehffaaaaDoor
