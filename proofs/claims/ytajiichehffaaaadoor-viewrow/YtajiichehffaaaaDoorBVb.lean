/- Who had begun ahead (package view, beganAhead), who could read (couldRead), who wrote over (wroteOver), who wrote next (wroteNext). Who could read what one wrote (package view, couldRead), who wrote over what it read (wroteOver), who wrote next (wroteNext). Who wrote over what one read (package view, wroteOver). Who wrote next what one wrote (package view, wroteNext). -/
import Derived.Test.YtajiichehffaaaaDoorVm3
import Derived.Test.YtajiichehffaaaaDoorBVa
namespace Go.Proofs.YtajiichehffaaaaDoor
open Go.RowKit
theorem one32 {u : Nat} (h : u < 5) : 1 <<< u < 32 := by
  rw [Nat.shiftLeft_eq, Nat.one_mul]
  exact Nat.pow_lt_pow_right (by decide : 1 < 2) h
theorem or32 {a b : Nat} (ha : a < 32) (hb : b < 32) : a ||| b < 32 := Nat.or_lt_two_pow (n := 5) ha hb
/-- what a walk along the row takes at place j of it -/
theorem VV.place {O : Nat → Prop} {S L c : Nat} {s : M.Vw} {p : Option Addr} {w wr : World} (h : VV O S s w) (hI : M.VI s) (hro : w.cell? ⟨S, 20, none⟩ = some (.slice p L c)) (hL : s.ro.length = L) (hB : Below w.heap.size w wr) {j : Nat} (hj : j < L) :
    ∃ g u, p = some ⟨g, 0, none⟩ ∧ L ≤ c ∧ M.row s.ro j = u ∧ u < 5 ∧ g < wr.heap.size ∧ wr.cell? ⟨g, j, none⟩ = some (.int .i64 (u : Nat)) ∧ wr.cell? ⟨S, u * 4 + 1, none⟩ = some (.int .i64 (s.se u : Nat)) ∧ wr.cell? ⟨S, u * 4 + 2, none⟩ = some (.int .i64 (s.rd u : Nat)) ∧ wr.cell? ⟨S, u * 4 + 3, none⟩ = some (.int .i64 (s.wr u : Nat)) := by
  subst hL
  obtain ⟨v, h1, _⟩ := h.below hB
  have e : v = .slice p s.ro.length c := by
    have h2 := h1.ro
    rw [(hB.cell (p := ⟨S, 20, none⟩) h.lt).trans hro] at h2
    exact (Option.some.inj h2).symm
  subst e
  have h5 := hI.row5 hj
  rcases row_at rfl h1.row with ⟨_, h2, _⟩ | ⟨g, e1, e2, e3, e4, e5⟩
  · omega
  · exact ⟨g, _, e1, e2, rfl, h5, e4, e5 j hj, h1.se h5, h1.rd h5, h1.wr h5⟩
set_option maxRecDepth 100000 in
set_option maxHeartbeats 4000000 in
theorem vago_ok {O : Nat → Prop} {S : Nat} {s : M.Vw} (a : Nat) (w : World) (h : VV O S s w) (hI : M.VI s) :
    Calls Tryd.prog 38 #[.pointer (some ⟨S, 0, none⟩), .int .i64 (a : Nat)] w fun e w' => e = .returned (.int .i64 (M.agoS s a : Nat)) ∧ Below w.heap.size w w' := by
  have HV : Hid (VV O S s w) := h
  have HI : Hid (M.VI s) := hI
  obtain ⟨p, c, v1, _⟩ := h.parts
  have cr := v1.ro
  have hlen := hI.len
  have l1 := v1.lt
  obtain ⟨L, hL⟩ : ∃ L, s.ro.length = L := ⟨_, rfl⟩
  rw [hL] at cr hlen
  have HL : Hid (s.ro.length = L ∧ w.cell? ⟨S, 20, none⟩ = some (.slice p L c)) := ⟨hL, cr⟩
  clear hL v1 h hI
  go_enter Tryd.func38, Tryd.ntmps38
  go_wp2_with fail
  go_loopw [5, 13] (fun u v wr => ∃ k q : Nat, u = .int .i64 (q : Nat) ∧ v = .int .i64 (k : Nat) ∧ k ≤ L ∧ Hid (M.orL ((s.ro.drop 0).take k) (M.agF s a) = q) ∧ Hid (Below w.heap.size w wr)) (fun _ v _ => L - (intOf v).toNat)
  case atStart => exact ⟨0, 0, rfl, rfl, Nat.zero_le _, (rfl : M.orL ((s.ro.drop 0).take 0) (M.agF s a) = 0), (Below.refl _ _ : Below w.heap.size w w)⟩
  case round =>
    obtain ⟨k, q, rfl, rfl, hk, hq, HB⟩ := hrel
    by_cases hlt : k < L
    · obtain ⟨g, u, rfl, _, hu, hu5, hg, c0, c1, _, _⟩ := HV.out.place HI.out HL.out.2 HL.out.1 HB.out hlt
      have hki : (k : Int) < L := by omega
      have hui : (u : Int) < 5 := by omega
      have hls : S < wr.heap.size := by have := HB.out.size; omega
      have hq32 : q < 32 := by rw [← hq.out]; exact HI.out.orS_lt _ _ _
      obtain ⟨e, he⟩ : ∃ e, s.se u = e := ⟨_, rfl⟩
      rw [he] at c1
      have hu' : M.row s.ro (0 + k) = u := by rw [Nat.zero_add]; exact hu
      by_cases hc : e ≤ a
      · have hcd : decide ((e : Int) ≤ (a : Int)) = true := decide_eq_true (by omega)
        have hcd' : decide (e ≤ a) = true := decide_eq_true hc
        have HQ : Hid (M.orL ((s.ro.drop 0).take (k + 1)) (M.agF s a) = q ||| 1 <<< u) := by
          show _ = _
          rw [M.orS_yes (by have := HL.out.1; omega) hu' (by unfold M.agF; rw [he]; exact hcd'), hq.out]
        have hor := i64_or_nat q (1 <<< u) (by omega) (by have := one32 hu5; omega)
        have hsh : IntKind.i64.wrap (2 ^ u) = ((1 <<< u : Nat) : Int) := i64_shl u (by omega)
        obtain ⟨y, hy⟩ : ∃ y, 1 <<< u = y := ⟨_, rfl⟩
        obtain ⟨r, hr⟩ : ∃ r, q ||| y = r := ⟨_, rfl⟩
        rw [hy] at hor hsh HQ
        rw [hr] at hor HQ
        clear hy hr he hu hu' hq hc
        go_wp2_with fail
        go_roundw
        case rel => exact ⟨k + 1, r, rfl, by go_num, by omega, HQ, HB⟩
        case measure => simp [intOf]; omega
      · have hcd : decide ((e : Int) ≤ (a : Int)) = false := decide_eq_false (by omega)
        have hcd' : decide (e ≤ a) = false := decide_eq_false hc
        have HQ : Hid (M.orL ((s.ro.drop 0).take (k + 1)) (M.agF s a) = q) := by
          show _ = _
          rw [M.orS_no (by have := HL.out.1; omega) hu' (by unfold M.agF; rw [he]; exact hcd'), hq.out]
        clear he hu hu' hq hc
        go_wp2_with fail
        go_roundw
        case rel => exact ⟨k + 1, q, rfl, by go_num, by omega, HQ, HB⟩
        case measure => simp [intOf]; omega
    · obtain rfl : k = L := by omega
      have HQ : Hid (M.agoS s a = q) := by
        show _ = _
        unfold M.agoS
        rw [← hq.out, M.orS_all (by have := HL.out.1; omega)]; rfl
      clear hq
      go_wp2_with fail
      go_ret
      exact ⟨by rw [HQ.out]; rfl, HB.out⟩
end Go.Proofs.YtajiichehffaaaaDoor
namespace Go.Proofs.YtajiichehffaaaaDoor
open Go.RowKit
set_option maxRecDepth 100000 in
set_option maxHeartbeats 4000000 in
theorem vcould_ok {O : Nat → Prop} {S : Nat} {s : M.Vw} (a t : Nat) (w : World) (h : VV O S s w) (hI : M.VI s) (ha : a < s.ro.length) (hat : M.row s.ro a = t) :
    Calls Tryd.prog 37 #[.pointer (some ⟨S, 0, none⟩), .int .i64 (a : Nat)] w fun e w' => e = .returned (.int .i64 (M.readS s t a : Nat)) ∧ Below w.heap.size w w' := by
  have HV : Hid (VV O S s w) := h
  have HI : Hid (M.VI s) := hI
  obtain ⟨p, c, v1, _⟩ := h.parts
  have cr := v1.ro
  have hlen := hI.len
  have l1 := v1.lt
  obtain ⟨L, hL⟩ : ∃ L, s.ro.length = L := ⟨_, rfl⟩
  have hrow := row_at rfl v1.row
  rw [hL] at hrow
  have hLc : L ≤ c := by rcases hrow with ⟨_, h2, h3⟩ | ⟨g, _, h2, _⟩ <;> omega
  have HAT : Hid (M.row s.ro a = t) := hat
  rw [hL] at cr hlen ha
  have HL : Hid (s.ro.length = L ∧ w.cell? ⟨S, 20, none⟩ = some (.slice p L c)) := ⟨hL, cr⟩
  obtain ⟨g, u, rfl, _, hu, hu5, hg, c0, _, _, c3⟩ := h.place hI cr hL (Below.refl _ _) ha
  obtain rfl : u = t := hu.symm.trans hat
  obtain ⟨x, hx⟩ : ∃ x, s.wr u = x := ⟨_, rfl⟩
  have HX : Hid (s.wr u = x ∧ x < 16) := ⟨hx, by rw [← hx]; exact hI.wb u⟩
  rw [hx] at c3
  have hai : (a : Int) < L := by omega
  have hui : (u : Int) < 5 := by omega
  clear hL v1 h hI hrow hu hat hx
  go_enter Tryd.func37, Tryd.ntmps37
  go_wp2_with fail
  go_quiet (fail)
  have HB0 : Hid (Below w.heap.size w (w.drewN nq)) := bel_drN (Below.refl _ _) _
  obtain ⟨wq, hwq⟩ : ∃ wq, w.drewN nq = wq := ⟨_, rfl⟩
  rw [hwq] at HB0 ⊢
  have cq := (HB0.out.cell (p := ⟨S, 20, none⟩) l1).trans cr
  have lq : S < wq.heap.size := by have := HB0.out.size; omega
  clear hwq cr c0 c3 hg l1 hai hui
  go_wp2_with fail
  go_loopw [5, 27] (fun u' v wr => ∃ k q : Nat, u' = .int .i64 (q : Nat) ∧ v = .int .i64 (k : Nat) ∧ k ≤ L ∧ Hid (M.orL ((s.ro.drop 0).take k) (M.rdF s u a) = q) ∧ Hid (Below w.heap.size w wr)) (fun _ v _ => L - (intOf v).toNat)
  case atStart => exact ⟨0, 0, rfl, rfl, Nat.zero_le _, (rfl : M.orL ((s.ro.drop 0).take 0) (M.rdF s u a) = 0), HB0⟩
  case round =>
    clear HB0 cq lq
    obtain ⟨k, q, rfl, rfl, hk, hq, HB⟩ := hrel
    by_cases hlt : k < L
    · obtain ⟨g', b, eg, _, hb, hb5, hg, c0, c1, c2, _⟩ := HV.out.place HI.out HL.out.2 HL.out.1 HB.out hlt
      cases eg
      have hki : (k : Int) < L := by omega
      have hui : (b : Int) < 5 := by omega
      have hls : S < wr.heap.size := by have := HV.out.lt; have := HB.out.size; omega
      have hq32 : q < 32 := by rw [← hq.out]; exact HI.out.orS_lt _ _ _
      have hr16 := HI.out.rb b
      obtain ⟨e, he⟩ : ∃ e, s.se b = e := ⟨_, rfl⟩
      obtain ⟨y, hy⟩ : ∃ y, s.rd b = y := ⟨_, rfl⟩
      rw [he] at c1
      rw [hy] at c2 hr16
      have hb' : M.row s.ro (0 + k) = b := by rw [Nat.zero_add]; exact hb
      have hF : M.rdF s u a b = (decide (a < e) && (y &&& x) != 0) := by unfold M.rdF; rw [he, hy, HX.out.1]
      have hand := i64_and_nat y x (by omega) (by have := HX.out.2; omega)
      obtain ⟨r, hr⟩ : ∃ r, y &&& x = r := ⟨_, rfl⟩
      rw [hr] at hand hF
      have hor := i64_or_nat q (1 <<< b) (by omega) (by have := one32 hb5; omega)
      have hsh : IntKind.i64.wrap (2 ^ b) = ((1 <<< b : Nat) : Int) := i64_shl b (by omega)
      have HQ1 : M.rdF s u a b = true → M.orL ((s.ro.drop 0).take (k + 1)) (M.rdF s u a) = q ||| 1 <<< b := fun e1 => by
        rw [M.orS_yes (by have := HL.out.1; omega) hb' e1, hq.out]
      have HQ0 : M.rdF s u a b = false → M.orL ((s.ro.drop 0).take (k + 1)) (M.rdF s u a) = q := fun e1 => by
        rw [M.orS_no (by have := HL.out.1; omega) hb' e1, hq.out]
      clear hr he hy hb hb' hq
      by_cases hc : a < e
      · have hcd : decide ((a : Int) < (e : Int)) = true := decide_eq_true (by omega)
        have hcd' : decide (a < e) = true := decide_eq_true hc
        by_cases hr0 : r = 0
        · have hg0 : ((r : Int) != 0) = false := by simp [hr0]
          have HQ : Hid (M.orL ((s.ro.drop 0).take (k + 1)) (M.rdF s u a) = q) := HQ0 (by rw [hF, hr0]; simp)
          clear hr0 HQ0 HQ1 hF hc hor hsh
          go_wp2_with fail
          go_roundw
          case rel => exact ⟨k + 1, q, rfl, by go_num, by omega, HQ, HB⟩
          case measure => simp [intOf]; omega
        · have hg0 : ((r : Int) != 0) = true := by simp [hr0]
          have HQ : Hid (M.orL ((s.ro.drop 0).take (k + 1)) (M.rdF s u a) = q ||| 1 <<< b) := HQ1 (by rw [hF, decide_eq_true hc]; simp [hr0])
          obtain ⟨z, hz⟩ : ∃ z, 1 <<< b = z := ⟨_, rfl⟩
          obtain ⟨r2, hr2⟩ : ∃ r, q ||| z = r := ⟨_, rfl⟩
          rw [hz] at hor hsh HQ
          rw [hr2] at hor HQ
          clear hr0 HQ0 HQ1 hF hc hz hr2
          go_wp2_with fail
          go_roundw
          case rel => exact ⟨k + 1, r2, rfl, by go_num, by omega, HQ, HB⟩
          case measure => simp [intOf]; omega
      · have hcd : decide ((a : Int) < (e : Int)) = false := decide_eq_false (by omega)
        have hcd' : decide (a < e) = false := decide_eq_false hc
        have HQ : Hid (M.orL ((s.ro.drop 0).take (k + 1)) (M.rdF s u a) = q) := HQ0 (by rw [hF, decide_eq_false hc]; simp)
        clear HQ0 HQ1 hF hc hor hsh hand
        go_wp2_with fail
        go_roundw
        case rel => exact ⟨k + 1, q, rfl, by go_num, by omega, HQ, HB⟩
        case measure => simp [intOf]; omega
    · obtain rfl : k = L := by omega
      have HQ : Hid (M.readS s u a = q) := by
        show _ = _
        unfold M.readS
        rw [← hq.out, M.orS_all (by have := HL.out.1; omega)]; rfl
      clear hq
      go_wp2_with fail
      go_ret
      exact ⟨by rw [HQ.out]; rfl, HB.out⟩
end Go.Proofs.YtajiichehffaaaaDoor
namespace Go.Proofs.YtajiichehffaaaaDoor
open Go.RowKit
set_option maxRecDepth 100000 in
set_option maxHeartbeats 4000000 in
theorem vover_ok {O : Nat → Prop} {S : Nat} {s : M.Vw} (t : Nat) (w : World) (h : VV O S s w) (hI : M.VI s) (ht : t < 5) :
    Calls Tryd.prog 35 #[.pointer (some ⟨S, 0, none⟩), .int .i64 (t : Nat)] w fun e w' => e = .returned (.int .i64 (M.laterS s t : Nat)) ∧ Below w.heap.size w w' := by
  have HV : Hid (VV O S s w) := h
  have HI : Hid (M.VI s) := hI
  obtain ⟨p, c, v1, _⟩ := h.parts
  have cr := v1.ro
  have hlen := hI.len
  have l1 := v1.lt
  obtain ⟨L, hL⟩ : ∃ L, s.ro.length = L := ⟨_, rfl⟩
  have hrow := row_at rfl v1.row
  rw [hL] at hrow
  have hLc : L ≤ c := by rcases hrow with ⟨_, h2, h3⟩ | ⟨g, _, h2, _⟩ <;> omega
  have hse := hI.se t
  rw [hL] at cr hlen hse
  have HL : Hid (s.ro.length = L ∧ w.cell? ⟨S, 20, none⟩ = some (.slice p L c)) := ⟨hL, cr⟩
  have b0 := v1.dg ht
  have b1 := v1.se ht
  have b2 := v1.rd ht
  have b3 := v1.wr ht
  have hti : (t : Int) < 5 := by omega
  obtain ⟨z, hz⟩ : ∃ z, s.se t = z := ⟨_, rfl⟩
  obtain ⟨x, hx⟩ : ∃ x, s.rd t = x := ⟨_, rfl⟩
  obtain ⟨d, hd⟩ : ∃ d, s.dg t = d := ⟨_, rfl⟩
  obtain ⟨y, hy⟩ : ∃ y, s.wr t = y := ⟨_, rfl⟩
  have HX : Hid (s.rd t = x ∧ x < 16 ∧ s.se t = z) := ⟨hx, by rw [← hx]; exact hI.rb t, hz⟩
  rw [hz] at b1 hse
  rw [hx] at b2
  rw [hd] at b0
  rw [hy] at b3
  have HRW : Hid _ := hrow
  have hzi : (z : Int) ≤ L := by omega
  have hzc : (z : Int) ≤ c := by omega
  clear hL v1 h hI hrow hz hx hd hy
  go_enter Tryd.func35, Tryd.ntmps35
  go_wp2_with fail
  go_region
  obtain ⟨w2, hw2⟩ : ∃ w2, (w.alloc (.cells #[.int .i64 (d : Nat), .int .i64 (z : Nat), .int .i64 (x : Nat), .int .i64 (y : Nat)] 54)).drew = w2 := ⟨_, rfl⟩
  rw [hw2]
  have B2 : Hid (Below w.heap.size w w2) := by rw [← hw2]; exact (bel_al (Below.refl _ _) _).drew
  have q1 : w2.cell? ⟨w.heap.size, 1, none⟩ = some (.int .i64 (z : Nat)) := by
    rw [← hw2]; show (w.alloc _).cell? _ = _; rw [cell_of_row _ _ _ _ _ _ (World.alloc_heap_new w _)]; rfl
  have q2 : w2.cell? ⟨w.heap.size, 2, none⟩ = some (.int .i64 (x : Nat)) := by
    rw [← hw2]; show (w.alloc _).cell? _ = _; rw [cell_of_row _ _ _ _ _ _ (World.alloc_heap_new w _)]; rfl
  have l2 : w.heap.size < w2.heap.size := by rw [← hw2]; show _ < (w.alloc _).heap.size; simp
  have ls2 : S < w2.heap.size := by omega
  have cr2 := (B2.out.cell (p := ⟨S, 20, none⟩) l1).trans cr
  clear hw2 b0 b1 b2 b3 cr
  go_wp2_with fail
  go_quiet (fail)
  obtain ⟨P, hP⟩ : ∃ P, (if c = z then p else Option.map (fun x => x.add z) p) = P := ⟨_, rfl⟩
  obtain ⟨m, hm⟩ : ∃ m, L - z = m := ⟨_, rfl⟩
  obtain ⟨cc, hcc⟩ : ∃ cc, c - z = cc := ⟨_, rfl⟩
  rw [hP, hm, hcc]
  have HP : Hid (∀ k, k < m → ∀ g, p = some ⟨g, 0, none⟩ → P = some ⟨g, z, none⟩) := fun k hk g hg => by
    rw [← hP, if_neg (by omega), hg]
    simp [Addr.add]
    exact fun e => e.symm
  clear hP
  have HB0 : Hid (Below (w.heap.size + 1) w2 (w2.drewN nq)) := belowEq rfl rfl rfl rfl
  obtain ⟨wq, hwq⟩ : ∃ wq, w2.drewN nq = wq := ⟨_, rfl⟩
  rw [hwq] at HB0 ⊢
  clear hwq cr2 q1
  have HM : Hid (L - z = m) := hm
  have hm5 : m ≤ 5 := by omega
  clear hm
  go_wp2_with fail
  go_loopw [5, 23] (fun u' v wr => ∃ k q : Nat, u' = .int .i64 (q : Nat) ∧ v = .int .i64 (k : Nat) ∧ k ≤ m ∧ Hid (M.orL ((s.ro.drop z).take k) (M.ltF s t) = q) ∧ Hid (Below (w.heap.size + 1) w2 wr)) (fun _ v _ => m - (intOf v).toNat)
  case atStart => exact ⟨0, 0, rfl, rfl, Nat.zero_le _, (rfl : M.orL ((s.ro.drop z).take 0) (M.ltF s t) = 0), HB0⟩
  case round =>
    clear HB0
    obtain ⟨k, q, rfl, rfl, hk, hq, HB2⟩ := hrel
    have HB : Hid (Below w.heap.size w wr) := B2.out.trans (HB2.out.mono (by omega))
    by_cases hlt : k < m
    · obtain ⟨g, b, hpg, _, hb, hb5, hg, c0, _, _, c3⟩ := HV.out.place HI.out HL.out.2 HL.out.1 HB.out (show z + k < L by have := HM.out; omega)
      obtain rfl := HP.out k hlt g hpg
      have HPG : Hid (p = some ⟨g, 0, none⟩) := hpg
      have hki : (k : Int) < m := by omega
      have hui : (b : Int) < 5 := by omega
      have hls : S < wr.heap.size := by have := HB.out.size; omega
      have hlA : w.heap.size < wr.heap.size := by have := HB2.out.size; omega
      have qx := (HB2.out.cell (p := ⟨w.heap.size, 2, none⟩) (show w.heap.size < w.heap.size + 1 by omega)).trans q2
      have hq32 : q < 32 := by rw [← hq.out]; exact HI.out.orS_lt _ _ _
      have hw16 := HI.out.wb b
      obtain ⟨y, hy⟩ : ∃ y, s.wr b = y := ⟨_, rfl⟩
      rw [hy] at c3 hw16
      have hF : M.ltF s t b = (b != t && (y &&& x) != 0) := by unfold M.ltF; rw [hy, HX.out.1]
      have hand := i64_and_nat y x (by omega) (by have := HX.out.2; omega)
      obtain ⟨r, hr⟩ : ∃ r, y &&& x = r := ⟨_, rfl⟩
      rw [hr] at hand hF
      have hor := i64_or_nat q (1 <<< b) (by omega) (by have := one32 hb5; omega)
      have hsh : IntKind.i64.wrap (2 ^ b) = ((1 <<< b : Nat) : Int) := i64_shl b (by omega)
      have hzk : z + k < s.ro.length := by have := HL.out.1; have := HM.out; omega
      have HQ1 : M.ltF s t b = true → M.orL ((s.ro.drop z).take (k + 1)) (M.ltF s t) = q ||| 1 <<< b := fun e1 => by
        rw [M.orS_yes hzk hb e1, hq.out]
      have HQ0 : M.ltF s t b = false → M.orL ((s.ro.drop z).take (k + 1)) (M.ltF s t) = q := fun e1 => by
        rw [M.orS_no hzk hb e1, hq.out]
      clear hr hy hb hq hpg HB hzk
      by_cases hc : b = t
      · have hcd : ((b : Int) != (t : Int)) = false := by simp [hc]
        have hcd' : (b != t) = false := by simp [hc]
        have HQ : Hid (M.orL ((s.ro.drop z).take (k + 1)) (M.ltF s t) = q) := HQ0 (by rw [hF, hcd']; rfl)
        clear HQ0 HQ1 hF hc hor hsh hand
        go_wp2_with fail
        go_quiet (fail)
        go_wp2_with fail
        go_roundw
        case rel => exact ⟨k + 1, q, rfl, by go_num, by omega, HQ, belowOn HB2.out rfl rfl rfl rfl⟩
        case measure => simp [intOf]; omega
      · have hcd : ((b : Int) != (t : Int)) = true := by simp; omega
        have hcd' : (b != t) = true := by simp [hc]
        by_cases hr0 : r = 0
        · have hg0 : ((r : Int) != 0) = false := by simp [hr0]
          have HQ : Hid (M.orL ((s.ro.drop z).take (k + 1)) (M.ltF s t) = q) := HQ0 (by rw [hF, hr0]; simp)
          clear hr0 HQ0 HQ1 hF hc hor hsh
          go_wp2_with fail
          go_quiet (fail)
          go_wp2_with fail
          go_roundw
          case rel => exact ⟨k + 1, q, rfl, by go_num, by omega, HQ, belowOn HB2.out rfl rfl rfl rfl⟩
          case measure => simp [intOf]; omega
        · have hg0 : ((r : Int) != 0) = true := by simp [hr0]
          have HQ : Hid (M.orL ((s.ro.drop z).take (k + 1)) (M.ltF s t) = q ||| 1 <<< b) := HQ1 (by rw [hF, hcd']; simp [hr0])
          obtain ⟨z', hz⟩ : ∃ z, 1 <<< b = z := ⟨_, rfl⟩
          obtain ⟨r2, hr2⟩ : ∃ r, q ||| z' = r := ⟨_, rfl⟩
          rw [hz] at hor hsh HQ
          rw [hr2] at hor HQ
          clear hr0 HQ0 HQ1 hF hc hz hr2
          go_wp2_with fail
          go_quiet (fail)
          go_wp2_with fail
          go_roundw
          case rel => exact ⟨k + 1, r2, rfl, by go_num, by omega, HQ, belowOn HB2.out rfl rfl rfl rfl⟩
          case measure => simp [intOf]; omega
    · obtain rfl : k = m := by omega
      have HQ : Hid (M.laterS s t = q) := by
        show _ = _
        unfold M.laterS
        rw [HX.out.2.2, ← hq.out, M.orS_all (by have := HL.out.1; have := HM.out; omega)]
      clear hq
      go_wp2_with fail
      go_ret
      exact ⟨by rw [HQ.out]; rfl, HB.out⟩
end Go.Proofs.YtajiichehffaaaaDoor
namespace Go.Proofs.YtajiichehffaaaaDoor
open Go.RowKit
theorem i64_andNot_v (a b : Nat) (ha : a < 65536) (hb : b < 65536) : ∃ r : Nat, bits .andNot .i64 (a : Int) (b : Int) = (r : Int) ∧ r ≤ a ∧ ∀ j, r.testBit j = (a.testBit j && !b.testBit j) := by
  obtain ⟨r, hr⟩ : ∃ r : Nat, (BitVec.ofInt 64 (a : Int) &&& ~~~BitVec.ofInt 64 (b : Int)).toNat = r := ⟨_, rfl⟩
  have hle : r ≤ a := by
    rw [← hr, BitVec.toNat_and, ofInt_i64 a ha]
    exact Nat.and_le_left
  have hbit : ∀ j, r.testBit j = (a.testBit j && !b.testBit j) := fun j => by
    rw [← hr, BitVec.toNat_and, BitVec.toNat_not, Nat.testBit_and, ofInt_i64 a ha, ofInt_i64 b hb]
    by_cases hj : j < 64
    · rw [show (2 ^ 64 - 1 - b) = 2 ^ 64 - (b + 1) by omega, Nat.testBit_two_pow_sub_succ (by omega)]
      simp [hj]
    · have : a.testBit j = false := Nat.testBit_lt_two_pow (Nat.lt_of_lt_of_le ha (Nat.pow_le_pow_right (n := 2) (by omega) (by omega : 16 ≤ j)))
      rw [this]; simp
  refine ⟨r, ?_, hle, hbit⟩
  show IntKind.i64.wrap ((BitVec.ofInt 64 (a : Int) &&& ~~~BitVec.ofInt 64 (b : Int)).toNat : Int) = _
  rw [hr, i64_wrap_nat _ (by omega)]
set_option maxRecDepth 100000 in
set_option maxHeartbeats 4000000 in
theorem vnext_ok {O : Nat → Prop} {S : Nat} {s : M.Vw} (a t : Nat) (w : World) (h : VV O S s w) (hI : M.VI s) (ha : a < s.ro.length) (hat : M.row s.ro a = t) :
    Calls Tryd.prog 36 #[.pointer (some ⟨S, 0, none⟩), .int .i64 (a : Nat)] w fun e w' => e = .returned (.int .i64 (M.vNxS s t a : Nat)) ∧ Below w.heap.size w w' := by
  have HV : Hid (VV O S s w) := h
  have HI : Hid (M.VI s) := hI
  obtain ⟨p, c, v1, _⟩ := h.parts
  have cr := v1.ro
  have hlen := hI.len
  have l1 := v1.lt
  obtain ⟨L, hL⟩ : ∃ L, s.ro.length = L := ⟨_, rfl⟩
  have hrow := row_at rfl v1.row
  rw [hL] at hrow
  have hLc : L ≤ c := by rcases hrow with ⟨_, h2, h3⟩ | ⟨g, _, h2, _⟩ <;> omega
  have HAT : Hid (M.row s.ro a = t) := hat
  rw [hL] at cr hlen ha
  have HL : Hid (s.ro.length = L ∧ w.cell? ⟨S, 20, none⟩ = some (.slice p L c)) := ⟨hL, cr⟩
  have hx0 : Hid (M.LfS s a 0 (s.wr t)) := by rw [← hat]; exact M.LfS.zero hI a
  obtain ⟨g, u, rfl, _, hu, hu5, hg, c0, _, _, c3⟩ := h.place hI cr hL (Below.refl _ _) ha
  obtain rfl : u = t := hu.symm.trans hat
  obtain ⟨x, hx⟩ : ∃ x, s.wr u = x := ⟨_, rfl⟩
  rw [hx] at c3 hx0
  have hai : (a : Int) < L := by omega
  have hui : (u : Int) < 5 := by omega
  clear hL v1 h hI hrow hu hat hx
  go_enter Tryd.func36, Tryd.ntmps36
  go_wp2_with fail
  go_quiet (fail)
  have HB0 : Hid (Below w.heap.size w (w.drewN nq)) := bel_drN (Below.refl _ _) _
  obtain ⟨wq, hwq⟩ : ∃ wq, w.drewN nq = wq := ⟨_, rfl⟩
  rw [hwq] at HB0 ⊢
  have cq := (HB0.out.cell (p := ⟨S, 20, none⟩) l1).trans cr
  have lq : S < wq.heap.size := by have := HB0.out.size; omega
  have ha1 : (a : Int) + 1 = ((a + 1 : Nat) : Int) := by omega
  obtain ⟨z, hz⟩ : ∃ z, a + 1 = z := ⟨_, rfl⟩
  rw [hz] at ha1
  have hzi : (z : Int) ≤ L := by omega
  have hzc : (z : Int) ≤ c := by omega
  have HZ : Hid (a + 1 = z) := hz
  clear hwq cr c0 c3 hg l1 hai hui hz
  go_wp2_with fail
  all_goals
    obtain ⟨m, hm⟩ : ∃ m, L - z = m := ⟨_, rfl⟩
    rw [hm]
    have HM : Hid (L - z = m) := hm
    have hm5 : m ≤ 5 := by omega
    clear hm cq
    go_loopw [5, 6, 30] (fun u' l' v wr => ∃ k q lf : Nat, u' = .int .i64 (q : Nat) ∧ l' = .int .i64 (lf : Nat) ∧ v = .int .i64 (k : Nat) ∧ k ≤ m ∧ Hid (M.orL ((s.ro.drop z).take k) (M.nxF s u) = q) ∧ Hid (M.LfS s a k lf) ∧ Hid (Below w.heap.size w wr)) (fun _ _ v _ => m - (intOf v).toNat)
    case atStart => exact ⟨0, 0, x, rfl, rfl, rfl, Nat.zero_le _, (rfl : M.orL ((s.ro.drop z).take 0) (M.nxF s u) = 0), hx0, HB0⟩
    case round =>
      clear HB0
      obtain ⟨k, q, lf, rfl, rfl, rfl, hk, hq, hlf, HB⟩ := hrel
      by_cases hlt : k < m
      · first
          | (exfalso; have := HM.out; omega)
          | (obtain ⟨g', b, hpg, _, hb, hb5, hg, c0, _, _, c3⟩ := HV.out.place HI.out HL.out.2 HL.out.1 HB.out (show z + k < L by have := HM.out; omega)
             cases hpg
             have hki : (k : Int) < m := by omega
             have hui : (b : Int) < 5 := by omega
             have hls : S < wr.heap.size := by have := HV.out.lt; have := HB.out.size; omega
             have hq32 : q < 32 := by rw [← hq.out]; exact HI.out.orS_lt _ _ _
             have hw16 := HI.out.wb b
             have hl16 := hlf.out.1
             have hzk : z + k < s.ro.length := by have := HL.out.1; have := HM.out; omega
             have hbz : M.row s.ro (a + 1 + k) = b := by rw [HZ.out]; exact hb
             have hcond := M.nx_cond HI.out hlf.out (by rw [HZ.out]; exact hzk)
             rw [hbz, HAT.out] at hcond
             obtain ⟨y, hy⟩ : ∃ y, s.wr b = y := ⟨_, rfl⟩
             rw [hy] at c3 hw16 hcond
             have HY : Hid (s.wr (M.row s.ro (a + 1 + k)) = y) := by show _ = _; rw [hbz]; exact hy
             have hand := i64_and_nat y lf (by omega) (by omega)
             obtain ⟨r, hr⟩ : ∃ r, y &&& lf = r := ⟨_, rfl⟩
             rw [hr] at hand hcond
             by_cases hr0 : r = 0
             · have hg0 : ((r : Int) != 0) = false := by simp [hr0]
               have hf : M.nxF s u b = false := by
                 cases e : M.nxF s u b with
                 | false => rfl
                 | true => exact absurd hr0 (hcond.2 e)
               have HQ : Hid (M.orL ((s.ro.drop z).take (k + 1)) (M.nxF s u) = q) := by show _ = _; rw [M.orS_no hzk hb hf, hq.out]
               have HLF : Hid (M.LfS s a (k + 1) lf) := hlf.out.none (by rw [HZ.out]; exact hzk) (by rw [HY.out, hr]; exact hr0)
               clear hr0 hf hcond hq hlf hr hy hb hbz hzk
               go_wp2_with fail
               go_roundw
               case rel => exact ⟨k + 1, q, lf, rfl, rfl, by go_num, by omega, HQ, HLF, HB⟩
               case measure => simp [intOf]; omega
             · have hg0 : ((r : Int) != 0) = true := by simp [hr0]
               have HQ : Hid (M.orL ((s.ro.drop z).take (k + 1)) (M.nxF s u) = q ||| 1 <<< b) := by show _ = _; rw [M.orS_yes hzk hb (hcond.1 hr0), hq.out]
               obtain ⟨l2, hl2, hle2, hbit2⟩ := i64_andNot_v lf y (by omega) (by omega)
               have HLF : Hid (M.LfS s a (k + 1) l2) := hlf.out.cut (by rw [HZ.out]; exact hzk) hle2 (fun j => by rw [HY.out]; exact hbit2 j)
               have hor := i64_or_nat q (1 <<< b) (by omega) (by have := one32 hb5; omega)
               have hsh : IntKind.i64.wrap (2 ^ b) = ((1 <<< b : Nat) : Int) := i64_shl b (by omega)
               obtain ⟨z', hz'⟩ : ∃ z, 1 <<< b = z := ⟨_, rfl⟩
               obtain ⟨r2, hr2⟩ : ∃ r, q ||| z' = r := ⟨_, rfl⟩
               rw [hz'] at hor hsh HQ
               rw [hr2] at hor HQ
               clear hr0 hcond hq hlf hr hy hb hbz hzk hbit2 hle2 hz' hr2
               go_wp2_with fail
               go_roundw
               case rel => exact ⟨k + 1, r2, l2, rfl, rfl, by go_num, by omega, HQ, HLF, HB⟩
               case measure => simp [intOf]; omega)
      · obtain rfl : k = m := by omega
        have HQ : Hid (M.vNxS s u a = q) := by
          show _ = _
          unfold M.vNxS
          rw [HZ.out, ← hq.out, M.orS_all (by have := HL.out.1; have := HM.out; omega)]
        clear hq hlf
        go_wp2_with fail
        go_ret
        exact ⟨by rw [HQ.out]; rfl, HB.out⟩
end Go.Proofs.YtajiichehffaaaaDoor
