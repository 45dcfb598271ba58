/- Who is committed (package view, Committed). -/
import Derived.Test.YtajiichehffaaaaDoorBVb
import Derived.Deep.MidRow
namespace Go.Proofs.YtajiichehffaaaaDoor
open Go.RowKit
namespace M
/-- who is committed, as a set -/
def comS (s : Vw) : Nat := cnt01 5 fun t => decide (s.dg t = 2)
theorem comS_bit {s : Vw} (h : VI s) (t : Nat) : (comS s).testBit t = decide (t ∈ s.ro) := by
  unfold comS
  rw [cnt01_bit, Bool.eq_iff_iff, Bool.and_eq_true, decide_eq_true_eq, decide_eq_true_eq, decide_eq_true_eq, h.ro]
  constructor
  · exact fun k => k.2
  · intro k
    rcases Nat.lt_or_ge t 5 with c | c
    · exact ⟨c, k⟩
    · have := h.hi t c; omega
theorem comS_lt (s : Vw) : comS s < 32 := Nat.lt_pow_two_of_testBit (n := 5) _ (fun i hi => by
  unfold comS
  rw [cnt01_bit, decide_eq_false (by omega)]; rfl)
theorem cn_yes {k : Nat} {f : Nat → Bool} (e : f k = true) : cnt01 (k + 1) f = cnt01 k f ||| 1 <<< k := by simp only [cnt01, e]; simp
theorem cn_no {k : Nat} {f : Nat → Bool} (e : f k = false) : cnt01 (k + 1) f = cnt01 k f := by simp only [cnt01, e]; simp
theorem cn_lt32 (k : Nat) (hk : k ≤ 5) (f : Nat → Bool) : cnt01 k f < 32 := Nat.lt_pow_two_of_testBit (n := 5) _ (fun i hi => by
  rw [cnt01_bit, decide_eq_false (by omega)]; rfl)
end M
set_option maxRecDepth 100000 in
set_option maxHeartbeats 4000000 in
theorem vcommitted_ok {O : Nat → Prop} {S : Nat} {s : M.Vw} (w : World) (h : VV O S s w) :
    Calls Tryd.prog 14 #[.pointer (some ⟨S, 0, none⟩)] w fun e w' => e = .returned (.int .i64 (M.comS s : Nat)) ∧ Below w.heap.size w w' := by
  obtain ⟨v, v1, _⟩ := h
  have l1 := v1.lt
  have c00 : w.cell? ⟨S, 0, none⟩ = some (.int .i64 (s.dg 0 : Nat)) := v1.dg (t := 0) (by omega)
  have c01 : w.cell? ⟨S, 1, none⟩ = some (.int .i64 (s.se 0 : Nat)) := v1.se (t := 0) (by omega)
  have c02 : w.cell? ⟨S, 2, none⟩ = some (.int .i64 (s.rd 0 : Nat)) := v1.rd (t := 0) (by omega)
  have c03 : w.cell? ⟨S, 3, none⟩ = some (.int .i64 (s.wr 0 : Nat)) := v1.wr (t := 0) (by omega)
  have c10 : w.cell? ⟨S, 4, none⟩ = some (.int .i64 (s.dg 1 : Nat)) := v1.dg (t := 1) (by omega)
  have c11 : w.cell? ⟨S, 5, none⟩ = some (.int .i64 (s.se 1 : Nat)) := v1.se (t := 1) (by omega)
  have c12 : w.cell? ⟨S, 6, none⟩ = some (.int .i64 (s.rd 1 : Nat)) := v1.rd (t := 1) (by omega)
  have c13 : w.cell? ⟨S, 7, none⟩ = some (.int .i64 (s.wr 1 : Nat)) := v1.wr (t := 1) (by omega)
  have c20 : w.cell? ⟨S, 8, none⟩ = some (.int .i64 (s.dg 2 : Nat)) := v1.dg (t := 2) (by omega)
  have c21 : w.cell? ⟨S, 9, none⟩ = some (.int .i64 (s.se 2 : Nat)) := v1.se (t := 2) (by omega)
  have c22 : w.cell? ⟨S, 10, none⟩ = some (.int .i64 (s.rd 2 : Nat)) := v1.rd (t := 2) (by omega)
  have c23 : w.cell? ⟨S, 11, none⟩ = some (.int .i64 (s.wr 2 : Nat)) := v1.wr (t := 2) (by omega)
  have c30 : w.cell? ⟨S, 12, none⟩ = some (.int .i64 (s.dg 3 : Nat)) := v1.dg (t := 3) (by omega)
  have c31 : w.cell? ⟨S, 13, none⟩ = some (.int .i64 (s.se 3 : Nat)) := v1.se (t := 3) (by omega)
  have c32 : w.cell? ⟨S, 14, none⟩ = some (.int .i64 (s.rd 3 : Nat)) := v1.rd (t := 3) (by omega)
  have c33 : w.cell? ⟨S, 15, none⟩ = some (.int .i64 (s.wr 3 : Nat)) := v1.wr (t := 3) (by omega)
  have c40 : w.cell? ⟨S, 16, none⟩ = some (.int .i64 (s.dg 4 : Nat)) := v1.dg (t := 4) (by omega)
  have c41 : w.cell? ⟨S, 17, none⟩ = some (.int .i64 (s.se 4 : Nat)) := v1.se (t := 4) (by omega)
  have c42 : w.cell? ⟨S, 18, none⟩ = some (.int .i64 (s.rd 4 : Nat)) := v1.rd (t := 4) (by omega)
  have c43 : w.cell? ⟨S, 19, none⟩ = some (.int .i64 (s.wr 4 : Nat)) := v1.wr (t := 4) (by omega)
  obtain ⟨x00, h00⟩ : ∃ x, s.dg 0 = x := ⟨_, rfl⟩
  rw [h00] at c00
  obtain ⟨x01, h01⟩ : ∃ x, s.se 0 = x := ⟨_, rfl⟩
  rw [h01] at c01
  obtain ⟨x02, h02⟩ : ∃ x, s.rd 0 = x := ⟨_, rfl⟩
  rw [h02] at c02
  obtain ⟨x03, h03⟩ : ∃ x, s.wr 0 = x := ⟨_, rfl⟩
  rw [h03] at c03
  obtain ⟨x10, h10⟩ : ∃ x, s.dg 1 = x := ⟨_, rfl⟩
  rw [h10] at c10
  obtain ⟨x11, h11⟩ : ∃ x, s.se 1 = x := ⟨_, rfl⟩
  rw [h11] at c11
  obtain ⟨x12, h12⟩ : ∃ x, s.rd 1 = x := ⟨_, rfl⟩
  rw [h12] at c12
  obtain ⟨x13, h13⟩ : ∃ x, s.wr 1 = x := ⟨_, rfl⟩
  rw [h13] at c13
  obtain ⟨x20, h20⟩ : ∃ x, s.dg 2 = x := ⟨_, rfl⟩
  rw [h20] at c20
  obtain ⟨x21, h21⟩ : ∃ x, s.se 2 = x := ⟨_, rfl⟩
  rw [h21] at c21
  obtain ⟨x22, h22⟩ : ∃ x, s.rd 2 = x := ⟨_, rfl⟩
  rw [h22] at c22
  obtain ⟨x23, h23⟩ : ∃ x, s.wr 2 = x := ⟨_, rfl⟩
  rw [h23] at c23
  obtain ⟨x30, h30⟩ : ∃ x, s.dg 3 = x := ⟨_, rfl⟩
  rw [h30] at c30
  obtain ⟨x31, h31⟩ : ∃ x, s.se 3 = x := ⟨_, rfl⟩
  rw [h31] at c31
  obtain ⟨x32, h32⟩ : ∃ x, s.rd 3 = x := ⟨_, rfl⟩
  rw [h32] at c32
  obtain ⟨x33, h33⟩ : ∃ x, s.wr 3 = x := ⟨_, rfl⟩
  rw [h33] at c33
  obtain ⟨x40, h40⟩ : ∃ x, s.dg 4 = x := ⟨_, rfl⟩
  rw [h40] at c40
  obtain ⟨x41, h41⟩ : ∃ x, s.se 4 = x := ⟨_, rfl⟩
  rw [h41] at c41
  obtain ⟨x42, h42⟩ : ∃ x, s.rd 4 = x := ⟨_, rfl⟩
  rw [h42] at c42
  obtain ⟨x43, h43⟩ : ∃ x, s.wr 4 = x := ⟨_, rfl⟩
  rw [h43] at c43
  obtain ⟨cs, hcs⟩ : ∃ cs : List Value, [.int .i64 (x00 : Nat), .int .i64 (x01 : Nat), .int .i64 (x02 : Nat), .int .i64 (x03 : Nat), .int .i64 (x10 : Nat), .int .i64 (x11 : Nat), .int .i64 (x12 : Nat), .int .i64 (x13 : Nat), .int .i64 (x20 : Nat), .int .i64 (x21 : Nat), .int .i64 (x22 : Nat), .int .i64 (x23 : Nat), .int .i64 (x30 : Nat), .int .i64 (x31 : Nat), .int .i64 (x32 : Nat), .int .i64 (x33 : Nat), .int .i64 (x40 : Nat), .int .i64 (x41 : Nat), .int .i64 (x42 : Nat), .int .i64 (x43 : Nat)] = cs := ⟨_, rfl⟩
  have hrg : w.rangeAt S 0 cs := fun j u hu => by
    rw [← hcs] at hu
    have hj := (List.getElem?_eq_some_iff.1 hu).1
    have hj' : j < 20 := hj
    rw [Nat.zero_add]
    have e : j = 0 ∨ j = 1 ∨ j = 2 ∨ j = 3 ∨ j = 4 ∨ j = 5 ∨ j = 6 ∨ j = 7 ∨ j = 8 ∨ j = 9 ∨ j = 10 ∨ j = 11 ∨ j = 12 ∨ j = 13 ∨ j = 14 ∨ j = 15 ∨ j = 16 ∨ j = 17 ∨ j = 18 ∨ j = 19 := by omega
    rcases e with rfl | rfl | rfl | rfl | rfl | rfl | rfl | rfl | rfl | rfl | rfl | rfl | rfl | rfl | rfl | rfl | rfl | rfl | rfl | rfl
    · cases hu; exact c00
    · cases hu; exact c01
    · cases hu; exact c02
    · cases hu; exact c03
    · cases hu; exact c10
    · cases hu; exact c11
    · cases hu; exact c12
    · cases hu; exact c13
    · cases hu; exact c20
    · cases hu; exact c21
    · cases hu; exact c22
    · cases hu; exact c23
    · cases hu; exact c30
    · cases hu; exact c31
    · cases hu; exact c32
    · cases hu; exact c33
    · cases hu; exact c40
    · cases hu; exact c41
    · cases hu; exact c42
    · cases hu; exact c43
  have hinf : (Tryd.prog.info? 55).map (·.size) = some cs.length := by rw [← hcs]; kernel_rfl
  have hidx : ∀ k, k < 5 → ∃ a b c d : Nat, (∀ w', (Instr.index 55 (.agg cs.toArray) (.int .i64 (k : Nat))).run Tryd.prog w' = .ok (.agg #[.int .i64 (a : Nat), .int .i64 (b : Nat), .int .i64 (c : Nat), .int .i64 (d : Nat)]) w') ∧ s.dg k = a := by
    intro k hk
    rw [← hcs]
    have e : k = 0 ∨ k = 1 ∨ k = 2 ∨ k = 3 ∨ k = 4 := by omega
    rcases e with rfl | rfl | rfl | rfl | rfl
    · exact ⟨x00, x01, x02, x03, fun w' => by simp [Instr.index, run_underlying Tryd.underlying55, asIntOf, go_sem], h00⟩
    · exact ⟨x10, x11, x12, x13, fun w' => by simp [Instr.index, run_underlying Tryd.underlying55, asIntOf, go_sem], h10⟩
    · exact ⟨x20, x21, x22, x23, fun w' => by simp [Instr.index, run_underlying Tryd.underlying55, asIntOf, go_sem], h20⟩
    · exact ⟨x30, x31, x32, x33, fun w' => by simp [Instr.index, run_underlying Tryd.underlying55, asIntOf, go_sem], h30⟩
    · exact ⟨x40, x41, x42, x43, fun w' => by simp [Instr.index, run_underlying Tryd.underlying55, asIntOf, go_sem], h40⟩
  have HX : Hid _ := hidx
  clear hidx v1 hcs c00 c01 c02 c03 c10 c11 c12 c13 c20 c21 c22 c23 c30 c31 c32 c33 c40 c41 c42 c43 h00 h01 h02 h03 h10 h11 h12 h13 h20 h21 h22 h23 h30 h31 h32 h33 h40 h41 h42 h43
  go_enter Tryd.func14, Tryd.ntmps14
  go_wp2_with (refine wpList_load_mid rfl 55 _ rfl S 0 rfl cs _ hrg Tryd.underlying55 rfl hinf ?_)
  clear hrg hinf
  go_loopw [3, 10] (fun u v wr => ∃ k q : Nat, u = .int .i64 (q : Nat) ∧ v = .int .i64 (k : Nat) ∧ k ≤ 5 ∧ Hid (M.cnt01 k (fun t => decide (s.dg t = 2)) = q) ∧ Hid (Below w.heap.size w wr)) (fun _ v _ => 5 - (intOf v).toNat)
  case atStart => exact ⟨0, 0, rfl, rfl, Nat.zero_le _, (rfl : M.cnt01 0 (fun t => decide (s.dg t = 2)) = 0), (Below.refl _ _ : Below w.heap.size w w)⟩
  case round =>
    obtain ⟨k, q, rfl, rfl, hk, hq, HB⟩ := hrel
    by_cases hlt : k < 5
    · have hki : (k : Int) < 5 := by omega
      obtain ⟨a, b, c, d, hx, hka⟩ := HX.out k hlt
      have hq32 : q < 32 := by rw [← hq.out]; exact M.cn_lt32 k hk _
      by_cases ha : a = 2
      · have hg : ((a : Int) == 2) = true := by simp [ha]
        have hg' : (a == 2) = true := by simp [ha]
        have HQ : Hid (M.cnt01 (k + 1) (fun t => decide (s.dg t = 2)) = q ||| 1 <<< k) := by show _ = _; rw [M.cn_yes (by rw [hka]; exact decide_eq_true ha), hq.out]
        have hor := i64_or_nat q (1 <<< k) (by omega) (by have := one32 hlt; omega)
        have hsh : IntKind.i64.wrap (2 ^ k) = ((1 <<< k : Nat) : Int) := i64_shl k (by omega)
        obtain ⟨y, hy⟩ : ∃ y, 1 <<< k = y := ⟨_, rfl⟩
        obtain ⟨r, hr⟩ : ∃ r, q ||| y = r := ⟨_, rfl⟩
        rw [hy] at hor hsh HQ
        rw [hr] at hor HQ
        clear hy hr ha hka hq
        go_wp2_with fail
        go_roundw
        case rel => exact ⟨k + 1, r, rfl, by go_num, by omega, HQ, bel_al HB.out _⟩
        case measure => simp [intOf]; omega
      · have hg : ((a : Int) == 2) = false := by simp; omega
        have hg' : (a == 2) = false := by simp [ha]
        have HQ : Hid (M.cnt01 (k + 1) (fun t => decide (s.dg t = 2)) = q) := by show _ = _; rw [M.cn_no (by rw [hka]; exact decide_eq_false ha), hq.out]
        clear ha hka hq
        go_wp2_with fail
        go_roundw
        case rel => exact ⟨k + 1, q, rfl, by go_num, by omega, HQ, bel_al HB.out _⟩
        case measure => simp [intOf]; omega
    · obtain rfl : k = 5 := by omega
      have HQ : Hid (M.comS s = q) := hq.out
      clear hq
      go_wp2_with fail
      go_ret
      exact ⟨by rw [HQ.out]; rfl, HB.out⟩
end Go.Proofs.YtajiichehffaaaaDoor
