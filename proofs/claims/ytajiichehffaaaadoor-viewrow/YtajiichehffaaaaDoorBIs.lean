/- Package extend's First and Is, at whatever numbers: each tells what is wrong as the document has it, else the first row, place by place, and whether a list is a row, number by number; what lay in memory lies as it lay. -/
import Derived.Test.YtajiichehffaaaaDoorNxt
import Derived.Test.YtajiichehffaaaaDoorSame
namespace Go.Proofs.YtajiichehffaaaaDoor
open Go.RowKit

theorem dual_of {m : List Nat} (hm : M.Ok m) : M.Dual (M.clo m) (M.turned m) := ⟨by rw [M.clo_length, M.turned_length], fun i j => by rw [Bool.eq_iff_iff, M.turned_bit hm, M.clo_bit]⟩
theorem cloTr {m : List Nat} (hm : M.Ok m) (hr : ¬ M.Ring m) : M.Tr (M.clo m) := by
  refine ⟨fun i => ?_, fun i j k h1 h2 => ?_⟩
  · cases hb : (M.row (M.clo m) i).testBit i with
    | false => rfl
    | true => exact absurd ⟨i, (M.clo_bit m i i).1 hb⟩ hr
  · rw [M.clo_bit] at *
    exact M.clo_trans hm h1 h2
theorem nextS_pos {c t : List Nat} (hd : M.Dual c t) (hn : c.length ≤ 12) {d i : Nat} (hi : i < c.length) (h : M.nextB t d i = true) : 0 < M.nextS t d := by
  rcases Nat.eq_zero_or_pos (M.nextS t d) with h0 | h0
  · have := (M.nextS_mem (t := t) (by rw [← hd.1]; exact hn) d i).2 ⟨by rw [← hd.1]; exact hi, h⟩
    rw [h0, bits_zero] at this; cases this
  · exact h0
set_option maxHeartbeats 400000 in
theorem first_err (zs : List Int) (p : Option Addr) (n cap c : Nat) (w : World) (hl : zs.length = n) (he : Env w) (hmax : n ≤ maxLen) (hc : Has zs p w) (h0 : code zs = c) (hne : c ≠ 0) :
    Calls Tryd.prog 26 #[.slice p n cap] w fun e w' => e = .returned (.tuple #[.slice none 0 0, .iface 59 (.int .i64 (c : Nat))]) ∧ Below w.heap.size w w' := by
  go_enter Tryd.func26, Tryd.ntmps26
  go_wp2_with (go_at_call 42; refine (turned_err zs p n cap c _ hl he hmax hc h0 hne).mono ?_; rintro e w' ⟨rfl, hB⟩)
  go_ret2
  exact ⟨rfl, hB⟩
set_option maxRecDepth 100000 in
set_option maxHeartbeats 1000000 in
theorem first_ok (zs : List Int) (p : Option Addr) (n cap : Nat) (w : World) (hl : zs.length = n) (he : Env w) (hmax : n ≤ maxLen) (hc : Has zs p w) (h0 : code zs = 0) :
    Calls Tryd.prog 26 #[.slice p n cap] w fun e w' => ∃ A, e = .returned (.tuple #[.slice (some ⟨A, 0, none⟩) n n, .nilIface]) ∧ RowAt 3 w' A (M.firstR (M.turned (nats zs))) ∧ w.heap.size ≤ A ∧ Below w.heap.size w w' := by
  have hz := code_zero h0
  have hn : n ≤ 12 := by omega
  have hpw := pow_lt n hn
  have hok := nats_ok hz.2.1
  have hdu := dual_of hok
  have htr := cloTr hok hz.2.2
  have hcl : (M.clo (nats zs)).length = n := by rw [M.clo_length, nats_length, hl]
  have htl : (M.turned (nats zs)).length = n := by rw [M.turned_length, nats_length, hl]
  have hmk0 := run_make_row' (P := Tryd.prog) 32 3 (.int .i64 0) 8 Tryd.underlying32 Tryd.info3 rfl .i64 .i64 n (by omega) (by omega)
  have hto := M.turned_ok (nats zs)
  have hlt : ∀ k, k ≤ n → M.stoodN (M.turned (nats zs)) k < 4096 := fun k hk => by have := M.stood_lt hdu htr k (by omega); rw [hcl] at this; omega
  have hpk : ∀ k, k < n → M.pick (M.turned (nats zs)) (M.stoodN (M.turned (nats zs)) k) < n := fun k hk => by have := (M.stood_pick hdu htr (k := k) (by omega)).1; rw [hcl] at this; exact this
  have hps : ∀ k, k < n → 0 < M.nextS (M.turned (nats zs)) (M.stoodN (M.turned (nats zs)) k) := fun k hk => by
    have := M.stood_pick hdu htr (k := k) (by omega)
    exact nextS_pos hdu (by omega) this.1 this.2.1
  have hsl : ∀ d, M.nextS (M.turned (nats zs)) d < 4096 := fun d => by have := M.nextS_lt (M.turned (nats zs)) d; rw [htl] at this; omega
  have hls : ∀ d, least (M.nextS (M.turned (nats zs)) d) = M.pick (M.turned (nats zs)) d := fun d => M.nextS_pick (by omega) d
  go_enter Tryd.func26, Tryd.ntmps26
  go_wp2_with fail
  refine (turned_ok zs p n cap _ hl he hmax hc h0).mono ?_
  rintro e w1 ⟨A, rfl, hrc, hA, hB⟩
  obtain ⟨t, htd⟩ : ∃ t, M.turned (nats zs) = t := ⟨_, rfl⟩
  rw [htd] at hrc hlt hpk hps hsl hls htl hto hdu
  have HTD : Hid (M.turned (nats zs) = t) := htd
  clear htd
  have hrow0 : RowAt 3 (w1.alloc (.cells (madeCells #[.int .i64 0] n) 3)) w1.heap.size (M.firstP t 0) := by
    unfold RowAt
    rw [M.firstP_zero, htl, World.alloc_heap_new, made_arr]
  have hB0 : Below w1.heap.size w1 (w1.alloc (.cells (madeCells #[.int .i64 0] n) 3)) := (Below.refl _ _).alloc (Nat.le_refl _) _
  go_wp2_with fail
  go_loopw [7, 22] (fun m v wr => ∃ k d : Nat, v = .int .i64 k ∧ m = .int .i64 d ∧ k ≤ n ∧ Hid (d = M.stoodN t k) ∧ RowAt 3 wr w1.heap.size (M.firstP t k) ∧ Below w1.heap.size w1 wr) (fun _ v _ => n - (intOf v).toNat)
  case atStart => exact ⟨0, 0, rfl, rfl, Nat.zero_le _, (rfl : 0 = M.stoodN t 0), hrow0, hB0⟩
  case round =>
    clear hrow0 hB0 hmk0
    obtain ⟨k, d, rfl, rfl, hk, hd, hrow, hBr⟩ := hrel
    by_cases hkn : k < n
    · have hd4 : d < 4096 := by rw [hd.out]; exact hlt k hk
      have hst : Hid (M.stoodN t (k + 1) = d ||| 1 <<< M.pick t d) := (by simp only [M.stoodN]; rw [← hd.out] : M.stoodN t (k + 1) = d ||| 1 <<< M.pick t d)
      have hd5 : d ||| 1 <<< M.pick t d < 4096 := by rw [← hst.out]; exact hlt (k + 1) (by omega)
      have hpk1 : M.pick t d < n := by rw [hd.out]; exact hpk k hkn
      have hps1 : 0 < M.nextS t d := by rw [hd.out]; exact hps k hkn
      have hset : Hid ((M.firstP t k).set k (M.pick t d) = M.firstP t (k + 1)) := (by rw [hd.out]; exact M.firstP_set : (M.firstP t k).set k (M.pick t d) = M.firstP t (k + 1))
      have h1 := next_any t d (some ⟨A, 0, none⟩) n n wr htl hn hto hd4 (hrc.has.later hBr)
      have h2 := least_any (M.nextS t d) wr (hsl d) hps1 ((he.later hB).later hBr).tab
      rw [hls d] at h2
      have hfl : (M.firstP t k).length = n := by rw [M.firstP_length, htl]
      obtain ⟨o, ho⟩ : ∃ o, M.firstP t k = o := ⟨_, rfl⟩
      rw [ho] at hrow hset hfl
      obtain ⟨x, hx⟩ : ∃ x, M.pick t d = x := ⟨_, rfl⟩
      rw [hx] at hst hd5 hpk1 hset h2
      obtain ⟨s, hs⟩ : ∃ s, M.nextS t d = s := ⟨_, rfl⟩
      rw [hs] at h1 h2
      have hfr := hrow.frozen k
      have hcl0 := hrow.cell (k := k) (by omega)
      have hcx : (wr.setCell ⟨w1.heap.size, k, none⟩ (.int .i64 (x : Nat))).cell? ⟨w1.heap.size, k, none⟩ = some (.int .i64 (x : Nat)) := World.cell?_setCell_same' _ _ _ (by rw [hcl0]; rfl)
      have hsh : IntKind.i64.wrap (2 ^ x) = ((1 <<< x : Nat) : Int) := i64_shl x (by omega)
      have hjp : 1 <<< x < 65536 := by rw [Nat.shiftLeft_eq, Nat.one_mul]; have := pow_lt x (by omega); omega
      have hor := i64_or_nat d (1 <<< x) (by omega) hjp
      obtain ⟨y, hy⟩ : ∃ y : Nat, 1 <<< x = y := ⟨_, rfl⟩
      rw [hy] at hsh hor hst hd5
      obtain ⟨z, hzd⟩ : ∃ z : Nat, d ||| y = z := ⟨_, rfl⟩
      rw [hzd] at hor hst hd5
      clear hy hzd hx hs ho hjp hps1
      go_wp2_with fail
      refine h1.mono ?_
      rintro e w5 ⟨rfl, rfl⟩
      go_wp2_with fail
      refine h2.mono ?_
      rintro e w5 ⟨rfl, rfl⟩
      go_wp2_with fail
      go_roundw
      case rel => exact ⟨k + 1, z, by go_num, rfl, by omega, (hst.out.symm : z = _), (by rw [← hset.out]; exact hrow.set k x), hBr.setCell (p := ⟨w1.heap.size, k, none⟩) (Nat.le_refl _) _⟩
      case measure => simp [intOf]; omega
    · obtain rfl : k = n := by omega
      have hfe : Hid (M.firstP t k = M.firstR (M.turned (nats zs))) := (by rw [HTD.out, ← htl]; exact M.firstP_end t : M.firstP t k = M.firstR (M.turned (nats zs)))
      go_wp2_with fail
      go_ret2
      exact ⟨w1.heap.size, rfl, (by rw [← hfe.out]; exact hrow), hB.size, hB.trans (hBr.mono hB.size)⟩
end Go.Proofs.YtajiichehffaaaaDoor
