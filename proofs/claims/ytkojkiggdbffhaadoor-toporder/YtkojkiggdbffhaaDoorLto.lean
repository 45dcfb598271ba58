/- WHAT HAPPENED BEFORE IS AN ORDER (law TopOrder), the walk. -/
import Derived.Test.YtkojkiggdbffhaaDoorOof
import Derived.Test.YtkojkiggdbffhaaDoorBSw
import Derived.Test.YtkojkiggdbffhaaDoorRank
import Derived.Test.YtkojkiggdbffhaaDoorDct
import Derived.Test.YtkojkiggdbffhaaDoorSrw
import Derived.Test.YtkojkiggdbffhaaDoorHst
import Derived.Test.YtkojkiggdbffhaaDoorBRf
import Derived.Test.YtkojkiggdbffhaaDoorBCc
import Derived.Test.YtkojkiggdbffhaaDoorTfc
import Derived.Test.YtkojkiggdbffhaaDoorBOi
import Derived.Test.YtkojkiggdbffhaaDoorBCb
namespace Go.Proofs.YtkojkiggdbffhaaDoor
open Go.RowKit
theorem has_I {zs : List Int} {p : Option Addr} {w : World} (h : HasI zs p w) : Has zs p w := h
theorem wide_lt (T : List (Int × Int)) (hn : T.length ≤ 12) : M.widest (M.ro T) < 2 ^ 12 := by
  have h := wUp_lt (M.ro T) (2 ^ (M.ro T).length) (Nat.le_refl _)
  rw [M.ro_length] at h
  have h2 : 2 ^ T.length ≤ 2 ^ 12 := Nat.pow_le_pow_right (by omega) hn
  have e : M.widest (M.ro T) = M.wUp (M.ro T) (2 ^ T.length) := by unfold M.widest; rw [M.ro_length]
  omega
namespace M
theorem hL_lsB {T : List (Int × Int)} {t : Nat → Nat} {i j : Nat} (h : hL T t i j) : lsB (hT T t i : Nat) (hC T t i : Nat) (hT T t j : Nat) (hC T t j : Nat) = true := by
  unfold hL at h
  unfold lsB
  split <;> exact decide_eq_true (by omega)
end M
theorem fact_code : code [2, 4, 0] = 0 := by decide +kernel
theorem fact_clo : M.clo (nats [2, 4, 0]) = [6, 4, 0] := by decide +kernel
set_option maxRecDepth 100000 in
set_option maxHeartbeats 3000000 in
theorem to_walk (P : Int) (T : List (Int × Int)) (p : Option Addr) (n cap : Nat) (zs : List Int) (q : Option Addr) (m cap2 : Nat) (w : World) (he : Env w) (hl : T.length = n) (hmax : n ≤ maxLen) (hc : HasE T p w) (hl2 : zs.length = m) (hmax2 : m ≤ maxLen) (hz : HasI zs q w) (_ : ∀ k : Nat, zs[k]?.getD 0 < 9223372036854775808) :
    Calls Tryd.prog 3 #[trV P p n cap, .slice q m cap2] w fun e w' => e = .returned (.bool true) ∧ Below w.heap.size w w' := by
  obtain ⟨wa, hwa⟩ : ∃ wa, w.alloc (.cells #[.int .i64 P, .slice p n cap] 24) = wa := ⟨_, rfl⟩
  have ta : TBox wa w.heap.size P p n cap := hwa ▸ tbox_new w P p n cap
  have hBa : Below w.heap.size w wa := by rw [← hwa]; exact bel_al (Below.refl _ _) _
  have hb2 : Below wa.heap.size wa (wa.alloc (.cells #[.int .i64 2, .int .i64 4, .int .i64 0] 3)) := bel_al (Below.refl _ _) _
  have h3 := hasI3 wa 2 4 0
  go_enter Tryd.func3, Tryd.ntmps3
  go_wp2_with fail
  refine (behind_ok [2, 4, 0] _ 3 3 _ rfl (he.later (bel_on hBa hb2)) (by unfold maxLen; omega) (has_I h3) fact_code).mono ?_
  rw [fact_clo]
  rintro e w1 ⟨A1, rfl, hr1, _, hB1⟩
  have hC1 := bel_on (bel_on hBa hb2) hB1
  have t1 := (ta.later hb2 ta.lt).later hB1 (Nat.lt_of_lt_of_le ta.lt hb2.size)
  have hb3 : Below w1.heap.size w1 (w1.alloc (.cells #[.int .i64 6, .int .i64 4, .int .i64 0] 3)) := bel_al (Below.refl _ _) _
  have h6 := hasI3 w1 6 4 0
  have h7 : HasI [6, 4, 0] (some ⟨A1, 0, none⟩) (w1.alloc (.cells #[.int .i64 6, .int .i64 4, .int .i64 0] 3)) := (RowAt.hasI hr1).later hb3
  have hC2 := bel_on hC1 hb3
  have t2 := t1.later hb3 t1.lt
  clear hwa ta hBa hb2 h3 hr1 hB1 t1 hC1 hb3
  go_wp2_with fail
  refine (same_intsI [6, 4, 0] _ _ 3 3 3 _ rfl (by unfold maxLen; omega) h7 h6).mono ?_
  rintro e w3 ⟨rfl, hB3⟩
  have t3 := t2.later hB3 t2.lt
  have hC3 := bel_on hC2 hB3
  have k0 := t3.procs
  have k1 := t3.events
  have kl := t3.lt
  clear t2 hC2 hB3 h6 h7
  go_wp2_with fail
  clear k0 k1 kl
  by_cases h0 : M.tcode P T = 0 ∧ n ≤ 12
  · obtain ⟨h0, h12⟩ := h0
    have hok := M.tcode_zero.1 h0
    have hp1 := hok.p1
    have hp5 := hok.p5
    obtain ⟨P, rfl⟩ : ∃ Pn : Nat, P = Pn := ⟨P.toNat, by omega⟩
    have hP5 : P ≤ 5 := by omega
    have hcode := ro_code (T := T) (by omega)
    have hrol : (ints (M.ro T)).length = n := by rw [ints_length, M.ro_length, hl]
    have htu := ro_turned T
    have hclo : M.clo (nats (ints (M.ro T))) = M.ro T := by rw [nats_ints, M.clo_ro]
    have hwide := M.wide_ro hok (by omega)
    have hwlt := wide_lt T (by omega)
    have hdn := M.downs_ro hok
    rw [nats_ints] at htu
    have hctb := M.cts_pow hok
    have hct24 := pow_24 T.length (by omega)
    obtain ⟨kk, hkk⟩ : ∃ kk, M.cts T P [] = kk := ⟨_, rfl⟩
    rw [hkk] at hdn hctb
    have h24 : n ≤ 24 := by omega
    refine (oo_ok (P : Nat) T p n cap _ hl hmax (hc.later hC3) h0 h12).mono ?_
    rintro e w4 ⟨A, rfl, hr, hB⟩
    replace t3 := t3.later hB t3.lt
    replace hC3 := bel_on hC3 hB
    clear hB
    have k0 := t3.procs
    have k1 := t3.events
    have kl := t3.lt
    have hro := RowAt.hasI hr
    clear hr
    go_wp2_with fail
    refine (behind_ok (ints (M.ro T)) _ n n _ hrol (he.later hC3) hmax (has_I hro) hcode).mono ?_
    rw [hclo]
    rintro e w5 ⟨A2, rfl, hr, _, hB⟩
    clear k0 k1 kl
    replace hro := hro.later hB
    replace t3 := t3.later hB t3.lt
    replace hC3 := bel_on hC3 hB
    clear hB
    have k0 := t3.procs
    have k1 := t3.events
    have kl := t3.lt
    have hcl := RowAt.hasI hr
    clear hr
    go_wp2_with fail
    refine (widest_ok (ints (M.ro T)) _ n n _ hrol (he.later hC3) hmax (has_I hro) hcode).mono ?_
    rw [hclo]
    rintro e w6 ⟨rfl, hB⟩
    clear k0 k1 kl
    replace hro := hro.later hB
    replace hcl := hcl.later hB
    replace t3 := t3.later hB t3.lt
    replace hC3 := bel_on hC3 hB
    clear hB
    have k0 := t3.procs
    have k1 := t3.events
    have kl := t3.lt
    go_wp2_with fail
    refine (ranks_ok (ints (M.ro T)) _ n n _ hrol (he.later hC3) hmax (has_I hro) hcode).mono ?_
    rw [nats_ints, htu]
    rintro e w7 ⟨A3, rfl, hr, _, hB⟩
    clear k0 k1 kl
    replace hro := hro.later hB
    replace hcl := hcl.later hB
    replace t3 := t3.later hB t3.lt
    replace hC3 := bel_on hC3 hB
    clear hB
    have k0 := t3.procs
    have k1 := t3.events
    have kl := t3.lt
    have hrk := RowAt.hasI hr
    clear hr
    go_wp2_with fail
    refine (plain_ok (P : Nat) T p n cap _ hl hmax (hc.later hC3) h0).mono ?_
    rintro e w8 ⟨A4, rfl, hr, _, hB⟩
    clear k0 k1 kl
    replace hro := hro.later hB
    replace hcl := hcl.later hB
    replace hrk := hrk.later hB
    replace t3 := t3.later hB t3.lt
    replace hC3 := bel_on hC3 hB
    clear hB
    have k0 := t3.procs
    have k1 := t3.events
    have kl := t3.lt
    have hck := RowAt.hasI hr
    clear hr
    go_wp2_with fail
    refine (dcount_ok (ints (M.ro T)) _ n n _ hrol (he.later hC3) hmax (has_I hro) hcode).mono ?_
    rw [nats_ints, hdn]
    rintro e w9 ⟨rfl, hB⟩
    clear k0 k1 kl
    replace hro := hro.later hB
    replace hcl := hcl.later hB
    replace hrk := hrk.later hB
    replace hck := hck.later hB
    replace t3 := t3.later hB t3.lt
    replace hC3 := bel_on hC3 hB
    clear hB
    have k0 := t3.procs
    have k1 := t3.events
    have kl := t3.lt
    go_wp2_with fail
    refine (count_ok P T p n cap _ hl (he.later hC3) hmax (hc.later hC3) h0).mono ?_
    rw [hkk]
    rintro e w10 ⟨rfl, hB⟩
    clear k0 k1 kl
    replace hro := hro.later hB
    replace hcl := hcl.later hB
    replace hrk := hrk.later hB
    replace hck := hck.later hB
    replace t3 := t3.later hB t3.lt
    replace hC3 := bel_on hC3 hB
    clear hB
    have k0 := t3.procs
    have k1 := t3.events
    have kl := t3.lt
    go_wp2_with fail
    refine (row_ok (P : Nat) T p n cap _ hl hmax (hc.later hC3) h0).mono ?_
    rintro e w11 ⟨A5, L, rfl, hisrw, hrw, _, hB⟩
    clear k0 k1 kl
    replace hro := hro.later hB
    replace hcl := hcl.later hB
    replace hrk := hrk.later hB
    replace hck := hck.later hB
    replace t3 := t3.later hB t3.lt
    replace hC3 := bel_on hC3 hB
    clear hB
    have k0 := t3.procs
    have k1 := t3.events
    have kl := t3.lt
    obtain ⟨sw, hsw⟩ : ∃ sw, M.widest (M.ro T) = sw := ⟨_, rfl⟩
    rw [hsw] at hwide hwlt ⊢
    have hpcm : M.pc sw = M.cnt 24 sw := by unfold M.pc; exact cnt_24 (by omega) hwlt
    rw [hpcm] at hwide
    obtain ⟨cw, hcw⟩ : ∃ cw, M.cnt 24 sw = cw := ⟨_, rfl⟩
    have hmany : ∀ W, Calls Tryd.prog 14 #[.int .i64 (sw : Nat)] W fun e w' => e = .returned (.int .i64 (cw : Nat)) ∧ W = w' := fun W => by rw [← hcw]; exact many_big sw W (by omega)
    rw [hcw] at hwide
    clear hcw hpcm hsw hkk hdn hctb
    have hints : ∀ m, Calls Tryd.prog 5 #[.slice (some ⟨A2, 0, none⟩) n n, .slice (some ⟨A, 0, none⟩) n n] (w11.drewN m) fun e w' => e = .returned (.bool true) ∧ ∃ m', w' = (w11.drewN m).drewN m' := fun m => same_intsQ (ints (M.ro T)) _ _ n n n _ hrol hmax (hcl.drN m) (hro.drN m)
    have e1 : decide ((sw : Int) < 0) = false := decide_eq_false (by omega)
    have e2 : decide ((P : Int) < (cw : Int)) = false := decide_eq_false (by omega)
    have e3 : decide (P < cw) = false := decide_eq_false (by omega)
    go_wp2_with fail
    go_big_quiet (first | (go_at_call 5; first | exact Calls.quiet_of (hints _) | (refine (hints _).mono ?_; rintro e w' ⟨rfl, m', rfl⟩; exact ⟨rfl, _, by rw [World.drewN_drewN, Nat.add_assoc]⟩)) | (go_at_call 14; exact Calls.quiet_of_same ((hmany _).mono (fun e w' h => ⟨h.1, h.2.symm⟩))))
    clear hints hmany e1 e2 e3 k0 k1 kl
    go_wp2_with fail
    go_loopw [23] (fun v wr => ∃ i : Nat, v = .int .i64 i ∧ i ≤ n ∧ Below w11.heap.size w11 wr) (fun v _ => n - (intOf v).toNat)
    case atStart => exact ⟨0, rfl, Nat.zero_le _, below_drewN _ _⟩
    case round =>
      obtain ⟨i, rfl, hi, hB⟩ := hrel
      by_cases hlt : i < n
      · have hil : (i : Int) < (n : Int) := by omega
        have hrc := M.ranks_ck (T := T) (by omega) i (by omega)
        obtain ⟨x, hx⟩ : ∃ x, M.row (M.ranks (M.before T)) i = x := ⟨_, rfl⟩
        obtain ⟨b, off, eb, hb, hcx⟩ := hasI_nat (hrk.later hB) (show i < (M.ranks (M.before T)).length by rw [M.ranks_length, M.before_length]; omega) hx
        cases eb
        obtain ⟨y, hy⟩ : ∃ y, M.ck T i = y := ⟨_, rfl⟩
        obtain ⟨b, off, eb, hb2, hcy⟩ := hasI_nat (hck.later hB) (show i < (M.clocks T).length by rw [M.clocks_length]; omega) (show M.row (M.clocks T) i = y by rw [M.clocks_row T (by omega), hy])
        cases eb
        rw [hx, hy] at hrc
        have hyb : y ≤ 25 := by have := M.ck_le T i; omega
        have hxy : (x : Int) + 1 = (y : Int) := by omega
        rw [Nat.zero_add] at hcx hcy
        clear hx hy hrc
        go_wp2_with fail
        go_big_quiet (fail)
        go_wp2_with fail
        go_roundw
        case rel => exact ⟨i + 1, by go_num, by omega, bel_drN hB _⟩
        case measure => simp [intOf]; omega
      · obtain rfl : n = i := by omega
        obtain ⟨w12, hw12⟩ : ∃ w12, w12 = wr := ⟨_, rfl⟩
        subst hw12
        replace hro := hro.later hB
        replace hrw := hrw.later hB
        replace t3 := t3.later hB t3.lt
        replace hC3 := bel_on hC3 hB
        clear hB hlt hrk hck hcl
        go_wp2_with fail
        refine (is_any (ints (M.ro T)) (ints L) _ _ n n n n _ hrol (by rw [ints_length, hisrw.length]) (he.later hC3) hmax (has_I hro) (has_I hrw)).mono ?_
        rw [row_is hl h12 hisrw]
        rintro e w13 ⟨rfl, hB⟩
        replace hro := hro.later hB
        replace t3 := t3.later hB t3.lt
        replace hC3 := bel_on hC3 hB
        have k0 := t3.procs
        have k1 := t3.events
        have kl := t3.lt
        clear hB hrw hisrw
        rw [show errV (true, 0).2 = .nilIface from rfl]
        dsimp only
        go_wp2_with fail
        clear k0 k1 kl
        by_cases hh : M.hcode (P : Nat) T zs = 0
        · have hhk := M.hcode_zero.1 hh
          obtain rfl : n = m := by have := hhk.len; omega
          refine (stamps_ok (P : Nat) T p n cap zs q cap2 _ hl hmax (hc.later hC3) (hz.later hC3) hhk).mono ?_
          rintro e w14 ⟨B, rfl, hst, _, hB⟩
          replace hro := hro.later hB
          replace hC3 := bel_on hC3 hB
          clear hB t3
          go_wp2_with fail
          go_loopw [28] (fun v wr => ∃ i : Nat, v = .int .i64 i ∧ i ≤ n ∧ Below w14.heap.size w14 wr) (fun v _ => n - (intOf v).toNat)
          case atStart => exact ⟨0, rfl, Nat.zero_le _, Below.refl _ _⟩
          case round =>
            obtain ⟨i, rfl, hi, hB⟩ := hrel
            by_cases hlt : i < n
            · have f1 : decide ((i : Int) < (n : Int)) = true := decide_eq_true (by omega)
              have f2 : decide (i < n) = true := decide_eq_true hlt
              have hil : (i : Int) < (n : Int) := by omega
              obtain ⟨w15, hw15⟩ : ∃ w15, w15 = wr := ⟨_, rfl⟩
              subst hw15
              go_wp2_with fail
              go_loopw [29] (fun v wr => ∃ j : Nat, v = .int .i64 j ∧ j ≤ n ∧ Below w14.heap.size w14 wr) (fun v _ => n - (intOf v).toNat)
              case atStart => exact ⟨0, rfl, Nat.zero_le _, hB⟩
              case round =>
                clear hB
                obtain ⟨j, rfl, hj, hB⟩ := hrel
                by_cases hjl : j < n
                · have hjn : (j : Int) < (n : Int) := by omega
                  have hxb : M.row (M.ro T) i < 4096 := by
                    have h1 := M.ro_ok T i
                    rw [M.ro_length] at h1
                    have h2 := pow_lt T.length (by omega)
                    omega
                  have hbt := M.ro_bit T i j
                  obtain ⟨x, hx⟩ : ∃ x, M.row (M.ro T) i = x := ⟨_, rfl⟩
                  obtain ⟨b, off, eb, hb, hcx⟩ := hasI_nat (hro.later hB) (show i < (M.ro T).length by rw [M.ro_length]; omega) hx
                  cases eb
                  rw [hx] at hxb hbt
                  rw [Nat.zero_add] at hcx
                  have hz4 := hst.below hB hst.lt
                  have hzl := hz4.lt
                  have c1 := hz4.cell (k := i * 2) (by rw [M.stl_length]; omega)
                  have c2 := hz4.cell (k := i * 2 + 1) (by rw [M.stl_length]; omega)
                  have c3 := hz4.cell (k := j * 2) (by rw [M.stl_length]; omega)
                  have c4 := hz4.cell (k := j * 2 + 1) (by rw [M.stl_length]; omega)
                  rw [M.stl_T T _ hlt hlt] at c1
                  rw [M.stl_C T _ hlt hlt] at c2
                  rw [M.stl_T T _ hjl hjl] at c3
                  rw [M.stl_C T _ hjl hjl] at c4
                  have hls : x.testBit j = true → M.lsB (M.hT T (M.tm zs) i : Nat) (M.hC T (M.tm zs) i : Nat) (M.hT T (M.tm zs) j : Nat) (M.hC T (M.tm zs) j : Nat) = true := fun h => M.hL_lsB (M.hyb_before hok (M.tm zs) j (by omega) i (hbt.1 h).2)
                  obtain ⟨ti, hti⟩ : ∃ ti, M.hT T (M.tm zs) i = ti := ⟨_, rfl⟩
                  obtain ⟨ci, hci⟩ : ∃ ci, M.hC T (M.tm zs) i = ci := ⟨_, rfl⟩
                  obtain ⟨tj, htj⟩ : ∃ tj, M.hT T (M.tm zs) j = tj := ⟨_, rfl⟩
                  obtain ⟨cj, hcj⟩ : ∃ cj, M.hC T (M.tm zs) j = cj := ⟨_, rfl⟩
                  rw [hti] at c1 hls
                  rw [hci] at c2 hls
                  rw [htj] at c3 hls
                  rw [hcj] at c4 hls
                  clear hti hci htj hcj hbt hx
                  have HBr : Hid (Below w14.heap.size w14 wr) := hB
                  cases hxj : x.testBit j with
                  | false =>
                    have hbit : ∀ W, Calls Tryd.prog 17 #[.int .i64 (x : Nat), .int .i64 (j : Nat)] W fun e w' => e = .returned (.bool false) ∧ W = w' := fun W => by rw [← hxj]; exact bit_big x j W (by omega) (by omega)
                    clear hls hxj
                    go_wp2_with fail
                    go_big_quiet ((go_at_call 17; exact Calls.quiet_of_same ((hbit _).mono (fun e w' h => ⟨h.1, h.2.symm⟩))))
                    go_wp2_with fail
                    go_roundw
                    case rel => exact ⟨j + 1, by go_num, by omega, bel_drN HBr.out _⟩
                    case measure => simp [intOf]; omega
                  | true =>
                    have hbit : ∀ W, Calls Tryd.prog 17 #[.int .i64 (x : Nat), .int .i64 (j : Nat)] W fun e w' => e = .returned (.bool true) ∧ W = w' := fun W => by rw [← hxj]; exact bit_big x j W (by omega) (by omega)
                    have hless : ∀ W, Calls Tryd.prog 18 #[stV (ti : Nat) (ci : Nat), stV (tj : Nat) (cj : Nat)] W fun e w' => e = .returned (.bool true) ∧ Below W.heap.size W w' := fun W => less_ok _ _ _ _ true W (hls hxj)
                    have hmk : ∀ W, Below wr.heap.size wr W → W.cell? ⟨A, i, none⟩ = some (.int .i64 (x : Nat)) ∧ W.cell? ⟨B, i * 2, none⟩ = some (.int .i64 (ti : Nat)) ∧ W.cell? ⟨B, i * 2 + 1, none⟩ = some (.int .i64 (ci : Nat)) ∧ W.cell? ⟨B, j * 2, none⟩ = some (.int .i64 (tj : Nat)) ∧ W.cell? ⟨B, j * 2 + 1, none⟩ = some (.int .i64 (cj : Nat)) := fun W hW =>
                      ⟨(hW.cell (p := ⟨A, i, none⟩) hb).trans hcx, (hW.cell (p := ⟨B, i * 2, none⟩) hzl).trans c1, (hW.cell (p := ⟨B, i * 2 + 1, none⟩) hzl).trans c2, (hW.cell (p := ⟨B, j * 2, none⟩) hzl).trans c3, (hW.cell (p := ⟨B, j * 2 + 1, none⟩) hzl).trans c4⟩
                    clear hls hxj
                    go_wp2_with fail
                    go_region_held3 (fun W => W.cell? ⟨A, i, none⟩ = some (.int .i64 (x : Nat)) ∧ W.cell? ⟨B, i * 2, none⟩ = some (.int .i64 (ti : Nat)) ∧ W.cell? ⟨B, i * 2 + 1, none⟩ = some (.int .i64 (ci : Nat)) ∧ W.cell? ⟨B, j * 2, none⟩ = some (.int .i64 (tj : Nat)) ∧ W.cell? ⟨B, j * 2 + 1, none⟩ = some (.int .i64 (cj : Nat))) (first | exact hmk _ ((Below.refl _ wr).drew) | exact hmk _ (bel_on ((Below.refl _ wr).drew) hB9)) (first | (go_at_call 17; refine (hbit _).mono ?_; rintro e w8 ⟨rfl, rfl⟩) | (go_at_call 18; refine (hless _).mono ?_; rintro e w9 ⟨rfl, hB9⟩))
                    all_goals (have hB10 := bel_on HBr.out (bel_on ((Below.refl _ wr).drew) hB9))
                    all_goals clear hbit hless hmk
                    all_goals go_wp2_with fail
                    all_goals go_roundw
                    all_goals first | exact ⟨j + 1, by go_num, by omega, hB10⟩ | (simp [intOf]; omega)
                · obtain rfl : n = j := by omega
                  go_wp2_with fail
                  go_roundw
                  case rel => exact ⟨i + 1, by go_num, by omega, hB⟩
                  case measure => simp [intOf]; omega
            · obtain rfl : n = i := by omega
              have f1 : decide ((n : Int) < (n : Int)) = false := decide_eq_false (by omega)
              have HC : Hid (Below _ _ _) := bel_on hC3 hB
              clear hB hC3 hlt hst hro
              go_wp2_with fail
              go_ret
              exact ⟨rfl, HC.out⟩
        · obtain ⟨c, hcc⟩ : ∃ c, M.hcode (P : Nat) T zs = c := ⟨_, rfl⟩
          rw [hcc] at hh
          refine (stamps_err (P : Nat) T p n cap zs q m cap2 c _ hl hmax (hc.later hC3) hl2 hmax2 (hz.later hC3) hcc hh).mono ?_
          rintro e w14 ⟨rfl, hB⟩
          have HC : Hid (Below _ _ _) := bel_on hC3 hB
          clear hB hC3 hh t3
          go_wp2_with fail
          go_ret
          exact ⟨rfl, HC.out⟩
  · have hno : M.tcode P T ≠ 0 ∨ 12 < n := by
      by_cases e : M.tcode P T = 0
      · exact .inr (by have : ¬ n ≤ 12 := fun h => h0 ⟨e, h⟩; omega)
      · exact .inl e
    refine (oo_no P T p n cap _ hl hmax (hc.later hC3) hno).mono ?_
    rintro e w4 ⟨rfl, hB4⟩
    have t4 := t3.later hB4 t3.lt
    have hC4 := bel_on hC3 hB4
    have k0 := t4.procs
    have k1 := t4.events
    have kl := t4.lt
    clear t3 hC3 hB4 h0
    go_wp2_with fail
    clear k0 k1 kl
    refine (check_tr P T p n cap _ hl hmax (hc.later hC4)).mono ?_
    by_cases e0 : M.tcode P T = 0
    · have h12 : 12 < n := by rcases hno with h | h; exact absurd e0 h; exact h
      have hd : decide ((12 : Int) < (n : Int)) = true := decide_eq_true (by omega)
      have hd2 : decide (12 < n) = true := decide_eq_true h12
      rw [e0, terr_zero]
      rintro e w5 ⟨rfl, hB5⟩
      have t5 := t4.later hB5 t4.lt
      have k0 := t5.procs
      have k1 := t5.events
      have kl := t5.lt
      have HC : Hid (Below _ _ _) := bel_on hC4 hB5
      clear hno e0 hB5 hC4 t4 t5
      go_wp2_with fail
      go_ret
      exact ⟨rfl, HC.out⟩
    · rw [terr_ne e0]
      rintro e w5 ⟨rfl, hB5⟩
      have HC : Hid (Below _ _ _) := bel_on hC4 hB5
      clear hno e0 hB5 hC4 t4
      go_wp2_with fail
      go_ret
      exact ⟨rfl, HC.out⟩
end Go.Proofs.YtkojkiggdbffhaaDoor
