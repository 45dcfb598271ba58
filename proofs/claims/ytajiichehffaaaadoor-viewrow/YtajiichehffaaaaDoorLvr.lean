/- In a row each reads the same (law ViewRow), the walk; written by mk_lvr.py. -/
import Derived.Test.YtajiichehffaaaaDoorLvr0
import Derived.StillTailTactics
import Derived.BigQuiet
namespace Go.Proofs.YtajiichehffaaaaDoor
open Go.RowKit
theorem call_at {P : Program} {f : Nat} {q : Value} (z : Nat) {W : World} {Q : Ending → World → Prop} (h : Calls P f #[q, .int .i64 (z : Nat)] W Q) : Calls P f #[q, .int .i64 (z : Nat)] W Q := h
theorem M.RQ.sub {s : M.Vw} {L K : List (Nat × Nat × Int)} (h : M.RQ s (L ++ K)) : M.RQ s L := ⟨h.vi, fun r hr => h.rd r (List.mem_append_left _ hr)⟩
/-- how things stand while all that was read is looked at -/
structure QE (N S A : Nat) (O : Nat → Prop) (s : M.Vw) (L : List (Nat × Nat × Nat × Int)) (vR : Value) (A2 : Nat) (l : List Nat) (w0 wr : World) : Prop where
  qr : QR N S A O s L vR w0 wr
  row : RowAt 3 wr A2 l
theorem QE.later {N S A : Nat} {O : Nat → Prop} {s : M.Vw} {L : List (Nat × Nat × Nat × Int)} {vR : Value} {A2 : Nat} {l : List Nat} {w0 wr w1 : World} (h : QE N S A O s L vR A2 l w0 wr) (hb : Below wr.heap.size wr w1) : QE N S A O s L vR A2 l w0 w1 := ⟨h.qr.later hb, h.row.below hb h.row.lt⟩
/-- of what was read the k-th -/
def rvA (L : List (Nat × Nat × Nat × Int)) (k : Nat) : Nat × Nat × Nat × Int := L[k]?.getD (0, 0, 0, 0)
theorem rvA_mem {L : List (Nat × Nat × Nat × Int)} {k : Nat} (h : k < L.length) : rvA L k ∈ L := by unfold rvA; rw [List.getElem?_eq_getElem h]; exact List.getElem_mem h
theorem rvc_at {L : List (Nat × Nat × Nat × Int)} {k : Nat} (h : k < L.length) : (rvc L)[k]? = some (.slice (some ⟨(rvA L k).1, 0, none⟩) 3 3) := by simp [rvc, rvA, h]
/-- what the law asks of one that was read -/
theorem row_says {s : M.Vw} {L : List (Nat × Nat × Nat × Int)} {l : List Nat} (h : M.RQ s (L.map (·.2))) (hl : M.SerR (M.behR s) l) {b t o : Nat} {z : Int} (hm : (b, t, o, z) ∈ L) (ht : t ∈ s.ro) : M.lastP s l o (l.idxOf t) = z := by
  obtain ⟨_, _, h3, h4⟩ := h.rd (t, o, z) (List.mem_map.2 ⟨_, hm, rfl⟩)
  rw [M.read_row h.vi hl ht h3]; exact h4.symm
set_option maxRecDepth 100000 in
set_option maxHeartbeats 8000000 in
theorem vr_walk (zs : List Dz) (p : Option Addr) (n cap : Nat) (w : World) (he : Env w) (hl : zs.length = n) (_ : n ≤ maxLen) (hc : HasD zs p w) :
    Calls Tryd.prog 4 #[.slice p n cap] w fun e w' => e = .returned (.bool true) ∧ Below w.heap.size w w' := by
  have hf := viewFact_ok w he
  have HC : Hid (HasD zs p w) := hc
  have HE : Hid (Env w) := he
  have hmk0 := run_make_row' (P := Tryd.prog) 32 3 (.int .i64 0) 8 Tryd.underlying32 Tryd.info3 rfl .i64 .i64 5 (by omega) (by omega)
  rw [show ((5 : Nat) : Int) = 5 from rfl] at hmk0
  obtain ⟨i1, hi1, hy0, hy1, hy2⟩ := infoV_parts infoSV
  obtain ⟨N, hN⟩ : ∃ N, w.heap.size = N := ⟨_, rfl⟩
  have HN : Hid (w.heap.size = N) := hN
  rw [hN]
  rw [hN] at hf
  clear he hc hN
  go_enter Tryd.func4, Tryd.ntmps4
  go_wp2_with fail
  refine hf.mono ?_
  rintro e w1 ⟨rfl, hB1⟩
  have H1 : Hid (Below N w w1 ∧ N ≤ w1.heap.size) := ⟨hB1, by have := hB1.size; rw [HN.out] at this; exact this⟩
  clear hf hB1
  go_wp2_with fail
  refine (vnew_ok (O := fun k => k = w1.heap.size) w1 rfl).mono ?_
  rintro e w2 ⟨S, hS, rfl, hT2, hB2⟩
  rw [← hS] at hT2
  have H2 : Hid _ := QR.start HN.out hT2 (by rw [hS]; exact H1.out.2) (H1.out.1.trans (hB2.mono H1.out.2))
  obtain ⟨A, hA⟩ : ∃ A, w2.heap.size = A := ⟨_, rfl⟩
  clear hT2 hB2 H1
  clear hS
  go_wp2_with fail
  rw [hA] at H2
  clear hmk0 hA
  go_loopw [6, 7] (fun v u wr => ∃ (i : Nat) (O : Nat → Prop) (s : M.Vw) (L : List (Nat × Nat × Nat × Int)), u = .int .i64 (i : Nat) ∧ i ≤ n ∧ i ≤ 60 ∧ L.length ≤ i ∧ Hid (QR N S A O s L v w wr)) (fun _ u _ => 60 - (intOf u).toNat)
  case atStart => exact ⟨0, _, _, _, rfl, Nat.zero_le _, Nat.zero_le _, Nat.le_refl _, H2⟩
  case round =>
    clear H2
    obtain ⟨i, O, s, L, rfl, hi, hi2, hLi, HP⟩ := hrel
    by_cases hlt : i < n ∧ i < 60
    · obtain ⟨h1, h2⟩ := hlt
      have h1i : (i : Int) < n := by omega
      have h2i : (i : Int) < 60 := by omega
      obtain ⟨b, off, rfl, hd⟩ := (HC.out.later (by rw [HN.out]; exact HP.out.bl)) i (by omega)
      obtain ⟨⟨k, t, o, x⟩, hz⟩ : ∃ d, dAt zs i = d := ⟨_, rfl⟩
      rw [hz] at hd
      have c0 := hd.c0
      have c1 := hd.c1
      have c2 := hd.c2
      have c3 := hd.c3
      have hb := hd.lt
      simp only at c0 c1 c2 c3
      have dd := HP.out.deed k t o x
      obtain ⟨B4, hB4⟩ : ∃ B4, wr.heap.size = B4 := ⟨_, rfl⟩
      have HBA : Hid (B4 ≠ A) := (by have := HP.out.ra.lt; omega : B4 ≠ A)
      rw [hB4] at dd
      obtain ⟨wa, hwa⟩ : ∃ wa, wr.alloc (.cells #[.int .i64 k, .int .i64 t, .int .i64 o, .int .i64 x] 31) = wa := ⟨_, rfl⟩
      have Da : DeAt ⟨k, t, o, x⟩ B4 0 wa := by rw [← hwa, ← hB4]; exact deAt_new wr ⟨k, t, o, x⟩
      have q0 : wa.cell? ⟨B4, 0, none⟩ = some (.int .i64 k) := Da.c0
      have q1 : wa.cell? ⟨B4, 1, none⟩ = some (.int .i64 t) := Da.c1
      have q2 : wa.cell? ⟨B4, 2, none⟩ = some (.int .i64 o) := Da.c2
      have q3 : wa.cell? ⟨B4, 3, none⟩ = some (.int .i64 x) := Da.c3
      have lB4 := Da.lt
      rw [hwa] at dd
      have HQ : Hid (M.RQ s (L.map (·.2))) := HP.out.rq
      clear hz hd Da HP
      rcases vwz_cases s k t o x with ⟨hne, hst⟩ | ⟨u, rfl, hu, hh⟩
      · rw [terr_ne hne] at dd
        have HQ2 : Hid ((vwZ s k t o x).1.wr = s.wr ∧ M.RQ (vwZ s k t o x).1 (L.map (·.2))) := by
          rcases hst with e | ⟨u, hu, hd1, e⟩
          · rw [e]; exact ⟨rfl, HQ.out⟩
          · rw [e]; exact ⟨rfl, HQ.out.stop hu hd1⟩
        obtain ⟨n0, hn0⟩ : ∃ n, (vwZ s k t o x).2.1 = n := ⟨_, rfl⟩
        obtain ⟨cd, hcd⟩ : ∃ n, (vwZ s k t o x).2.2 = n := ⟨_, rfl⟩
        obtain ⟨s', hs'⟩ : ∃ n, (vwZ s k t o x).1 = n := ⟨_, rfl⟩
        rw [hn0, hcd, hs'] at dd
        rw [hs'] at HQ2
        clear hne hst hn0 hcd hs'
        go_wp2_with fail
        refine dd.mono ?_
        rintro e w3 ⟨rfl, h3⟩
        have H3 : Hid _ := h3.out.1.keep HQ2.out.1 HQ2.out.2
        clear dd h3 HQ2 c0 c1 c2 c3 q0 q1 q2 q3
        go_wp2_with fail
        go_roundw
        case rel => exact ⟨i + 1, _, _, _, by go_num, by omega, by omega, by omega, H3⟩
        case measure => simp [intOf]; omega
      have hu5 : (u : Int) < 5 := by omega
      have hu4 : (u : Int) ≤ 4 := by omega
      have hu4n : u ≤ 4 := by omega
      by_cases hk3 : k = 3
      case neg =>
        have hk : (k != 3) = true := by simpa using hk3
        have hk' : (k == 3) = false := by simpa using hk3
        have HQ2 : Hid ((vwZ s k (u : Nat) o x).2.2 = 0 ∧ (vwZ s k (u : Nat) o x).1.wr = s.wr ∧ M.RQ (vwZ s k (u : Nat) o x).1 (L.map (·.2))) := by
          rcases hh with ⟨_, hd0, ev⟩ | ⟨_, hd1, hcl, ev⟩ | ⟨e, _⟩
          · rw [ev]; exact ⟨rfl, rfl, HQ.out.beg hu hd0⟩
          · rw [ev]; exact ⟨rfl, rfl, HQ.out.com hu hd1 hcl⟩
          · exact absurd e hk3
        rw [HQ2.out.1] at dd
        rw [terr_zero] at dd
        obtain ⟨n0, hn0⟩ : ∃ n, (vwZ s k (u : Nat) o x).2.1 = n := ⟨_, rfl⟩
        obtain ⟨s', hs'⟩ : ∃ n, (vwZ s k (u : Nat) o x).1 = n := ⟨_, rfl⟩
        rw [hn0, hs'] at dd
        rw [hs'] at HQ2
        clear hh hk3 hn0 hs'
        go_wp2_with fail
        refine dd.mono ?_
        rintro e w3 ⟨rfl, h3⟩
        have H3 : Hid _ := h3.out.1.keep HQ2.out.2.1 HQ2.out.2.2
        have r0 : w3.cell? ⟨B4, 0, none⟩ = some (.int .i64 k) := h3.out.2.c0
        have l3 := h3.out.2.lt
        clear dd h3 HQ2 c0 c1 c2 c3 q0 q1 q2 q3
        go_wp2_with fail
        go_roundw
        case rel => exact ⟨i + 1, _, _, _, by go_num, by omega, by omega, by omega, H3⟩
        case measure => simp [intOf]; omega
      subst hk3
      have hh : s.dg u = 1 ∧ ∃ i : Nat, o = (i : Int) ∧ i < 4 ∧ ((x = 1 ∧ vwZ s 3 (u : Nat) o x = (M.vWr s u i, -1, 0)) ∨ (x = 0 ∧ (s.wr u).testBit i = true ∧ vwZ s 3 (u : Nat) o x = (s, ((u : Nat) : Int), 0)) ∨ (x = 0 ∧ (s.wr u).testBit i = false ∧ vwZ s 3 (u : Nat) o x = (M.vRd s u i, M.lastW s i (s.se u), 0))) := by
        rcases hh with ⟨e, _⟩ | ⟨e, _⟩ | ⟨_, a, b⟩
        · cases e
        · cases e
        · exact ⟨a, b⟩
      obtain ⟨hd1, j, rfl, hj, hh⟩ := hh
      have hj4 : (j : Int) < 4 := by omega
      have hj3 : (j : Int) ≤ 3 := by omega
      have hj3n : j ≤ 3 := by omega
      have HW16 : Hid (s.wr u < 16) := HQ.out.vi.wb u
      rcases hh with ⟨rfl, ev⟩ | ⟨hx0, hbit, ev⟩ | ⟨hx0, hbit, ev⟩
      · rw [ev] at dd
        simp only [terr_zero] at dd
        have HQ2 : Hid (M.RQ (M.vWr s u j) (L.map (·.2))) := HQ.out.wrt hj hd1
        clear hd1 ev
        go_wp2_with fail
        refine dd.mono ?_
        rintro e w3 ⟨rfl, h3⟩
        have r0 : w3.cell? ⟨B4, 0, none⟩ = some (.int .i64 3) := h3.out.2.c0
        have r1 : w3.cell? ⟨B4, 1, none⟩ = some (.int .i64 (u : Nat)) := h3.out.2.c1
        have r2 : w3.cell? ⟨B4, 2, none⟩ = some (.int .i64 (j : Nat)) := h3.out.2.c2
        have r3 : w3.cell? ⟨B4, 3, none⟩ = some (.int .i64 1) := h3.out.2.c3
        have l3 := h3.out.2.lt
        have f1 := h3.out.1.ra.frozen u
        have g1 := h3.out.1.ra.cell (k := u) (by rw [M.r5_len]; exact hu)
        have g1l := h3.out.1.ra.lt
        rw [M.r5_row _ hu] at g1
        have hwi := fun m => with_any (s.wr u) j (w3.drewN m) (by have := HW16.out; omega) (by omega)
        have hrn := (h3.out.1.wrC (v := s.wr u ||| 1 <<< j) rfl hu HQ2.out).later (Below.refl _ _).drew
        obtain ⟨r, hr⟩ : ∃ r, s.wr u = r := ⟨_, rfl⟩
        rw [hr] at g1 hwi hrn
        obtain ⟨z, hz⟩ : ∃ z : Nat, r ||| 1 <<< j = z := ⟨_, rfl⟩
        rw [hz] at hrn
        simp only [hz] at hwi
        have HRN : Hid _ := hrn
        clear dd h3 HQ2 c0 c1 c2 c3 q0 q1 q2 q3 hr hz hrn
        go_wp2_with fail
        go_region_with (go_at_call 12; refine (hwi _).mono ?_; rintro e w' ⟨rfl, rfl⟩)
        all_goals go_wp2_with fail
        all_goals go_roundw
        all_goals first | exact ⟨i + 1, _, _, _, by go_num, by omega, by omega, by omega, HRN⟩ | (simp [intOf]; omega)
      · have hx1 : (x == (1 : Int)) = false := by rw [hx0]; rfl
        rw [ev] at dd
        simp only [terr_zero] at dd
        have hbt := fun W : World => bit_any (s.wr u) j W (by have := HW16.out; omega) (by omega)
        rw [hbit] at hbt
        clear hx0 hd1 ev hbit
        go_wp2_with fail
        refine dd.mono ?_
        rintro e w3 ⟨rfl, h3⟩
        have H3 : Hid _ := h3.out.1.keep rfl HQ.out
        have r0 : w3.cell? ⟨B4, 0, none⟩ = some (.int .i64 3) := h3.out.2.c0
        have r1 : w3.cell? ⟨B4, 1, none⟩ = some (.int .i64 (u : Nat)) := h3.out.2.c1
        have r2 : w3.cell? ⟨B4, 2, none⟩ = some (.int .i64 (j : Nat)) := h3.out.2.c2
        have r3 : w3.cell? ⟨B4, 3, none⟩ = some (.int .i64 x) := h3.out.2.c3
        have l3 := h3.out.2.lt
        have g1 := h3.out.1.ra.cell (k := u) (by rw [M.r5_len]; exact hu)
        have g1l := h3.out.1.ra.lt
        rw [M.r5_row _ hu] at g1
        obtain ⟨r, hr⟩ : ∃ r, s.wr u = r := ⟨_, rfl⟩
        rw [hr] at g1 hbt
        clear dd h3 c0 c1 c2 c3 q0 q1 q2 q3 hr
        go_wp2_with fail
        go_big_quiet (first | (go_at_call 13; exact Calls.quiet_of_same ((hbt _).mono (fun e w' h => ⟨h.1, h.2.symm⟩))))
        go_wp2_with fail
        go_roundw
        case rel => exact ⟨i + 1, _, _, _, by go_num, by omega, by omega, by omega, H3.out.later (below_drewN _ _)⟩
        case measure => simp [intOf]; omega
      · have hx1 : (x == (1 : Int)) = false := by rw [hx0]; rfl
        rw [ev] at dd
        simp only [terr_zero] at dd
        have hbt := fun W : World => bit_any (s.wr u) j W (by have := HW16.out; omega) (by omega)
        rw [hbit] at hbt
        have HQ2 : Hid (M.RQ (M.vRd s u j) (L.map (·.2) ++ [(u, j, M.lastW s j (s.se u))])) := HQ.out.red hu hj hd1
        obtain ⟨z, hz⟩ : ∃ z, M.lastW s j (s.se u) = z := ⟨_, rfl⟩
        rw [hz] at HQ2 dd
        clear hx0 hd1 ev hbit hz
        go_wp2_with fail
        refine dd.mono ?_
        rintro e w3 ⟨rfl, h3⟩
        have h4 := h3.out.1.keep rfl HQ2.out.sub
        have H3 : Hid _ := h4
        have HD : Hid (DeAt ⟨3, (u : Nat), (j : Nat), x⟩ B4 0 w3) := h3.out.2
        have r0 : w3.cell? ⟨B4, 0, none⟩ = some (.int .i64 3) := h3.out.2.c0
        have r1 : w3.cell? ⟨B4, 1, none⟩ = some (.int .i64 (u : Nat)) := h3.out.2.c1
        have r2 : w3.cell? ⟨B4, 2, none⟩ = some (.int .i64 (j : Nat)) := h3.out.2.c2
        have r3 : w3.cell? ⟨B4, 3, none⟩ = some (.int .i64 x) := h3.out.2.c3
        have l3 := h3.out.2.lt
        have g1 := h3.out.1.ra.cell (k := u) (by rw [M.r5_len]; exact hu)
        have g1l := h3.out.1.ra.lt
        rw [M.r5_row _ hu] at g1
        obtain ⟨r, hr⟩ : ∃ r, s.wr u = r := ⟨_, rfl⟩
        rw [hr] at g1 hbt
        obtain ⟨pR, cR, rfl⟩ := owns_slice h4.own
        clear dd h3 h4 c0 c1 c2 c3 q0 q1 q2 q3 hr
        go_wp2_with fail
        go_big_quiet (first | (go_at_call 13; exact Calls.quiet_of_same ((hbt _).mono (fun e w' h => ⟨h.1, h.2.symm⟩))))
        obtain ⟨wd, hwd⟩ : ∃ wd, w3.drewN nq = wd := ⟨_, rfl⟩
        have hB5 : Below w3.heap.size w3 wd := by rw [← hwd]; exact below_drewN _ _
        have H5 : Hid _ := H3.out.later hB5
        have HD5 := HD.out.later hB5 HD.out.lt
        have r0 : wd.cell? ⟨B4, 0, none⟩ = some (.int .i64 3) := HD5.c0
        have r1 : wd.cell? ⟨B4, 1, none⟩ = some (.int .i64 (u : Nat)) := HD5.c1
        have r2 : wd.cell? ⟨B4, 2, none⟩ = some (.int .i64 (j : Nat)) := HD5.c2
        have l5 := HD5.lt
        simp only [hwd]
        clear hB5 HD5 HD H3 r3 l3 g1 g1l hbt hwd
        obtain ⟨wb, hwb⟩ : ∃ wb, wd.alloc (.cells #[.int .i64 (u : Nat), .int .i64 (j : Nat), .int .i64 z] 3) = wb := ⟨_, rfl⟩
        have HOWN : Hid (wb.ownsRow N 32 1 (.slice pR L.length cR) L.length (rvc L)) := by
          show World.ownsRow _ _ _ _ _ _ _
          rw [← hwb]; exact owns_below H5.out.own (bel_al (Below.refl _ _) _)
        have hnsb : N ≤ wb.heap.size := by have := H5.out.ns; rw [← hwb]; simp; omega
        have HSB : Hid (wb.heap.size = wd.heap.size + 1) := by show _ = _; rw [← hwb]; simp
        have HWB : Hid (wd.alloc (.cells #[.int .i64 (u : Nat), .int .i64 (j : Nat), .int .i64 z] 3) = wb) := hwb
        go_wp2_with (at_builtin; refine wpList_append_lies _ rfl _ _ 36 rfl N 32 i1 (.slice none 0 0) 1 24 Tryd.underlying36 hi1 hy0 hy1 hy2 rfl (by decide) (.slice pR L.length cR) L.length (rvc L) rfl (HOWN.out.alloc _) ⟨wb.heap.size, 0, none⟩ 1 1 [.slice (some ⟨wd.heap.size, 0, none⟩) 3 3] rfl rfl (World.news_of_block (cs := #[.slice (some ⟨wd.heap.size, 0, none⟩) 3 3]) (t := 32) (fr := (0, 0)) (World.alloc_heap_new wb _)) (by simp [Value.oneCell']) (by omega) (by unfold maxLen; omega) (by omega) (by simp; omega) (wb.heap.size + 1) (by simp) ?_)
        intro g5 c5 w5 ho5 hg5 hat5 lt5
        have H6 : Hid _ := H5.out.app (t := u) (o := j) (z := z) (x := .cells #[.slice (some ⟨wd.heap.size, 0, none⟩) 3 3] 32) (w5 := w5) (g := g5) (c := c5) (C := wd.heap.size) HQ2.out rfl ho5 (by rw [HWB.out]; exact hg5) (by rw [← HSB.out]; exact hat5)
        clear HOWN HSB HWB ho5 hg5 hat5 H5 hwb hnsb r0 r1 r2 l5
        go_wp2_with fail
        go_roundw
        case rel => exact ⟨i + 1, _, _, _, by go_num, by omega, by omega, by rw [List.length_append]; show L.length + 1 ≤ _; omega, H6⟩
        case measure => simp [intOf]; omega
    · have hdec : (n : Int) ≤ (i : Int) ∨ ((i : Int) < (n : Int) ∧ (60 : Int) ≤ (i : Int)) := by
        by_cases hn : i < n
        · exact .inr ⟨by omega, by omega⟩
        · exact .inl (by omega)
      clear hlt
      have HI : Hid (M.VI s) := HP.out.rq.vi
      have HEr : Hid (Env wr) := HE.out.later (by rw [HN.out]; exact HP.out.bl)
      by_cases hr : M.Ring (M.behR s)
      · have hsr := vserial_ring wr HEr.out HP.out.vv HI.out hr
        clear hr
        rcases hdec with hd1 | ⟨hd1, hd2⟩
        all_goals
          go_wp2_with fail
          refine hsr.mono ?_
          rintro e w3 ⟨rfl, hB3⟩
          have H3 : Hid _ := HP.out.later hB3
          have hcm := vcommitted_ok w3 H3.out.vv
          clear hsr hB3
          go_wp2_with fail
          refine hcm.mono ?_
          rintro e w4 ⟨rfl, hB4⟩
          have H4 : Hid (Below N w w4) := (H3.out.later hB4).bl
          clear hcm hB4
          go_wp2_with fail
          go_ret
          exact ⟨rfl, H4.out⟩
      · have hsr := vserial_ok wr HEr.out HP.out.vv HI.out hr
        have hSR := (M.first_serR (M.behR_ok HI.out) hr).1
        have hL5 : (M.firstR (M.turned (M.behR s))).length = 5 := by rw [M.firstR_length, M.turned_length, M.behR_len]
        obtain ⟨l, hll⟩ : ∃ l, M.firstR (M.turned (M.behR s)) = l := ⟨_, rfl⟩
        rw [hll] at hsr hSR hL5
        have HSR : Hid (M.SerR (M.behR s) l ∧ l.length = 5) := ⟨hSR, hL5⟩
        clear hr hSR hL5 hll
        obtain ⟨pR, cR, rfl⟩ := owns_slice HP.out.own
        rcases hdec with hd1 | ⟨hd1, hd2⟩
        all_goals
          go_wp2_with fail
          refine hsr.mono ?_
          rintro e w3 ⟨A2, rfl, hrow3, _, hB3⟩
          have H3 : Hid (QE N S A O s L (.slice pR L.length cR) A2 l w w3) := ⟨HP.out.later hB3, hrow3⟩
          have hcm := vcommitted_ok w3 H3.out.qr.vv
          clear hsr hB3 hrow3
          have hcl := M.comS_lt s
          have HCB : Hid (∀ t, (M.comS s).testBit t = decide (t ∈ s.ro)) := M.comS_bit HI.out
          obtain ⟨q, hq⟩ : ∃ q, M.comS s = q := ⟨_, rfl⟩
          rw [hq] at hcm hcl HCB
          have hq31 : (q : Int) ≤ 31 := by omega
          have hq31n : q ≤ 31 := by omega
          clear hq
          go_wp2_with fail
          refine hcm.mono ?_
          rintro e w4 ⟨rfl, hB4⟩
          have H4 : Hid (QE N S A O s L (.slice pR L.length cR) A2 l w w4) := H3.out.later hB4
          clear hcm hB4 H3
          obtain ⟨m, hm⟩ : ∃ m, L.length = m := ⟨_, rfl⟩
          have HM : Hid (L.length = m) := hm
          rw [hm] at H4 ⊢
          have hm60 : m ≤ 60 := by omega
          clear HP HEr hLi hm
          go_wp2_with fail
          go_loopw [14] (fun v wr => ∃ k : Nat, v = .int .i64 (k : Nat) ∧ k ≤ m ∧ Hid (QE N S A O s L (.slice pR m cR) A2 l w wr)) (fun v _ => m - (intOf v).toNat)
          case atStart => exact ⟨0, rfl, Nat.zero_le _, H4⟩
          case round =>
            clear H4
            obtain ⟨k, rfl, hk, H5⟩ := hrel
            by_cases hkm : k < m
            case neg =>
              obtain rfl : m = k := by omega
              go_wp2_with fail
              go_ret
              exact ⟨rfl, H5.out.qr.bl⟩
            have hki : (k : Int) < (m : Int) := by omega
            have hkL : k < L.length := by rw [HM.out]; exact hkm
            obtain ⟨gR, rfl, lgR, cK⟩ := owns_at (by have := H5.out.qr.own; rw [HM.out] at this; exact this) hkm (rvc_at hkL)
            have hmem := rvA_mem hkL
            obtain ⟨⟨bb, t, o, z⟩, hrv⟩ : ∃ r, rvA L k = r := ⟨_, rfl⟩
            rw [hrv] at cK hmem
            have HRV : Hid (rvA L k = (bb, t, o, z)) := hrv
            have hY := H5.out.qr.each _ hmem
            have y0 := hY.cell (k := 0) (by simp)
            have y1 := hY.cell (k := 1) (by simp)
            have y2 := hY.cell (k := 2) (by simp)
            have lbb := hY.lt
            simp only [rowY, List.getElem?_cons_zero, List.getElem?_cons_succ, Option.getD_some] at y0 y1 y2 cK lbb
            have HMM : Hid ((bb, t, o, z) ∈ L) := hmem
            have hrd := H5.out.qr.rq.rd (t, o, z) (List.mem_map.2 ⟨_, hmem, rfl⟩)
            have ht5 : t < 5 := hrd.1
            have ho4 : o < 4 := hrd.2.1
            have hbt := fun W : World => bit_any q t W (by omega) (by omega)
            clear hrv hmem hY hrd hkL
            cases hqt : q.testBit t with
            | false =>
              rw [hqt] at hbt
              clear hqt
              go_wp2_with fail
              refine (hbt _).mono ?_
              rintro e w6 ⟨rfl, rfl⟩
              clear cK y0 y1 y2
              go_wp2_with fail
              go_roundw
              case rel => exact ⟨k + 1, by go_num, by omega, H5⟩
              case measure => simp [intOf]; omega
            | true =>
            rw [hqt] at hbt
            have htr : t ∈ s.ro := of_decide_eq_true ((HCB.out t).symm.trans hqt)
            have HTR : Hid (t ∈ s.ro) := htr
            clear htr
            have hIDX : l.idxOf t < 5 := by
              have := (M.idx_row ((HSR.out.1.mem t).2 (by rw [M.behR_len]; exact ht5))).2
              rw [HSR.out.2] at this; exact this
            obtain ⟨I, hI⟩ : ∃ I, l.idxOf t = I := ⟨_, rfl⟩
            rw [hI] at hIDX
            have HIX : Hid (l.idxOf t = I) := hI
            clear hqt hI
            go_wp2_with fail
            refine (hbt _).mono ?_
            rintro e w6 ⟨rfl, rfl⟩
            clear cK y0 y1 y2 hbt
            go_wp2_with fail
            go_loopw [15, 16] (fun v u wr => ∃ (pp : Nat) (zz : Int), u = .int .i64 (pp : Nat) ∧ pp ≤ I ∧ v = .int .i64 zz ∧ Hid (M.lastP s l o pp = zz) ∧ Hid (QE N S A O s L (.slice (some ⟨gR, 0, none⟩) m cR) A2 l w wr)) (fun _ u _ => I - (intOf u).toNat)
            case atStart => exact ⟨0, _, rfl, Nat.zero_le _, rfl, (rfl : M.lastP s l o 0 = _), H5⟩
            case round =>
              clear H5
              obtain ⟨pp, zz, rfl, hpp, rfl, HZ, H5⟩ := hrel
              have hp5 : (pp : Int) < 5 := by omega
              have hkL : k < L.length := by rw [HM.out]; exact hkm
              obtain ⟨_, e0, lgR, cK⟩ := owns_at (by have := H5.out.qr.own; rw [HM.out] at this; exact this) hkm (rvc_at hkL)
              cases e0
              rw [HRV.out] at cK
              have hY := H5.out.qr.each _ HMM.out
              have y0 := hY.cell (k := 0) (by simp)
              have y1 := hY.cell (k := 1) (by simp)
              have y2 := hY.cell (k := 2) (by simp)
              have lbb := hY.lt
              simp only [rowY, List.getElem?_cons_zero, List.getElem?_cons_succ, Option.getD_some] at y0 y1 y2 cK lbb
              have x0 := H5.out.row.cell (k := pp) (by rw [HSR.out.2]; omega)
              have lA2 := H5.out.row.lt
              have hlp5 : M.row l pp < 5 := by
                have := (HSR.out.1.mem _).1 (M.row_memV (show pp < l.length by rw [HSR.out.2]; omega))
                rw [M.behR_len] at this; exact this
              have HLP : Hid (M.lastP s l o (pp + 1) = if s.dg (M.row l pp) = 2 ∧ (s.wr (M.row l pp)).testBit o = true then ((M.row l pp : Nat) : Int) else M.lastP s l o pp) := (rfl : M.lastP s l o (pp + 1) = _)
              have HRW : Hid (pp < l.length → M.row l pp = t → pp = I) := fun h1 h2 => by rw [← HIX.out, ← h2, M.row_idx HSR.out.1.nd h1]
              have HIR : Hid (pp = I → M.row l pp = t) := fun h => by
                rw [h, ← HIX.out]
                exact (M.idx_row ((HSR.out.1.mem t).2 (by rw [M.behR_len]; exact ht5))).1
              obtain ⟨lp, hlp⟩ : ∃ x, M.row l pp = x := ⟨_, rfl⟩
              rw [hlp] at x0 hlp5 HLP HRW HIR
              have hlp4 : (lp : Int) ≤ 4 := by omega
              have hlp4n : lp ≤ 4 := by omega
              have hlp5i : (lp : Int) < 5 := by omega
              clear hY hkL hlp
              by_cases hpI : pp = I
              · have hlt : lp = t := HIR.out hpI
                have b1 : ((lp : Int) != (t : Int)) = false := by rw [hlt]; simp
                have HFI : Hid (zz = z) := by
                  show zz = z
                  rw [← HZ.out, hpI, ← HIX.out]
                  exact row_says H5.out.qr.rq HSR.out.1 HMM.out HTR.out
                have b2 : (zz != z) = false := by rw [HFI.out]; simp
                clear hlt HLP HRW HIR hpI
                go_wp2_with fail
                go_big_quiet (fail)
                obtain ⟨wd, hwd⟩ : ∃ wd, wr.drewN nq = wd := ⟨_, rfl⟩
                have H7 : Hid (QE N S A O s L (.slice (some ⟨gR, 0, none⟩) m cR) A2 l w wd) := by rw [← hwd]; exact H5.out.later (below_drewN _ _)
                simp only [hwd]
                clear cK y0 y1 y2 lgR lbb x0 lA2 hwd
                have hkL : k < L.length := by rw [HM.out]; exact hkm
                obtain ⟨_, e0, lgR, cK⟩ := owns_at (by have := H7.out.qr.own; rw [HM.out] at this; exact this) hkm (rvc_at hkL)
                cases e0
                rw [HRV.out] at cK
                have hY := H7.out.qr.each _ HMM.out
                have y2 := hY.cell (k := 2) (by simp)
                have lbb := hY.lt
                simp only [rowY, List.getElem?_cons_zero, List.getElem?_cons_succ, Option.getD_some] at y2 cK lbb
                clear hY hkL
                go_wp2_with fail
                go_roundw
                case rel => exact ⟨k + 1, by go_num, by omega, H7⟩
                case measure => simp [intOf]; omega
              have hne : lp ≠ t := fun h => hpI (HRW.out (by rw [HSR.out.2]; omega) h)
              have b1 : ((lp : Int) != (t : Int)) = true := by simp; omega
              have hpI2 : pp < I := by omega
              have hbS := fun W : World => bit_any q lp W (by omega) (by omega)
              have hbW := fun W : World => bit_any (s.wr lp) o W (by have := H5.out.qr.rq.vi.wb lp; omega) (by omega)
              have HDG : Hid (s.dg lp = 2 ↔ q.testBit lp = true) := by rw [HCB.out lp, decide_eq_true_eq]; exact (H5.out.qr.rq.vi.ro lp).symm
              clear hne HRW HIR hpI
              go_wp2_with fail
              go_big_quiet (fail)
              obtain ⟨wd, hwd⟩ : ∃ wd, wr.drewN nq = wd := ⟨_, rfl⟩
              have H7 : Hid (QE N S A O s L (.slice (some ⟨gR, 0, none⟩) m cR) A2 l w wd) := by rw [← hwd]; exact H5.out.later (below_drewN _ _)
              have x7 : wd.cell? ⟨A2, pp, none⟩ = some (.int .i64 (lp : Nat)) := by rw [← hwd]; exact ((below_drewN wr nq).cell (p := ⟨A2, pp, none⟩) lA2).trans x0
              simp only [hwd]
              clear cK y0 y1 y2 lgR lbb x0 lA2 hwd H5
              have hkL : k < L.length := by rw [HM.out]; exact hkm
              obtain ⟨_, e0, lgR, cK⟩ := owns_at (by have := H7.out.qr.own; rw [HM.out] at this; exact this) hkm (rvc_at hkL)
              cases e0
              rw [HRV.out] at cK
              have hY := H7.out.qr.each _ HMM.out
              have y1 := hY.cell (k := 1) (by simp)
              have lbb := hY.lt
              simp only [rowY, List.getElem?_cons_zero, List.getElem?_cons_succ, Option.getD_some] at y1 cK lbb
              have lA2 := H7.out.row.lt
              have v0 := H7.out.qr.ra.cell (k := lp) (by rw [M.r5_len]; exact hlp5)
              rw [M.r5_row _ hlp5] at v0
              have lA := H7.out.qr.ra.lt
              clear hY hkL
              obtain ⟨xw, hxw⟩ : ∃ x, s.wr lp = x := ⟨_, rfl⟩
              rw [hxw] at v0 hbW HLP
              rw [HZ.out] at HLP
              clear hxw HZ
              cases e1 : q.testBit lp with
              | false =>
                rw [e1] at hbS
                have HZ : Hid (M.lastP s l o (pp + 1) = zz) := by show _ = _; rw [HLP.out, if_neg (fun h => by rw [HDG.out.1 h.1] at e1; cases e1)]
                clear HLP HDG e1
                go_wp2_with fail
                go_big_quiet (first | (go_at_call 13; first | (with_reducible refine call_at (z := lp) ?_; exact Calls.quiet_of_same ((hbS _).mono (fun e w' h => ⟨h.1, h.2.symm⟩))) | (with_reducible refine call_at (z := o) ?_; exact Calls.quiet_of_same ((hbW _).mono (fun e w' h => ⟨h.1, h.2.symm⟩)))))
                go_wp2_with fail
                go_roundw
                case rel => exact ⟨pp + 1, _, by go_num, by omega, rfl, HZ, H7.out.later (below_drewN _ _)⟩
                case measure => simp [intOf]; omega
              | true =>
              rw [e1] at hbS
              cases e2 : xw.testBit o with
              | false =>
                rw [e2] at hbW
                have HZ : Hid (M.lastP s l o (pp + 1) = zz) := by show _ = _; rw [HLP.out, if_neg (fun h => by rw [h.2] at e2; cases e2)]
                clear HLP HDG e1 e2
                go_wp2_with fail
                go_big_quiet (first | (go_at_call 13; first | (with_reducible refine call_at (z := lp) ?_; exact Calls.quiet_of_same ((hbS _).mono (fun e w' h => ⟨h.1, h.2.symm⟩))) | (with_reducible refine call_at (z := o) ?_; exact Calls.quiet_of_same ((hbW _).mono (fun e w' h => ⟨h.1, h.2.symm⟩)))))
                go_wp2_with fail
                go_roundw
                case rel => exact ⟨pp + 1, _, by go_num, by omega, rfl, HZ, H7.out.later (below_drewN _ _)⟩
                case measure => simp [intOf]; omega
              | true =>
                rw [e2] at hbW
                have HZ : Hid (M.lastP s l o (pp + 1) = ((lp : Nat) : Int)) := by show _ = _; rw [HLP.out, if_pos ⟨HDG.out.2 e1, e2⟩]
                clear HLP HDG e1 e2
                go_wp2_with fail
                go_big_quiet (first | (go_at_call 13; first | (with_reducible refine call_at (z := lp) ?_; exact Calls.quiet_of_same ((hbS _).mono (fun e w' h => ⟨h.1, h.2.symm⟩))) | (with_reducible refine call_at (z := o) ?_; exact Calls.quiet_of_same ((hbW _).mono (fun e w' h => ⟨h.1, h.2.symm⟩)))))
                obtain ⟨wf, hwf⟩ : ∃ wf, wd.drewN nq = wf := ⟨_, rfl⟩
                have H8 : Hid (QE N S A O s L (.slice (some ⟨gR, 0, none⟩) m cR) A2 l w wf) := by rw [← hwf]; exact H7.out.later (below_drewN _ _)
                have x8 : wf.cell? ⟨A2, pp, none⟩ = some (.int .i64 (lp : Nat)) := by rw [← hwf]; exact ((below_drewN wd nq).cell (p := ⟨A2, pp, none⟩) lA2).trans x7
                have lA28 := H8.out.row.lt
                simp only [hwf]
                clear hwf x7 lA2 H7
                go_wp2_with fail
                go_roundw
                case rel => exact ⟨pp + 1, _, by go_num, by omega, rfl, HZ, H8⟩
                case measure => simp [intOf]; omega
end Go.Proofs.YtajiichehffaaaaDoor
