/- The document's own word on what is wrong with a cut (package whensteadref2, Cut), at whatever numbers; what lay in memory lies as it lay. -/
import Derived.Test.YtlhpkpjcfjdgaaaDoorBCb
import Derived.Test.YtlhpkpjcfjdgaaaDoorTof
import Derived.Deep.CutRange
namespace Go.Proofs.YtlhpkpjcfjdgaaaDoor
open Go.RowKit
namespace M
theorem ofs_evn' (T : List (Int × Int)) (p n : Nat) : (ofs T (p : Int) n).length = evn T p n := by
  induction n with
  | zero => rfl
  | succ n ih =>
    rw [evn_succ]
    by_cases h : pr T n = (p : Int)
    · rw [ofs_hit h, if_pos h, List.length_append, ih]; rfl
    · rw [ofs_miss h, if_neg h, ih]; rfl
theorem ccode_tr {P : Int} {T : List (Int × Int)} {zs : List Int} {c : Nat} (h : tcode P T = c) (hne : c ≠ 0) : ccode P T zs = c := by unfold ccode; rw [h, if_pos hne]
theorem ccode_len {P : Int} {T : List (Int × Int)} {zs : List Int} (h : tcode P T = 0) (hne : (zs.length : Int) ≠ P) : ccode P T zs = 3 := by unfold ccode; rw [if_neg (fun e => e h), if_pos hne]
theorem ccode_is {P : Int} {T : List (Int × Int)} {zs : List Int} (h : tcode P T = 0) (hl : (zs.length : Int) = P) : ccode P T zs = if cTo T zs zs.length = true then 0 else 1 := by unfold ccode; rw [if_neg (fun e => e h), if_neg (fun e => e hl)]
end M
set_option maxRecDepth 100000 in
set_option maxHeartbeats 2000000 in
theorem refCut_ok (P : Int) (T : List (Int × Int)) (p : Option Addr) (n cap : Nat) (zs : List Int) (q : Option Addr) (m cap2 : Nat) (w : World) (hl : T.length = n) (hmax : n ≤ maxLen) (hc : HasE T p w) (hl2 : zs.length = m) (hmax2 : m ≤ maxLen) (hz : HasI zs q w) :
    Calls Tryd.prog 13 #[trV P p n cap, .slice q m cap2] w fun e w' => e = .returned (.int .i64 (M.ccode P T zs : Nat)) ∧ Below w.heap.size w w' := by
  have hB0 : Below w.heap.size w (w.alloc (.cells #[.int .i64 P, .slice p n cap] 24)) := (Below.refl _ _).alloc (Nat.le_refl _) _
  have hcb := hc.later hB0
  have hbox := tbox_new w P p n cap
  have hmm : m ≤ 2 ^ 63 - 1 := hmax2
  go_enter Tryd.func13, Tryd.ntmps13
  go_wp2_with fail
  refine (refTrace_ok P T p n cap _ hl hmax hcb).mono ?_
  obtain ⟨c, hcc⟩ : ∃ c, M.tcode P T = c := ⟨_, rfl⟩
  rw [hcc]
  rintro e w1 ⟨rfl, hB1⟩
  have hb1 := hbox.later hB1 (by simp)
  have hk1 := hb1.procs
  have hk2 := hb1.events
  have hkl := hb1.lt
  have hB2 := bel_on hB0 hB1
  have hz2 := hz.later hB2
  have hc2 := hc.later hB2
  clear hB0 hB1 hbox hcb hc hz
  by_cases hne : c ≠ 0
  · have HC : Hid (M.ccode P T zs = c) := M.ccode_tr hcc hne
    have g1 : ((c : Int) == 0) = false := by simp; omega
    have g2 : (c == 0) = false := by simpa using hne
    clear hcc hne
    go_wp2_with fail
    go_loopw [5, 6] (fun u v wr => u = .int .i64 c ∧ v = .int .i64 0 ∧ wr = w1) (fun _ _ _ => 0)
    case atStart => exact ⟨rfl, rfl, rfl⟩
    case round =>
      obtain ⟨rfl, rfl, rfl⟩ := hrel
      by_cases h0 : 0 < m
      · have f1 : decide ((0 : Int) < (m : Int)) = true := decide_eq_true (by omega)
        go_wp2_with fail
        go_ret
        exact ⟨by rw [HC.out]; rfl, hB2⟩
      · have f1 : decide ((0 : Int) < (m : Int)) = false := decide_eq_false (by omega)
        go_wp2_with fail
        go_ret
        exact ⟨by rw [HC.out]; rfl, hB2⟩
  obtain rfl : c = 0 := Decidable.not_not.1 hne
  clear hne
  have hok := M.tcode_zero.1 hcc
  have hn : n ≤ 24 := hl ▸ hok.len
  have hp1 := hok.p1
  have hp5 := hok.p5
  by_cases hmn : (m : Int) ≠ P
  · have HC : Hid (M.ccode P T zs = 3) := M.ccode_len hcc (by omega)
    have hmn1 : ((m : Int) != P) = true := by simp; omega
    clear hcc hmn
    go_wp2_with fail
    go_loopw [5, 6] (fun u v wr => u = .int .i64 3 ∧ v = .int .i64 0 ∧ wr = w1) (fun _ _ _ => 0)
    case atStart => exact ⟨rfl, rfl, rfl⟩
    case round =>
      obtain ⟨rfl, rfl, rfl⟩ := hrel
      by_cases h0 : 0 < m
      · have f1 : decide ((0 : Int) < (m : Int)) = true := decide_eq_true (by omega)
        go_wp2_with fail
        go_ret
        exact ⟨by rw [HC.out]; rfl, hB2⟩
      · have f1 : decide ((0 : Int) < (m : Int)) = false := decide_eq_false (by omega)
        go_wp2_with fail
        go_ret
        exact ⟨by rw [HC.out]; rfl, hB2⟩
  have hmP : (m : Int) = P := Decidable.not_not.1 hmn
  clear hmn
  have HC : Hid (M.ccode P T zs = if M.cTo T zs m = true then 0 else 1) := by show _ = _; rw [M.ccode_is hcc (by omega), hl2]
  have hmn1 : ((m : Int) != P) = false := by simp; omega
  go_wp2_with fail
  go_loopw [5, 6] (fun u v wr => ∃ i : Nat, v = .int .i64 i ∧ i ≤ m ∧ ((u = .int .i64 0 ∧ Hid (M.cTo T zs i = true)) ∨ (u = .int .i64 1 ∧ Hid (¬ M.cTo T zs m = true))) ∧ Below w1.heap.size w1 wr) (fun _ v _ => m - (intOf v).toNat)
  case atStart => exact ⟨0, rfl, Nat.zero_le _, .inl ⟨rfl, show M.cTo T zs 0 = true from rfl⟩, Below.refl _ _⟩
  case round =>
    clear hk1 hk2
    obtain ⟨i, rfl, hi, hu, hB⟩ := hrel
    have hb2 := hb1.later hB hb1.lt
    have hk1 := hb2.procs
    have hk2 := hb2.events
    have hkl2 := hb2.lt
    have hC2 := bel_on hB2 hB
    rcases hu with ⟨rfl, hT⟩ | ⟨rfl, hT⟩
    · by_cases hlt : i < m
      · have f1 : decide ((i : Int) < (m : Int)) = true := decide_eq_true (by omega)
        have f2 : decide (i < m) = true := decide_eq_true hlt
        obtain ⟨z, hze⟩ : ∃ z, zs[i]?.getD 0 = z := ⟨_, rfl⟩
        obtain ⟨b, off, rfl, hb, hcz⟩ : ∃ b off, q = some ⟨b, off, none⟩ ∧ b < wr.heap.size ∧ wr.cell? ⟨b, off + i, none⟩ = some (.int .i64 z) := by
          obtain ⟨b, off, g1, g2, g3⟩ := hz2.later hB i (by omega)
          exact ⟨b, off, g1, g2, by rw [g3, hze]⟩
        have HZ : Hid (zs[i]?.getD 0 = z) := hze
        have hoe := M.ofs_evn' T i n
        have hele := M.evn_le T i n
        obtain ⟨x, hx⟩ : ∃ x, M.evn T i n = x := ⟨_, rfl⟩
        have HX : Hid (M.evn T i T.length = x) := by show _ = _; rw [hl]; exact hx
        rw [hx] at hoe hele
        clear hx hze
        have hil : (i : Int) < (m : Int) := by omega
        obtain ⟨t, ht⟩ : ∃ t, inB z 0 (x : Nat) = t := ⟨_, rfl⟩
        have hin : ∀ W, Calls Tryd.prog 38 #[.int .i64 z, .int .i64 0, .int .i64 (x : Nat)] W fun e w' => e = .returned (.bool t) ∧ W = w' := fun W => in_is z 0 (x : Nat) t W ht
        have hOf : ∀ W, Below w1.heap.size w1 W → Calls Tryd.prog 39 #[.agg #[.int .i64 P, .slice p n cap], .int .i64 (i : Nat)] W fun e w' => ∃ q c, e = .returned (.slice q x c) ∧ Below W.heap.size W w' := fun W hW => by
          refine (refOf_ok P (i : Nat) T p n cap W hl (hc2.later hW) hn).mono ?_
          rw [hoe]
          rintro e w4 ⟨q4, c4, h1, -, h3⟩
          exact ⟨q4, c4, h1, h3⟩
        have hmk : ∀ W, Below wr.heap.size wr W → W.cell? ⟨w.heap.size, 0, none⟩ = some (.int .i64 P) ∧ W.cell? ⟨w.heap.size, 1, none⟩ = some (.slice p n cap) ∧ W.cell? ⟨b, off + i, none⟩ = some (.int .i64 z) := fun W hW =>
          ⟨(hb2.later hW hb2.lt).procs, (hb2.later hW hb2.lt).events, (hW.cell (p := ⟨b, off + i, none⟩) hb).trans hcz⟩
        have HBr : Hid (Below w1.heap.size w1 wr) := hB
        clear hoe
        cases t with
        | true =>
          have HN : Hid (M.cTo T zs (i + 1) = true) := by
            show M.cTo T zs (i + 1) = true
            simp only [M.cTo, hT.out, Bool.true_and, HZ.out, HX.out, decide_eq_true_eq]
            unfold inB at ht
            simpa using ht
          clear ht hT
          go_wp2_with fail
          go_cut [37] from 28 to 36 (fun u w' => u = .bool false ∧ Below wr.heap.size wr w')
          case first =>
            go_region_held3 (fun W => W.cell? ⟨w.heap.size, 0, none⟩ = some (.int .i64 P) ∧ W.cell? ⟨w.heap.size, 1, none⟩ = some (.slice p n cap) ∧ W.cell? ⟨b, off + i, none⟩ = some (.int .i64 z)) (first | exact hmk _ ((Below.refl _ wr).drew) | exact hmk _ (bel_on ((Below.refl _ wr).drew) hB9)) (first | (go_at_call 39; refine (hOf _ (HBr.out.drew)).mono ?_; rintro e w9 ⟨q4, c4, rfl, hB9⟩) | (go_at_call 38; refine (hin _).mono ?_; rintro e w8 ⟨rfl, rfl⟩))
            all_goals (go_wp2_with fail; go_meet; all_goals exact ⟨rfl, bel_on ((Below.refl _ wr).drew) hB9⟩)
          case rest =>
            obtain ⟨rfl, hBc⟩ := hcut
            have hB5 := bel_on HBr.out hBc
            clear hOf hmk hin
            go_wp2_with fail
            go_roundw
            case rel => exact ⟨i + 1, by go_num, by omega, .inl ⟨rfl, HN⟩, hB5⟩
            case measure => simp [intOf]; omega
        | false =>
          have HN : Hid (¬ M.cTo T zs m = true) := M.cTo_false hlt (by
            rw [HZ.out, HX.out]
            unfold inB at ht
            simpa using ht)
          clear ht hT
          go_wp2_with fail
          go_cut [37] from 28 to 36 (fun u w' => u = .bool true ∧ Below wr.heap.size wr w')
          case first =>
            go_region_held3 (fun W => W.cell? ⟨w.heap.size, 0, none⟩ = some (.int .i64 P) ∧ W.cell? ⟨w.heap.size, 1, none⟩ = some (.slice p n cap) ∧ W.cell? ⟨b, off + i, none⟩ = some (.int .i64 z)) (first | exact hmk _ ((Below.refl _ wr).drew) | exact hmk _ (bel_on ((Below.refl _ wr).drew) hB9)) (first | (go_at_call 39; refine (hOf _ (HBr.out.drew)).mono ?_; rintro e w9 ⟨q4, c4, rfl, hB9⟩) | (go_at_call 38; refine (hin _).mono ?_; rintro e w8 ⟨rfl, rfl⟩))
            all_goals (go_wp2_with fail; go_meet; all_goals exact ⟨rfl, bel_on ((Below.refl _ wr).drew) hB9⟩)
          case rest =>
            obtain ⟨rfl, hBc⟩ := hcut
            have hB5 := bel_on HBr.out hBc
            clear hOf hmk hin
            go_wp2_with fail
            go_roundw
            case rel => exact ⟨i + 1, by go_num, by omega, .inr ⟨rfl, HN⟩, hB5⟩
            case measure => simp [intOf]; omega
      · obtain rfl : m = i := by omega
        have f1 : decide ((m : Int) < (m : Int)) = false := decide_eq_false (by omega)
        have HE : Hid (M.ccode P T zs = 0) := by show _ = _; rw [HC.out, if_pos hT.out]
        clear hT HC hlt
        go_wp2_with fail
        go_ret
        exact ⟨by rw [HE.out]; rfl, hC2⟩
    · have HE : Hid (M.ccode P T zs = 1) := by show _ = _; rw [HC.out, if_neg hT.out]
      clear hT HC
      by_cases hlt : i < m
      · have f1 : decide ((i : Int) < (m : Int)) = true := decide_eq_true (by omega)
        have f2 : decide (i < m) = true := decide_eq_true hlt
        go_wp2_with fail
        go_ret
        exact ⟨by rw [HE.out]; rfl, hC2⟩
      · have f1 : decide ((i : Int) < (m : Int)) = false := decide_eq_false (by omega)
        have f2 : decide (i < m) = false := decide_eq_false hlt
        go_wp2_with fail
        go_ret
        exact ⟨by rw [HE.out]; rfl, hC2⟩
end Go.Proofs.YtlhpkpjcfjdgaaaDoor
