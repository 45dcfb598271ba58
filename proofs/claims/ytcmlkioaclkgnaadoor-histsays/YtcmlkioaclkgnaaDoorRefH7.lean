/- The document's row (whensteadref3, GoodRow). Written by mk_refh7.py. -/
import Derived.Test.YtcmlkioaclkgnaaDoorRefH6
namespace Go.Proofs.YtcmlkioaclkgnaaDoor
open Go.RowKit

theorem rest_all (all : Bool) (h : List M.HOp) (p : Option Addr) (n cap : Nat) (pp : Option Addr) (capp X base : Nat) (hl : h.length = n) (hk : HOk h) : ∀ k, RestSpec all h p n cap pp capp X base k
  | 0 => rest_zero all h p n cap pp capp X base
  | k + 1 => rest_step all h p n cap pp capp X base k hl hk (rest_all all h p n cap pp capp X base hl hk k)
namespace M
/-- what stands ahead of op j among the first k -/
def preTo (all : Bool) (h : List HOp) (j k : Nat) : Nat := cnt01 k fun i => aheadB all (hop h i) (hop h j)
theorem preTo_all {all : Bool} {h : List HOp} {j n : Nat} (hl : h.length = n) : preTo all h j n = preS all h j := by rw [← hl]; rfl
theorem preTo_zero (all : Bool) (h : List HOp) (j : Nat) : preTo all h j 0 = 0 := rfl
theorem preTo_bit (all : Bool) (h : List HOp) (j k : Nat) : (preTo all h j k).testBit k = false := by
  unfold preTo
  rw [cnt01_bit, decide_eq_false (Nat.lt_irrefl k), Bool.false_and]
theorem preTo_lt (all : Bool) (h : List HOp) (j k : Nat) : preTo all h j k < 2 ^ k := by
  apply Nat.lt_pow_two_of_testBit
  intro i hi
  unfold preTo
  rw [cnt01_bit, decide_eq_false (by omega), Bool.false_and]
theorem cnt01_miss {k : Nat} {f : Nat → Bool} (e : f k = false) : cnt01 (k + 1) f = cnt01 k f := by simp only [cnt01, e]; simp
theorem cnt01_hit {k : Nat} {f : Nat → Bool} (e : f k = true) : cnt01 (k + 1) f = cnt01 k f ||| 1 <<< k := by simp only [cnt01, e]; simp
theorem preTo_miss {all : Bool} {h : List HOp} {j k : Nat} (e : aheadB all (hop h k) (hop h j) = false) : preTo all h j (k + 1) = preTo all h j k := cnt01_miss (f := fun i => aheadB all (hop h i) (hop h j)) e
end M
theorem preTo_hit {all : Bool} {h : List M.HOp} {j k : Nat} (e : M.aheadB all (M.hop h k) (M.hop h j) = true) : M.preTo all h j (k + 1) = M.preTo all h j k + 2 ^ k := by
  rw [add_pow_or _ _ (M.preTo_bit all h j k)]
  exact M.cnt01_hit (f := fun i => M.aheadB all (M.hop h i) (M.hop h j)) e
theorem infoRows : (Tryd.prog.info? 55).map (fun i => (i.zero, i.size, i.bytes)) = some (some (.slice none 0 0), 1, 24) := by kernel_rfl
theorem preL_take {all : Bool} {h : List M.HOp} {j : Nat} (hj : j < h.length) : (preL all h).take (j + 1) = (preL all h).take j ++ [M.preS all h j] := by
  rw [List.take_add_one]
  unfold preL
  simp [hj]

set_option maxRecDepth 100000 in
set_option maxHeartbeats 16000000 in
theorem goodRow_over (h : List M.HOp) (p : Option Addr) (n cap : Nat) (w : World) (hl : h.length = n) (hk : HOk h) (hc : HasO (hz h) p w) :
    Calls Tryd.prog 7 #[.slice p n cap, .bool true] w fun e w' => (∀ l, M.best true h n 0 (fun _ => 0) = some l → ∃ q cq, e = .returned (.tuple #[.slice q n cq, .bool true]) ∧ HasI (ints l) q w') ∧
      (M.best true h n 0 (fun _ => 0) = none → e = .returned (.tuple #[.slice none 0 0, .bool false])) ∧ Below w.heap.size w w' := by
  have hn10 : n ≤ 10 := hl ▸ hk.len
  obtain ⟨i0, hi0, hiz0, hiz1, hiz2⟩ := infoIh_parts infoIh
  go_enter Tryd.func7, Tryd.ntmps7
  go_wp2_with fail
  go_loopw [6, 7] (fun pv jv wr => ∃ j : Nat, jv = .int .i64 j ∧ j ≤ n ∧ wr.ownsRow w.heap.size 3 1 pv j (icells ((preL true h).take j)) ∧ Below w.heap.size w wr) (fun _ jv _ => n - (intOf jv).toNat)
  case atStart => exact ⟨0, rfl, Nat.zero_le _, ⟨rfl, .inl ⟨rfl, rfl⟩⟩, Below.refl _ _⟩
  case round =>
    obtain ⟨j, rfl, hj, hown, hB⟩ := hrel
    obtain ⟨wo, hwo⟩ : ∃ wo, wo = wr := ⟨_, rfl⟩
    subst hwo
    obtain ⟨pv, cv, rfl⟩ := owns_slice hown
    by_cases hlt : j < n
    · have hco := hc.later hB
      obtain ⟨b, off, rfl, hop⟩ := hco j (by rw [hz_len]; omega)
      rw [oAt_hzO] at hop
      obtain ⟨J, hJ⟩ : ∃ J, M.hop h j = J := ⟨_, rfl⟩
      have HJ : Hid (M.hop h j = J) := hJ
      rw [hJ] at hop
      obtain ⟨pj, oj, rj, vj, fj, tj⟩ := J
      have HOJ : Hid (OpAt (hzO ⟨pj, oj, rj, vj, fj, tj⟩) b (off + j * 6) wo) := hop
      have hjn : (j : Int) < (n : Int) := by omega
      have HBO : Hid (Below w.heap.size w wo) := hB
      have HCO : Hid (HasO (hz h) (some ⟨b, off, none⟩) wo) := hco
      have HOWN : Hid _ := hown
      clear hop hJ hc hco hB hown
      go_wp2_with fail
      go_loopw [8, 9] (fun sv iv wr => ∃ i : Nat, iv = .int .i64 i ∧ sv = .int .i64 (M.preTo true h j i : Nat) ∧ i ≤ n ∧ Below wo.heap.size wo wr) (fun _ iv _ => n - (intOf iv).toNat)
      case atStart => exact ⟨0, rfl, rfl, Nat.zero_le _, Below.refl _ _⟩
      case round =>
        obtain ⟨i, rfl, rfl, hi, hB⟩ := hrel
        have hsl := M.preTo_lt true h j i
        by_cases hin : i < n
        · have hp10 : 2 ^ i ≤ 512 := by
            have : 2 ^ i ≤ 2 ^ 9 := Nat.pow_le_pow_right (by omega) (by omega)
            omega
          have hhit := @preTo_hit true h j i
          have hmiss := @M.preTo_miss true h j i
          obtain ⟨p2, hp2⟩ : ∃ p2, 2 ^ i = p2 := ⟨_, rfl⟩
          have HP2 : Hid (2 ^ i = p2) := hp2
          obtain ⟨s, hs⟩ : ∃ s, M.preTo true h j i = s := ⟨_, rfl⟩
          rw [hs, hp2] at hhit hsl
          rw [hs] at hmiss ⊢
          rw [hp2] at hp10
          obtain ⟨s2, hs2⟩ : ∃ s2, s + p2 = s2 := ⟨_, rfl⟩
          rw [hs2] at hhit
          have hsr : (s : Int) + (p2 : Int) = (s2 : Int) := by omega
          have hwr : IntKind.i64.wrap ((s2 : Nat) : Int) = (s2 : Int) := i64_wrap_nat s2 (by omega)
          have hcall := fun W => pow2_any i p2 W (by omega) HP2
          obtain ⟨_, _, e0, hopi⟩ := (HCO.out.later hB) i (by rw [hz_len]; omega)
          cases e0
          rw [oAt_hzO] at hopi
          obtain ⟨I, hI⟩ : ∃ I, M.hop h i = I := ⟨_, rfl⟩
          rw [HJ.out, hI] at hhit hmiss
          rw [hI] at hopi
          obtain ⟨pi, oi, ri, vi, fi, ti⟩ := I
          simp only [hzO] at hopi
          obtain ⟨hbi, k0, k1, k2, k3, k4, k5⟩ := hopi
          obtain ⟨hbj, y0, y1, y2, y3, y4, y5⟩ := HOJ.out.later hB HOJ.out.lt
          simp only [hzO] at y0 y1 y2 y3 y4 y5
          have hini : (i : Int) < (n : Int) := by omega
          have HHIT : Hid _ := hhit
          have HMISS : Hid _ := hmiss
          clear hs hp2 hs2 hI hhit hmiss hsl
          by_cases htf : ti ≤ fj
          · have hd1 : decide ((ti : Int) ≤ (fj : Int)) = true := decide_eq_true (by omega)
            have hd1n : decide (ti ≤ fj) = true := decide_eq_true htf
            have HAH : Hid (M.aheadB true ⟨pi, oi, ri, vi, fi, ti⟩ ⟨pj, oj, rj, vj, fj, tj⟩ = true) := by show _ = _; unfold M.aheadB; rw [Bool.true_or, Bool.and_true]; exact decide_eq_true htf
            clear htf
            go_wp2_with fail
            go_big_quiet (fail)
            go_wp2_with fail
            refine (hcall _).mono ?_
            rintro e w3 ⟨rfl, rfl⟩
            go_wp2_with fail
            go_roundw
            case rel => exact ⟨i + 1, by go_num, by rw [HHIT.out HAH.out], by omega, bel_drN hB _⟩
            case measure => simp [intOf]; omega
          · have hd1 : decide ((ti : Int) ≤ (fj : Int)) = false := decide_eq_false (by omega)
            have hd1n : decide (ti ≤ fj) = false := decide_eq_false htf
            have HAH : Hid (M.aheadB true ⟨pi, oi, ri, vi, fi, ti⟩ ⟨pj, oj, rj, vj, fj, tj⟩ = false) := by show _ = _; unfold M.aheadB; rw [Bool.true_or, Bool.and_true]; exact decide_eq_false htf
            clear htf
            go_wp2_with fail
            go_big_quiet (fail)
            go_wp2_with fail
            go_roundw
            case rel => exact ⟨i + 1, by go_num, by rw [HMISS.out HAH.out], by omega, bel_drN hB _⟩
            case measure => simp [intOf]; omega
        · obtain rfl : i = n := by omega
          have hps := M.preTo_all (all := true) (j := j) hl
          have htk := preL_take (all := true) (h := h) (j := j) (by omega)
          obtain ⟨s, hs⟩ : ∃ s, M.preTo true h j i = s := ⟨_, rfl⟩
          rw [hs]
          rw [← hps, hs] at htk
          have HTK : Hid _ := htk
          have hown := owns_below HOWN.out hB
          have hBB := bel_on HBO.out hB
          have hszr := hBB.size
          clear hps htk hs hsl
          go_wp2_with (at_builtin; (refine wpList_append_lies _ rfl _ _ 28 rfl w.heap.size 3 i0 (.int .i64 0) 1 8 Tryd.underlying28 hi0 hiz0 hiz1 hiz2 rfl (by decide) (.slice pv j cv) j (icells ((preL true h).take j)) rfl (hown.alloc _) ⟨wr.heap.size, 0, none⟩ 1 1 [.int .i64 (s : Nat)] rfl rfl (World.news_of_block (cs := #[.int .i64 (s : Nat)]) (t := 3) (fr := (0, 0)) (heap_alloc_new wr _)) (by simp [Value.oneCell']) (by omega) (by unfold maxLen; omega) (by omega) (by simp; omega) (wr.heap.size + 1) (by simp) ?_))
          intro g cap2 w6 ho hg hat _
          have hB6 : Below w.heap.size w w6 := (bel_al hBB _).grown hg (by simp; omega) (fun k e => (hown.lt k e).1)
          have ho6 : w6.ownsRow w.heap.size 3 1 (.slice (some ⟨g, 0, none⟩) (j + 1) cap2) (j + 1) (icells ((preL true h).take (j + 1))) := by
            rw [HTK.out, icells_snoc]; exact ho
          clear ho hg hat hown hBB hB
          go_wp2_with fail
          go_roundw
          case rel => exact ⟨j + 1, by go_num, by omega, ho6, hB6⟩
          case measure => simp [intOf]; omega
    · obtain rfl : j = n := by omega
      have hall : (preL true h).take j = preL true h := by rw [← hl, ← preL_len true h, List.take_length]
      rw [hall] at hown
      have hpre := hasI_of_owns (by rw [preL_len, hl]) hown
      have hcw := hc.later hB
      obtain ⟨N, hN⟩ : ∃ N, 2 ^ j = N := ⟨_, rfl⟩
      have HN : Hid (2 ^ j = N) := hN
      have hN1 : N ≤ 1024 := by rw [← hN]; exact Nat.pow_le_pow_right (n := 2) (by omega) hn10
      have hpow := fun W => pow2_any j N W (by omega) HN
      have hBW : Hid (Below w.heap.size w wo) := hB
      have hmk0 := run_make_row' (P := Tryd.prog) 43 55 (.slice none 0 0) 24 Tryd.underlying43 infoRows rfl .i64 .i64 N (by omega) (by omega)
      obtain ⟨w4, hw4⟩ : ∃ w4, wo.alloc (.cells (madeCells #[.slice none 0 0] N) 55) = w4 := ⟨_, rfl⟩
      have s4 : w4.heap.size = wo.heap.size + 1 := by subst hw4; simp
      obtain ⟨w5, hw5⟩ : ∃ w5, w4.alloc (.cells #[.slice (some ⟨wo.heap.size, 0, none⟩) N N] 45) = w5 := ⟨_, rfl⟩
      have s5 : w5.heap.size = wo.heap.size + 2 := by subst hw5; simp [s4]
      obtain ⟨w6, hw6⟩ : ∃ w6, w5.alloc (.cells (tvC 0 0 0) 46) = w6 := ⟨_, rfl⟩
      have b4 : Below wo.heap.size wo w4 := hw4 ▸ bel_al (Below.refl _ _) _
      have b5 : Below w4.heap.size w4 w5 := hw5 ▸ bel_al (Below.refl _ _) _
      have b6 : Below w5.heap.size w5 w6 := hw6 ▸ bel_al (Below.refl _ _) _
      have hB6 : Below wo.heap.size wo w6 := bel_on (bel_on b4 b5) b6
      have hG : w4.rowIs wo.heap.size 55 N (fun _ => .slice none 0 0) := hw4 ▸ World.rowIs_made wo _ N _
      have hX : Blk w5 (wo.heap.size + 1) #[.slice (some ⟨wo.heap.size, 0, none⟩) N N] 45 := by
        have := Blk.new w4 #[.slice (some ⟨wo.heap.size, 0, none⟩) N N] 45
        rw [hw5, s4] at this
        exact this
      have hSX : SX (fun b => wo.heap.size ≤ b) (wo.heap.size + 1) (2 ^ j) (fun _ => []) 0 w6 := by
        rw [HN.out]
        refine ⟨wo.heap.size, fun _ => .slice none 0 0, hX.below b6 (by omega), hG.of_block ((b6.block _ (by omega)).trans (b5.block _ (by omega))), (fun _ _ => ⟨rfl, .inl ⟨rfl, rfl⟩⟩), (fun _ _ _ _ _ e => by cases e), (fun _ _ => Nat.le_refl _), (fun _ _ _ e => by cases e), ?_, Nat.le_refl _, (fun _ _ _ e => by cases e)⟩
        show wo.heap.size ≤ wo.heap.size + 1
        omega
      have hcnt : M.cnt j 0 + j = j := by rw [M.cnt_none]; omega
      have hrest := rest_all true h p j cap pv cv (wo.heap.size + 1) wo.heap.size hl hk j (fun b => wo.heap.size ≤ b) 0 0 0 0 [] none 0 0 (fun _ => []) 0 w6 hSX (fun _ e => e) (hcw.b.later hB6 (Nat.le_refl _)) (hpre.l.later hB6) (fun i hi => by simp [ints] at hi) (fun _ => ⟨rfl, rfl⟩) (fun b hb => by show wo.heap.size ≤ b; have := hB6.size; omega) rfl (by omega) (Nat.two_pow_pos j) hcnt (by omega) (by omega) (by omega)
        (fun e l hl => by cases hl) (by have := tryT_le (k := j) (by omega); omega)
      rw [show M.vf [0, 0, 0] = fun _ => 0 from M.vf_zero 3] at hrest
      have HW6 : Hid (w5.alloc (.cells #[.int .i64 0, .int .i64 0, .int .i64 0] 46) = w6) := hw6
      have HB6 : Hid (Below wo.heap.size wo w6) := hB6
      obtain ⟨R, hR⟩ : ∃ R, M.best true h j 0 (fun _ => 0) = R := ⟨_, rfl⟩
      have HR : Hid (M.best true h j 0 (fun _ => 0) = R) := hR
      rw [hR] at hrest
      clear hown hall hN hB hc hSX hX hG b4 b5 b6 hw6 hB6 hcnt hpre hcw hR s5
      go_wp2_with fail
      refine (hpow _).mono ?_
      rintro e w3 ⟨rfl, rfl⟩
      go_wp2_with fail
      simp only [HW6.out]
      refine hrest.mono ?_
      rintro e w7 ⟨q7, m7, c7, rfl, hlen7, hI7, -, hF7⟩
      have HB7 : Hid (Below w.heap.size w w7) := bel_on hBW.out (HB6.out.trans (hF7.below HB6.out.size (fun b hb ho => by have : wo.heap.size ≤ b := ho; omega)))
      cases R with
      | some l =>
        have hll : l.length = j := (M.best_sound HR.out).1
        have e7 : m7 = j := by rw [← hlen7]; simp [M.told, hll]
        have hd7 : decide ((m7 : Int) < (j : Int)) = false := decide_eq_false (by omega)
        have hd7n : decide (m7 < j) = false := decide_eq_false (by omega)
        have HI7 : Hid (HasI (ints l) q7 w7) := by show HasI _ _ _; simpa [M.told] using hI7
        have H7 : Hid (m7 = j) := e7
        clear hrest hF7 hI7 hlen7 e7 hll HW6
        go_wp2_with fail
        refine bodyPost_ret (v := .tuple #[.slice q7 m7 c7, .bool true]) (by simp [results, Tryd.results7, go_sem]) rfl ⟨fun l2 e2 => ?_, (fun e2 => by rw [HR.out] at e2; cases e2), HB7.out⟩
        rw [HR.out] at e2
        cases e2
        exact ⟨q7, c7, by rw [H7.out], HI7.out⟩
      | none =>
        have hj0 := best_zero_some HR.out
        have e7 : m7 = 0 := by rw [← hlen7]; simp [M.told]
        have hd7 : decide ((m7 : Int) < (j : Int)) = true := decide_eq_true (by omega)
        have hd7n : decide (m7 < j) = true := decide_eq_true (by omega)
        clear hrest hF7 hI7 hlen7 e7 HW6 hj0
        go_wp2_with fail
        exact bodyPost_ret (v := .tuple #[.slice none 0 0, .bool false]) (by simp [results, Tryd.results7, go_sem]) rfl ⟨(fun l2 e2 => by rw [HR.out] at e2; cases e2), (fun _ => rfl), HB7.out⟩

set_option maxRecDepth 100000 in
set_option maxHeartbeats 16000000 in
theorem goodRow_there (h : List M.HOp) (p : Option Addr) (n cap : Nat) (w : World) (hl : h.length = n) (hk : HOk h) (hc : HasO (hz h) p w) :
    Calls Tryd.prog 7 #[.slice p n cap, .bool false] w fun e w' => (∀ l, M.best false h n 0 (fun _ => 0) = some l → ∃ q cq, e = .returned (.tuple #[.slice q n cq, .bool true]) ∧ HasI (ints l) q w') ∧
      (M.best false h n 0 (fun _ => 0) = none → e = .returned (.tuple #[.slice none 0 0, .bool false])) ∧ Below w.heap.size w w' := by
  have hn10 : n ≤ 10 := hl ▸ hk.len
  obtain ⟨i0, hi0, hiz0, hiz1, hiz2⟩ := infoIh_parts infoIh
  go_enter Tryd.func7, Tryd.ntmps7
  go_wp2_with fail
  go_loopw [6, 7] (fun pv jv wr => ∃ j : Nat, jv = .int .i64 j ∧ j ≤ n ∧ wr.ownsRow w.heap.size 3 1 pv j (icells ((preL false h).take j)) ∧ Below w.heap.size w wr) (fun _ jv _ => n - (intOf jv).toNat)
  case atStart => exact ⟨0, rfl, Nat.zero_le _, ⟨rfl, .inl ⟨rfl, rfl⟩⟩, Below.refl _ _⟩
  case round =>
    obtain ⟨j, rfl, hj, hown, hB⟩ := hrel
    obtain ⟨wo, hwo⟩ : ∃ wo, wo = wr := ⟨_, rfl⟩
    subst hwo
    obtain ⟨pv, cv, rfl⟩ := owns_slice hown
    by_cases hlt : j < n
    · have hco := hc.later hB
      obtain ⟨b, off, rfl, hop⟩ := hco j (by rw [hz_len]; omega)
      rw [oAt_hzO] at hop
      obtain ⟨J, hJ⟩ : ∃ J, M.hop h j = J := ⟨_, rfl⟩
      have HJ : Hid (M.hop h j = J) := hJ
      rw [hJ] at hop
      obtain ⟨pj, oj, rj, vj, fj, tj⟩ := J
      have HOJ : Hid (OpAt (hzO ⟨pj, oj, rj, vj, fj, tj⟩) b (off + j * 6) wo) := hop
      have hjn : (j : Int) < (n : Int) := by omega
      have HBO : Hid (Below w.heap.size w wo) := hB
      have HCO : Hid (HasO (hz h) (some ⟨b, off, none⟩) wo) := hco
      have HOWN : Hid _ := hown
      clear hop hJ hc hco hB hown
      go_wp2_with fail
      go_loopw [8, 9] (fun sv iv wr => ∃ i : Nat, iv = .int .i64 i ∧ sv = .int .i64 (M.preTo false h j i : Nat) ∧ i ≤ n ∧ Below wo.heap.size wo wr) (fun _ iv _ => n - (intOf iv).toNat)
      case atStart => exact ⟨0, rfl, rfl, Nat.zero_le _, Below.refl _ _⟩
      case round =>
        obtain ⟨i, rfl, rfl, hi, hB⟩ := hrel
        have hsl := M.preTo_lt false h j i
        by_cases hin : i < n
        · have hp10 : 2 ^ i ≤ 512 := by
            have : 2 ^ i ≤ 2 ^ 9 := Nat.pow_le_pow_right (by omega) (by omega)
            omega
          have hhit := @preTo_hit false h j i
          have hmiss := @M.preTo_miss false h j i
          obtain ⟨p2, hp2⟩ : ∃ p2, 2 ^ i = p2 := ⟨_, rfl⟩
          have HP2 : Hid (2 ^ i = p2) := hp2
          obtain ⟨s, hs⟩ : ∃ s, M.preTo false h j i = s := ⟨_, rfl⟩
          rw [hs, hp2] at hhit hsl
          rw [hs] at hmiss ⊢
          rw [hp2] at hp10
          obtain ⟨s2, hs2⟩ : ∃ s2, s + p2 = s2 := ⟨_, rfl⟩
          rw [hs2] at hhit
          have hsr : (s : Int) + (p2 : Int) = (s2 : Int) := by omega
          have hwr : IntKind.i64.wrap ((s2 : Nat) : Int) = (s2 : Int) := i64_wrap_nat s2 (by omega)
          have hcall := fun W => pow2_any i p2 W (by omega) HP2
          obtain ⟨_, _, e0, hopi⟩ := (HCO.out.later hB) i (by rw [hz_len]; omega)
          cases e0
          rw [oAt_hzO] at hopi
          obtain ⟨I, hI⟩ : ∃ I, M.hop h i = I := ⟨_, rfl⟩
          rw [HJ.out, hI] at hhit hmiss
          rw [hI] at hopi
          obtain ⟨pi, oi, ri, vi, fi, ti⟩ := I
          simp only [hzO] at hopi
          obtain ⟨hbi, k0, k1, k2, k3, k4, k5⟩ := hopi
          obtain ⟨hbj, y0, y1, y2, y3, y4, y5⟩ := HOJ.out.later hB HOJ.out.lt
          simp only [hzO] at y0 y1 y2 y3 y4 y5
          have hini : (i : Int) < (n : Int) := by omega
          have HHIT : Hid _ := hhit
          have HMISS : Hid _ := hmiss
          clear hs hp2 hs2 hI hhit hmiss hsl
          by_cases htf : ti ≤ fj
          · have hd1 : decide ((ti : Int) ≤ (fj : Int)) = true := decide_eq_true (by omega)
            have hd1n : decide (ti ≤ fj) = true := decide_eq_true htf
            by_cases hpe : pi = pj
            · have hd5 : ((pi : Int) == (pj : Int)) = true := by simp; omega
              have hd5n : (pi == pj) = true := by simpa using hpe
              have HAH : Hid (M.aheadB false ⟨pi, oi, ri, vi, fi, ti⟩ ⟨pj, oj, rj, vj, fj, tj⟩ = true) := by show _ = _; unfold M.aheadB; rw [Bool.false_or, show decide (ti ≤ fj) = true from hd1n, Bool.true_and]; exact hd5n
              clear htf hpe
              go_wp2_with fail
              go_big_quiet (fail)
              go_wp2_with fail
              refine (hcall _).mono ?_
              rintro e w3 ⟨rfl, rfl⟩
              go_wp2_with fail
              go_roundw
              case rel => exact ⟨i + 1, by go_num, by rw [HHIT.out HAH.out], by omega, bel_drN hB _⟩
              case measure => simp [intOf]; omega
            · have hd5 : ((pi : Int) == (pj : Int)) = false := by simp; omega
              have hd5n : (pi == pj) = false := by simpa using hpe
              have HAH : Hid (M.aheadB false ⟨pi, oi, ri, vi, fi, ti⟩ ⟨pj, oj, rj, vj, fj, tj⟩ = false) := by show _ = _; unfold M.aheadB; rw [Bool.false_or, show decide (ti ≤ fj) = true from hd1n, Bool.true_and]; exact hd5n
              clear htf hpe
              go_wp2_with fail
              go_big_quiet (fail)
              go_wp2_with fail
              go_roundw
              case rel => exact ⟨i + 1, by go_num, by rw [HMISS.out HAH.out], by omega, bel_drN hB _⟩
              case measure => simp [intOf]; omega
          · have hd1 : decide ((ti : Int) ≤ (fj : Int)) = false := decide_eq_false (by omega)
            have hd1n : decide (ti ≤ fj) = false := decide_eq_false htf
            have HAH : Hid (M.aheadB false ⟨pi, oi, ri, vi, fi, ti⟩ ⟨pj, oj, rj, vj, fj, tj⟩ = false) := by show _ = _; unfold M.aheadB; rw [show decide (ti ≤ fj) = false from hd1n, Bool.false_and]
            clear htf
            go_wp2_with fail
            go_big_quiet (fail)
            go_wp2_with fail
            go_roundw
            case rel => exact ⟨i + 1, by go_num, by rw [HMISS.out HAH.out], by omega, bel_drN hB _⟩
            case measure => simp [intOf]; omega
        · obtain rfl : i = n := by omega
          have hps := M.preTo_all (all := false) (j := j) hl
          have htk := preL_take (all := false) (h := h) (j := j) (by omega)
          obtain ⟨s, hs⟩ : ∃ s, M.preTo false h j i = s := ⟨_, rfl⟩
          rw [hs]
          rw [← hps, hs] at htk
          have HTK : Hid _ := htk
          have hown := owns_below HOWN.out hB
          have hBB := bel_on HBO.out hB
          have hszr := hBB.size
          clear hps htk hs hsl
          go_wp2_with (at_builtin; (refine wpList_append_lies _ rfl _ _ 28 rfl w.heap.size 3 i0 (.int .i64 0) 1 8 Tryd.underlying28 hi0 hiz0 hiz1 hiz2 rfl (by decide) (.slice pv j cv) j (icells ((preL false h).take j)) rfl (hown.alloc _) ⟨wr.heap.size, 0, none⟩ 1 1 [.int .i64 (s : Nat)] rfl rfl (World.news_of_block (cs := #[.int .i64 (s : Nat)]) (t := 3) (fr := (0, 0)) (heap_alloc_new wr _)) (by simp [Value.oneCell']) (by omega) (by unfold maxLen; omega) (by omega) (by simp; omega) (wr.heap.size + 1) (by simp) ?_))
          intro g cap2 w6 ho hg hat _
          have hB6 : Below w.heap.size w w6 := (bel_al hBB _).grown hg (by simp; omega) (fun k e => (hown.lt k e).1)
          have ho6 : w6.ownsRow w.heap.size 3 1 (.slice (some ⟨g, 0, none⟩) (j + 1) cap2) (j + 1) (icells ((preL false h).take (j + 1))) := by
            rw [HTK.out, icells_snoc]; exact ho
          clear ho hg hat hown hBB hB
          go_wp2_with fail
          go_roundw
          case rel => exact ⟨j + 1, by go_num, by omega, ho6, hB6⟩
          case measure => simp [intOf]; omega
    · obtain rfl : j = n := by omega
      have hall : (preL false h).take j = preL false h := by rw [← hl, ← preL_len false h, List.take_length]
      rw [hall] at hown
      have hpre := hasI_of_owns (by rw [preL_len, hl]) hown
      have hcw := hc.later hB
      obtain ⟨N, hN⟩ : ∃ N, 2 ^ j = N := ⟨_, rfl⟩
      have HN : Hid (2 ^ j = N) := hN
      have hN1 : N ≤ 1024 := by rw [← hN]; exact Nat.pow_le_pow_right (n := 2) (by omega) hn10
      have hpow := fun W => pow2_any j N W (by omega) HN
      have hBW : Hid (Below w.heap.size w wo) := hB
      have hmk0 := run_make_row' (P := Tryd.prog) 43 55 (.slice none 0 0) 24 Tryd.underlying43 infoRows rfl .i64 .i64 N (by omega) (by omega)
      obtain ⟨w4, hw4⟩ : ∃ w4, wo.alloc (.cells (madeCells #[.slice none 0 0] N) 55) = w4 := ⟨_, rfl⟩
      have s4 : w4.heap.size = wo.heap.size + 1 := by subst hw4; simp
      obtain ⟨w5, hw5⟩ : ∃ w5, w4.alloc (.cells #[.slice (some ⟨wo.heap.size, 0, none⟩) N N] 45) = w5 := ⟨_, rfl⟩
      have s5 : w5.heap.size = wo.heap.size + 2 := by subst hw5; simp [s4]
      obtain ⟨w6, hw6⟩ : ∃ w6, w5.alloc (.cells (tvC 0 0 0) 46) = w6 := ⟨_, rfl⟩
      have b4 : Below wo.heap.size wo w4 := hw4 ▸ bel_al (Below.refl _ _) _
      have b5 : Below w4.heap.size w4 w5 := hw5 ▸ bel_al (Below.refl _ _) _
      have b6 : Below w5.heap.size w5 w6 := hw6 ▸ bel_al (Below.refl _ _) _
      have hB6 : Below wo.heap.size wo w6 := bel_on (bel_on b4 b5) b6
      have hG : w4.rowIs wo.heap.size 55 N (fun _ => .slice none 0 0) := hw4 ▸ World.rowIs_made wo _ N _
      have hX : Blk w5 (wo.heap.size + 1) #[.slice (some ⟨wo.heap.size, 0, none⟩) N N] 45 := by
        have := Blk.new w4 #[.slice (some ⟨wo.heap.size, 0, none⟩) N N] 45
        rw [hw5, s4] at this
        exact this
      have hSX : SX (fun b => wo.heap.size ≤ b) (wo.heap.size + 1) (2 ^ j) (fun _ => []) 0 w6 := by
        rw [HN.out]
        refine ⟨wo.heap.size, fun _ => .slice none 0 0, hX.below b6 (by omega), hG.of_block ((b6.block _ (by omega)).trans (b5.block _ (by omega))), (fun _ _ => ⟨rfl, .inl ⟨rfl, rfl⟩⟩), (fun _ _ _ _ _ e => by cases e), (fun _ _ => Nat.le_refl _), (fun _ _ _ e => by cases e), ?_, Nat.le_refl _, (fun _ _ _ e => by cases e)⟩
        show wo.heap.size ≤ wo.heap.size + 1
        omega
      have hcnt : M.cnt j 0 + j = j := by rw [M.cnt_none]; omega
      have hrest := rest_all false h p j cap pv cv (wo.heap.size + 1) wo.heap.size hl hk j (fun b => wo.heap.size ≤ b) 0 0 0 0 [] none 0 0 (fun _ => []) 0 w6 hSX (fun _ e => e) (hcw.b.later hB6 (Nat.le_refl _)) (hpre.l.later hB6) (fun i hi => by simp [ints] at hi) (fun _ => ⟨rfl, rfl⟩) (fun b hb => by show wo.heap.size ≤ b; have := hB6.size; omega) rfl (by omega) (Nat.two_pow_pos j) hcnt (by omega) (by omega) (by omega)
        (fun e l hl => by cases hl) (by have := tryT_le (k := j) (by omega); omega)
      rw [show M.vf [0, 0, 0] = fun _ => 0 from M.vf_zero 3] at hrest
      have HW6 : Hid (w5.alloc (.cells #[.int .i64 0, .int .i64 0, .int .i64 0] 46) = w6) := hw6
      have HB6 : Hid (Below wo.heap.size wo w6) := hB6
      obtain ⟨R, hR⟩ : ∃ R, M.best false h j 0 (fun _ => 0) = R := ⟨_, rfl⟩
      have HR : Hid (M.best false h j 0 (fun _ => 0) = R) := hR
      rw [hR] at hrest
      clear hown hall hN hB hc hSX hX hG b4 b5 b6 hw6 hB6 hcnt hpre hcw hR s5
      go_wp2_with fail
      refine (hpow _).mono ?_
      rintro e w3 ⟨rfl, rfl⟩
      go_wp2_with fail
      simp only [HW6.out]
      refine hrest.mono ?_
      rintro e w7 ⟨q7, m7, c7, rfl, hlen7, hI7, -, hF7⟩
      have HB7 : Hid (Below w.heap.size w w7) := bel_on hBW.out (HB6.out.trans (hF7.below HB6.out.size (fun b hb ho => by have : wo.heap.size ≤ b := ho; omega)))
      cases R with
      | some l =>
        have hll : l.length = j := (M.best_sound HR.out).1
        have e7 : m7 = j := by rw [← hlen7]; simp [M.told, hll]
        have hd7 : decide ((m7 : Int) < (j : Int)) = false := decide_eq_false (by omega)
        have hd7n : decide (m7 < j) = false := decide_eq_false (by omega)
        have HI7 : Hid (HasI (ints l) q7 w7) := by show HasI _ _ _; simpa [M.told] using hI7
        have H7 : Hid (m7 = j) := e7
        clear hrest hF7 hI7 hlen7 e7 hll HW6
        go_wp2_with fail
        refine bodyPost_ret (v := .tuple #[.slice q7 m7 c7, .bool true]) (by simp [results, Tryd.results7, go_sem]) rfl ⟨fun l2 e2 => ?_, (fun e2 => by rw [HR.out] at e2; cases e2), HB7.out⟩
        rw [HR.out] at e2
        cases e2
        exact ⟨q7, c7, by rw [H7.out], HI7.out⟩
      | none =>
        have hj0 := best_zero_some HR.out
        have e7 : m7 = 0 := by rw [← hlen7]; simp [M.told]
        have hd7 : decide ((m7 : Int) < (j : Int)) = true := decide_eq_true (by omega)
        have hd7n : decide (m7 < j) = true := decide_eq_true (by omega)
        clear hrest hF7 hI7 hlen7 e7 HW6 hj0
        go_wp2_with fail
        exact bodyPost_ret (v := .tuple #[.slice none 0 0, .bool false]) (by simp [results, Tryd.results7, go_sem]) rfl ⟨(fun l2 e2 => by rw [HR.out] at e2; cases e2), (fun _ => rfl), HB7.out⟩
end Go.Proofs.YtcmlkioaclkgnaaDoor
