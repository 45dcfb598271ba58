/- The document's own answer on votes (package whensteadref4: Weight, Votes); what lay in memory lies as it lay. -/
import Derived.Test.YtfjmealeglbklaaDoorRefQ1
import Derived.Test.YtfjmealeglbklaaDoorQc5
import Derived.Test.YtfjmealeglbklaaDoorOwnI
namespace Go.Proofs.YtfjmealeglbklaaDoor
open Go.RowKit

theorem vts_def (W : List Nat) (need : Nat) : M.votes (M.row W) W.length need = upB (M.voteB (M.row W) W.length need) (2 ^ W.length) := rfl
theorem wtQ_le {f : Nat → Nat} {m : Nat} (hf : ∀ i, f i ≤ m) (s : Nat) : ∀ n, M.wtQ f n s ≤ m * n := by
  intro n
  induction n with
  | zero => exact Nat.zero_le _
  | succ n ih =>
    rw [M.wtQ_snoc, Nat.mul_add, Nat.mul_one]
    have := hf n
    split <;> omega
theorem wAll_ints {zs : List Int} (h : wAll zs = true) : zs = ints (qnats zs) := by
  apply List.ext_getElem?
  intro j
  unfold ints qnats
  rw [List.map_map, List.getElem?_map]
  by_cases hj : j < zs.length
  · have := wAll_iff.1 h j hj
    unfold wOk at this
    have := of_decide_eq_true this
    rw [List.getElem?_eq_getElem hj] at this ⊢
    simp only [Option.map_some, Option.getD_some, Function.comp] at this ⊢
    congr 1; omega
  · rw [List.getElem?_eq_none (by omega)]; rfl
set_option maxRecDepth 100000 in
set_option maxHeartbeats 1000000 in
theorem rweight_ok (W : List Nat) (s : Nat) (p : Option Addr) (n cap : Nat) (w : World) (hl : W.length = n) (hn : n ≤ 8) (hW : ∀ i, M.row W i ≤ 20) (hs : s < 4096) (hc : HasI (ints W) p w) :
    Calls Tryd.prog 39 #[.slice p n cap, .int .i64 (s : Nat)] w fun e w' => e = .returned (.int .i64 (M.wtQ (M.row W) n s : Nat)) ∧ w = w' := by
  have HC : Hid (HasN (M.row W) n p w) := by have := hc.toN; rw [hl] at this; exact this
  clear hc hl
  go_enter Tryd.func39, Tryd.ntmps39
  go_wp2_with fail
  go_loop [5, 6] (fun u v => ∃ i y : Nat, u = .int .i64 (y : Nat) ∧ v = .int .i64 (i : Nat) ∧ i ≤ n ∧ Hid (M.wtQ (M.row W) i s = y) ∧ y ≤ 20 * i) (fun _ v => n - (intOf v).toNat)
  case atStart => exact ⟨0, 0, rfl, rfl, Nat.zero_le _, (rfl : M.wtQ (M.row W) 0 s = 0), Nat.le_refl _⟩
  case round =>
    obtain ⟨i, y, rfl, rfl, hi, hy, hyb⟩ := hrel
    by_cases hlt : i < n
    · obtain ⟨b, off, rfl, hb, hcell⟩ := HC.out i hlt
      have hsn := M.wtQ_snoc (M.row W) i s
      rw [hy.out] at hsn
      have hwi := hW i
      obtain ⟨z, hz⟩ : ∃ z, M.row W i = z := ⟨_, rfl⟩
      rw [hz] at hcell hsn hwi
      have hbi := fun W => bit_any s i W (by omega) (by omega)
      have hin : (i : Int) < (n : Int) := by omega
      clear hz
      cases hq : s.testBit i with
      | true =>
        rw [hq, if_pos rfl] at hsn
        rw [hq] at hbi
        obtain ⟨x, hx⟩ : ∃ x : Nat, y + z = x := ⟨_, rfl⟩
        have hxi : (y : Int) + (z : Int) = (x : Int) := by omega
        have HX : Hid (M.wtQ (M.row W) (i + 1) s = x) := hsn.trans hx
        have hxb : x ≤ 20 * (i + 1) := by omega
        clear hsn hx hq
        go_wp2_with fail
        refine (hbi _).mono ?_
        rintro e w2 ⟨rfl, rfl⟩
        go_wp2_with fail
        go_round
        case rel => exact ⟨i + 1, x, by go_num, by go_num, by omega, HX, hxb⟩
        case measure => simp [intOf]; omega
      | false =>
        rw [hq] at hsn hbi
        have HX : Hid (M.wtQ (M.row W) (i + 1) s = y) := hsn
        have hxb : y ≤ 20 * (i + 1) := by omega
        clear hsn hq
        go_wp2_with fail
        refine (hbi _).mono ?_
        rintro e w2 ⟨rfl, rfl⟩
        go_wp2_with fail
        go_round
        case rel => exact ⟨i + 1, y, rfl, by go_num, by omega, HX, hxb⟩
        case measure => simp [intOf]; omega
    · obtain rfl : n = i := by omega
      go_wp2_with fail
      go_ret
      exact ⟨by rw [hy.out]; rfl, rfl⟩
set_option maxRecDepth 100000 in
set_option maxHeartbeats 2000000 in
theorem rvotes_err (zs : List Int) (need : Int) (c : Nat) (p : Option Addr) (n cap : Nat) (w : World) (hl : zs.length = n) (hmax : n ≤ maxLen) (hc : HasI zs p w) (h0 : vcode zs need = c) (hne : c ≠ 0) :
    Calls Tryd.prog 21 #[.slice p n cap, .int .i64 need] w fun e w' => e = .returned (.tuple #[.slice none 0 0, .int .i64 (c : Nat)]) ∧ w = w' := by
  unfold maxLen at hmax
  by_cases h5 : n = 0
  · subst h5
    have HQ : Hid (c = 5) := by rw [← h0]; exact vcode_none hl
    clear hc h0 hne
    go_enter Tryd.func21, Tryd.ntmps21
    go_wp2_with fail
    go_ret2
    exact ⟨by rw [HQ.out]; rfl, rfl⟩
  have g3 : ((n : Int) == 0) = false := by simp; omega
  have hn0 : 0 < n := by omega
  clear h5
  by_cases h20 : 8 < n
  · have HQ : Hid (c = 4) := by rw [← h0]; exact vcode_full (by omega)
    have g4 : decide (8 < (n : Int)) = true := decide_eq_true (by omega)
    clear hc h0 hne
    go_enter Tryd.func21, Tryd.ntmps21
    go_wp2_with fail
    go_ret2
    exact ⟨by rw [HQ.out]; rfl, rfl⟩
  have g4 : decide (8 < (n : Int)) = false := decide_eq_false (by omega)
  have hn8 : n ≤ 8 := by omega
  clear h20
  have HC : Hid (HasI zs p w) := hc
  have HL : Hid (zs.length = n) := hl
  have H0 : Hid (vcode zs need = c) := h0
  have HNE : Hid (c ≠ 0) := hne
  clear hc hl h0 hne
  go_enter Tryd.func21, Tryd.ntmps21
  go_wp2_with fail
  go_loop [7] (fun v => ∃ i : Nat, v = .int .i64 (i : Nat) ∧ i ≤ n ∧ Hid (∀ j, j < i → wOk (zs[j]?.getD 0) = true)) (fun v => n - (intOf v).toNat)
  case atStart => exact ⟨0, rfl, Nat.zero_le _, fun j h => absurd h (Nat.not_lt_zero _)⟩
  case round =>
    obtain ⟨i, rfl, hi, hz⟩ := hrel
    by_cases hlt : i < n
    · obtain ⟨b, off, rfl, hb, hcell⟩ := HC.out i (by rw [HL.out]; exact hlt)
      obtain ⟨z, hzz⟩ : ∃ z, zs[i]?.getD 0 = z := ⟨_, rfl⟩
      rw [hzz] at hcell
      have hin : (i : Int) < (n : Int) := by omega
      have hri := fun W => rin4_ok z 0 20 W
      cases hq : decide (0 ≤ z ∧ z ≤ 20) with
      | false =>
        have HQ : Hid (c = 1) := by rw [← H0.out]; exact vcode_bad (i := i) (by rw [HL.out]; exact hn0) (by rw [HL.out]; exact hn8) (by rw [HL.out]; exact hlt) (by rw [hzz]; exact hq)
        rw [hq] at hri
        clear hzz hq
        go_wp2_with fail
        refine (hri _).mono ?_
        rintro e w2 ⟨rfl, rfl⟩
        go_wp2_with fail
        go_ret2
        exact ⟨by rw [HQ.out]; rfl, rfl⟩
      | true =>
        have HN : Hid (∀ j, j < i + 1 → wOk (zs[j]?.getD 0) = true) := fun j hj => by
          by_cases e : j = i
          · rw [e, hzz]; exact hq
          · exact hz.out j (by omega)
        rw [hq] at hri
        clear hzz hq
        go_wp2_with fail
        refine (hri _).mono ?_
        rintro e w2 ⟨rfl, rfl⟩
        go_wp2_with fail
        go_round
        case rel => exact ⟨i + 1, by go_num, by omega, HN⟩
        case measure => simp [intOf]; omega
    · obtain rfl : n = i := by omega
      have hall : wAll zs = true := wAll_iff.2 (by rw [HL.out]; exact hz.out)
      obtain ⟨W, hWz⟩ : ∃ W : List Nat, zs = ints W := ⟨qnats zs, wAll_ints hall⟩
      subst hWz
      have hlW : W.length = n := by rw [← HL.out, ints_length]
      have hWle : ∀ i, M.row W i ≤ 20 := fun i => by
        by_cases hi : i < n
        · have := hz.out i hi
          rw [ints_get] at this
          have := of_decide_eq_true this
          omega
        · unfold M.row; rw [List.getElem?_eq_none (by omega)]; decide
      have hg := vcode_good (zs := ints W) (need := need) (by rw [HL.out]; exact hn0) (by rw [HL.out]; exact hn8) hall
      rw [HL.out, psum_ints, H0.out] at hg
      have h8 := pow8 hn8
      have hwe := fun h => rweight_ok W (2 ^ n - 1) p n cap w hlW hn8 hWle (by omega) h
      have hAl := wtQ_le hWle (2 ^ n - 1) n
      obtain ⟨A, hA⟩ : ∃ A, M.wtQ (M.row W) n (2 ^ n - 1) = A := ⟨_, rfl⟩
      rw [hA] at hg hwe hAl
      obtain ⟨q, hq⟩ : ∃ q : Nat, 2 ^ n = q := ⟨_, rfl⟩
      have hpo := fun W => pow2_any n q W (by omega) hq
      have hp0 := Nat.two_pow_pos n
      rw [hq] at hwe h8 hp0
      obtain ⟨q1, hq1⟩ : ∃ q1, q - 1 = q1 := ⟨_, rfl⟩
      have hq1i : (q : Int) - 1 = (q1 : Int) := by omega
      rw [hq1] at hwe
      have hwe1 := hwe HC.out
      have hri := fun W => rin4_ok need 1 A W
      have hA160 : A ≤ 160 := by omega
      clear hall hlW hWle hq hq1 hA hwe hz
      cases hqq : decide (1 ≤ need ∧ need ≤ (A : Int)) with
      | false =>
        have HQ : Hid (c = 1) := by
          have h9 : need < 1 ∨ (A : Int) < need := by
            have := of_decide_eq_false hqq
            omega
          rw [if_pos h9] at hg; exact hg
        rw [hqq] at hri
        clear hg hqq
        go_wp2_with fail
        refine (hpo _).mono ?_
        rintro e w2 ⟨rfl, rfl⟩
        go_wp2_with fail
        refine hwe1.mono ?_
        rintro e w2 ⟨rfl, rfl⟩
        go_wp2_with fail
        refine (hri _).mono ?_
        rintro e w2 ⟨rfl, rfl⟩
        go_wp2_with fail
        go_ret2
        exact ⟨by rw [HQ.out]; rfl, rfl⟩
      | true =>
        have hb := of_decide_eq_true hqq
        have hb1 := hb.1
        have hb2 := hb.2
        rw [if_neg (by omega)] at hg
        by_cases h2 : 2 * need ≤ (A : Int)
        · have HQ : Hid (c = 6) := by rw [if_pos h2] at hg; exact hg
          rw [hqq] at hri
          obtain ⟨d, hd⟩ : ∃ d, (A : Int) - need = d := ⟨_, rfl⟩
          have hd0 : 0 ≤ d := by omega
          have hd1 : d ≤ 160 := by omega
          have g5 : decide (need ≤ d) = true := decide_eq_true (by omega)
          clear hg hqq hb h2
          go_wp2_with fail
          refine (hpo _).mono ?_
          rintro e w2 ⟨rfl, rfl⟩
          go_wp2_with fail
          refine hwe1.mono ?_
          rintro e w2 ⟨rfl, rfl⟩
          go_wp2_with fail
          refine (hri _).mono ?_
          rintro e w2 ⟨rfl, rfl⟩
          go_wp2_with fail
          go_ret2
          exact ⟨by rw [HQ.out]; rfl, rfl⟩
        · rw [if_neg h2] at hg
          exact absurd hg HNE.out
/-- is it least, as far as it was looked? -/
def LowP (W : List Nat) (n need k T t : Nat) : Bool → Prop
  | true => need ≤ T ∧ ∀ x, x < t → M.subB x k = true → M.wtQ (M.row W) n x < need
  | false => M.voteB (M.row W) n need k = false
set_option maxRecDepth 100000 in
set_option maxHeartbeats 4000000 in
theorem rvotes_ok (W : List Nat) (need : Nat) (p : Option Addr) (n cap : Nat) (w : World) (hR : VR W need) (hl : W.length = n) (hc : HasI (ints W) p w) :
    Calls Tryd.prog 21 #[.slice p n cap, .int .i64 (need : Nat)] w fun e w' => ∃ v, e = .returned (.tuple #[v, .int .i64 0]) ∧ w'.ownsRow w.heap.size 3 1 v (M.votes (M.row W) W.length need).length (icells (M.votes (M.row W) W.length need)) ∧ Below w.heap.size w w' := by
  obtain ⟨i0, hi0, hzz⟩ := Option.map_eq_some_iff.1 infoInt
  simp only [Prod.mk.injEq] at hzz
  obtain ⟨hz0, hz1, hz2⟩ := hzz
  have hn8 : n ≤ 8 := hl ▸ hR.hi
  have hn0 : 0 < n := hl ▸ hR.lo
  have h8 := pow8 hn8
  have g3 : ((n : Int) == 0) = false := by simp; omega
  have g4 : decide (8 < (n : Int)) = false := decide_eq_false (by omega)
  have hwe := fun W' s (hs : s < 256) h => rweight_ok W s p n cap W' hl hn8 hR.le (by omega) h
  have hmost := hR.most
  have hhalf := hR.half
  have hsome := hR.some
  rw [hl] at hmost hhalf
  have hwl := fun s => wtQ_le hR.le s n
  have hAl := hwl (2 ^ n - 1)
  have hwA := fun W' h => hwe W' (2 ^ n - 1) (by omega) h
  obtain ⟨A, hA⟩ : ∃ A, M.wtQ (M.row W) n (2 ^ n - 1) = A := ⟨_, rfl⟩
  rw [hA] at hmost hhalf hAl hwA
  obtain ⟨q, hq⟩ : ∃ q : Nat, 2 ^ n = q := ⟨_, rfl⟩
  have hpo := fun W => pow2_any n q W (by omega) hq
  have hp0 := Nat.two_pow_pos n
  have HQ : Hid (upB (M.voteB (M.row W) n need) q = M.votes (M.row W) W.length need) := (by rw [← hq, ← hl]; rfl : upB (M.voteB (M.row W) n need) q = M.votes (M.row W) W.length need)
  rw [hq] at h8 hp0 hwA
  obtain ⟨q1, hq1⟩ : ∃ q1, q - 1 = q1 := ⟨_, rfl⟩
  have hq1i : (q : Int) - 1 = (q1 : Int) := by omega
  rw [hq1] at hwA
  have HC : Hid (HasI (ints W) p w) := hc
  have HL : Hid (W.length = n) := hl
  have HR : Hid (VR W need) := hR
  have hri := fun W => rin4_yes (x := (need : Int)) (lo := 1) (hi := (A : Int)) W (by omega) (by omega)
  obtain ⟨d, hd⟩ : ∃ d : Int, (A : Int) - (need : Int) = d := ⟨_, rfl⟩
  have hd0 : 0 ≤ d := by omega
  have hd1 : d ≤ 160 := by omega
  have g5 : decide ((need : Int) ≤ d) = false := decide_eq_false (by omega)
  have h10 : w.ownsRow w.heap.size 3 1 (.slice none 0 0) (upB (M.voteB (M.row W) n need) 0).length (icells (upB (M.voteB (M.row W) n need) 0)) := ⟨rfl, .inl ⟨rfl, rfl⟩⟩
  obtain ⟨w1, hw1⟩ : ∃ w1, w1 = w := ⟨_, rfl⟩
  subst hw1
  clear hc hR hl hq hq1 hA hmost hhalf
  go_enter Tryd.func21, Tryd.ntmps21
  go_wp2_with fail
  go_loop [7] (fun v => ∃ i : Nat, v = .int .i64 (i : Nat) ∧ i ≤ n) (fun v => n - (intOf v).toNat)
  case atStart => exact ⟨0, rfl, Nat.zero_le _⟩
  case round =>
    obtain ⟨i, rfl, hi⟩ := hrel
    by_cases hlt : i < n
    · obtain ⟨b, off, rfl, hb, hcell⟩ := HC.out i (by rw [ints_length, HL.out]; exact hlt)
      rw [ints_get] at hcell
      have hle := HR.out.le i
      obtain ⟨z, hzz⟩ : ∃ z, M.row W i = z := ⟨_, rfl⟩
      rw [hzz] at hcell hle
      have hin : (i : Int) < (n : Int) := by omega
      have hrz := fun W => rin4_yes (x := (z : Int)) (lo := 0) (hi := 20) W (by omega) (by omega)
      clear hzz hwe hwl hwA hri hpo
      go_wp2_with fail
      refine (hrz _).mono ?_
      rintro e w2 ⟨rfl, rfl⟩
      go_wp2_with fail
      go_round
      case rel => exact ⟨i + 1, by go_num, by omega⟩
      case measure => simp [intOf]; omega
    · obtain rfl : n = i := by omega
      have hwA1 := hwA _ HC.out
      clear hwA
      go_wp2_with fail
      refine (hpo _).mono ?_
      rintro e w2 ⟨rfl, rfl⟩
      go_wp2_with fail
      refine hwA1.mono ?_
      rintro e w2 ⟨rfl, rfl⟩
      go_wp2_with fail
      refine (hri _).mono ?_
      rintro e w2 ⟨rfl, rfl⟩
      go_wp2_with fail
      clear hwA1 hri
      go_loopw [9, 10] (fun sv v wr => ∃ k : Nat, v = .int .i64 (k : Nat) ∧ k ≤ q ∧ wr.ownsRow w1.heap.size 3 1 sv (upB (M.voteB (M.row W) n need) k).length (icells (upB (M.voteB (M.row W) n need) k)) ∧ Below w1.heap.size w1 wr) (fun _ v _ => q - (intOf v).toNat)
      case atStart => exact ⟨0, rfl, Nat.zero_le _, h10, Below.refl _ _⟩
      case round =>
        clear h10
        obtain ⟨k, rfl, hk, hown, hB⟩ := hrel
        obtain ⟨p', c', rfl⟩ := owns_slice hown
        by_cases hlt : k < q
        · have hkq : decide ((k : Int) < (q : Int)) = true := decide_eq_true (by omega)
          have hlen := upB_len (M.voteB (M.row W) n need) k
          have hhit := @upB_hit (M.voteB (M.row W) n need) k
          have hmiss := @upB_miss (M.voteB (M.row W) n need) k
          obtain ⟨L, hL⟩ : ∃ L, upB (M.voteB (M.row W) n need) k = L := ⟨_, rfl⟩
          rw [hL] at hown hlen hhit hmiss
          rw [hL]
          clear hL
          have HOWN : Hid (wr.ownsRow w1.heap.size 3 1 (.slice p' L.length c') L.length (icells L)) := hown
          obtain ⟨l, hl⟩ : ∃ l, L.length = l := ⟨_, rfl⟩
          have HLL : Hid (L.length = l) := hl
          rw [hl] at hown hlen
          rw [hl]
          have HHit : Hid (M.voteB (M.row W) n need k = true → upB (M.voteB (M.row W) n need) (k + 1) = L ++ [k]) := hhit
          have HMiss : Hid (M.voteB (M.row W) n need k = false → upB (M.voteB (M.row W) n need) (k + 1) = L) := hmiss
          obtain ⟨wo, hwo⟩ : ∃ wo, wo = wr := ⟨_, rfl⟩
          subst hwo
          have hcw := HC.out.later hB
          have hk8 : k < 256 := by omega
          have hwk := hwe wo k hk8 hcw
          have hwlk := hwl k
          have hlight := @M.vote_light (M.row W) n need k
          obtain ⟨T, hT⟩ : ∃ T, M.wtQ (M.row W) n k = T := ⟨_, rfl⟩
          rw [hT] at hwk hwlk hlight
          have HT : Hid (M.wtQ (M.row W) n k = T) := hT
          have hle : decide ((need : Int) ≤ (T : Int)) = decide (need ≤ T) := by rw [Bool.eq_iff_iff]; simp
          obtain ⟨a, ha⟩ : ∃ a, decide (need ≤ T) = a := ⟨_, rfl⟩
          rw [ha] at hle
          have HA0 : Hid (LowP W n need k T 0 a) := by
            cases a with
            | true => exact ⟨of_decide_eq_true ha, fun t ht => absurd ht (Nat.not_lt_zero _)⟩
            | false => exact hlight (by have := of_decide_eq_false ha; omega)
          clear hhit hmiss hown hl hlight hT
          go_wp2_with fail
          refine (hpo _).mono ?_
          rintro e w2 ⟨rfl, rfl⟩
          go_wp2_with fail
          refine hwk.mono ?_
          rintro e w2 ⟨rfl, rfl⟩
          go_wp2_with fail
          go_loopw [11, 12] (fun u v wr => ∃ (t : Nat) (a : Bool), u = .bool a ∧ v = .int .i64 (t : Nat) ∧ t ≤ k ∧ Hid (LowP W n need k T t a) ∧ wr = wo) (fun _ v _ => k - (intOf v).toNat)
          case atStart => exact ⟨0, a, rfl, rfl, Nat.zero_le _, HA0, rfl⟩
          case round =>
            clear HA0 hle hwk ha
            obtain ⟨t, a, rfl, rfl, ht, hP, rfl⟩ := hrel
            cases a with
            | false =>
              have HE : Hid (upB (M.voteB (M.row W) n need) (k + 1) = L) := HMiss.out hP.out
              clear hP
              by_cases htk : t < k
              · have g6 : decide ((t : Int) < (k : Int)) = true := decide_eq_true (by omega)
                have g6' : decide (t < k) = true := decide_eq_true htk
                go_wp2_with fail
                go_roundw
                case rel => exact ⟨k + 1, by go_num, by omega, by rw [HE.out, ← HLL.out]; exact HOWN.out, hB⟩
                case measure => simp [intOf]; omega
              · have g6 : decide ((t : Int) < (k : Int)) = false := decide_eq_false (by omega)
                have g6' : decide (t < k) = false := decide_eq_false htk
                go_wp2_with fail
                go_roundw
                case rel => exact ⟨k + 1, by go_num, by omega, by rw [HE.out, ← HLL.out]; exact HOWN.out, hB⟩
                case measure => simp [intOf]; omega
            | true =>
              by_cases htk : t < k
              · have g6 : decide ((t : Int) < (k : Int)) = true := decide_eq_true (by omega)
                have g6' : decide (t < k) = true := decide_eq_true htk
                have hwi := fun W => within_any t k W (by omega) (by omega)
                have hwt := hwe wr t (by omega) hcw
                have hwlt := hwl t
                have hPP : need ≤ T ∧ ∀ x, x < t → M.subB x k = true → M.wtQ (M.row W) n x < need := hP.out
                obtain ⟨T2, hT2⟩ : ∃ T2, M.wtQ (M.row W) n t = T2 := ⟨_, rfl⟩
                rw [hT2] at hwt hwlt
                cases hs : M.subB t k with
                | false =>
                  rw [hs] at hwi
                  have HN : Hid (LowP W n need k T (t + 1) true) := ⟨hPP.1, fun x hx hsx => by
                    by_cases e : x = t
                    · rw [e, hs] at hsx; cases hsx
                    · exact hPP.2 x (by omega) hsx⟩
                  clear hP hPP hs hT2
                  go_wp2_with fail
                  refine (hwi _).mono ?_
                  rintro e w2 ⟨rfl, rfl⟩
                  go_wp2_with fail
                  go_roundw
                  case rel => exact ⟨t + 1, true, rfl, by go_num, by omega, HN, trivial⟩
                  case measure => simp [intOf]; omega
                | true =>
                  rw [hs] at hwi
                  cases hd2 : decide (T2 < need) with
                  | true =>
                    have g7 : decide ((T2 : Int) < (need : Int)) = true := decide_eq_true (by have := of_decide_eq_true hd2; omega)
                    have HN : Hid (LowP W n need k T (t + 1) true) := ⟨hPP.1, fun x hx hsx => by
                      by_cases e : x = t
                      · rw [e, hT2]; exact of_decide_eq_true hd2
                      · exact hPP.2 x (by omega) hsx⟩
                    clear hP hPP hs hT2
                    go_wp2_with fail
                    refine (hwi _).mono ?_
                    rintro e w2 ⟨rfl, rfl⟩
                    go_wp2_with fail
                    refine hwt.mono ?_
                    rintro e w2 ⟨rfl, rfl⟩
                    go_wp2_with fail
                    go_roundw
                    case rel => exact ⟨t + 1, true, rfl, by go_num, by omega, HN, trivial⟩
                    case measure => simp [intOf]; omega
                  | false =>
                    have g7 : decide ((T2 : Int) < (need : Int)) = false := decide_eq_false (by have := of_decide_eq_false hd2; omega)
                    have HN : Hid (LowP W n need k T (t + 1) false) := (by
                      cases e : M.voteB (M.row W) n need k with
                      | false => rfl
                      | true =>
                        have h1 := (M.voteB_iff.1 e).2 t hs (by rw [hT2]; have := of_decide_eq_false hd2; omega)
                        omega : M.voteB (M.row W) n need k = false)
                    clear hP hPP hs hT2
                    go_wp2_with fail
                    refine (hwi _).mono ?_
                    rintro e w2 ⟨rfl, rfl⟩
                    go_wp2_with fail
                    refine hwt.mono ?_
                    rintro e w2 ⟨rfl, rfl⟩
                    go_wp2_with fail
                    go_roundw
                    case rel => exact ⟨t + 1, false, rfl, by go_num, by omega, HN, trivial⟩
                    case measure => simp [intOf]; omega
              · obtain rfl : k = t := by omega
                have g6 : decide ((k : Int) < (k : Int)) = false := decide_eq_false (by omega)
                have g6' : decide (k < k) = false := decide_eq_false htk
                have HE : Hid (upB (M.voteB (M.row W) n need) (k + 1) = L ++ [k]) := HHit.out (by
                  obtain ⟨h1, h2⟩ : need ≤ T ∧ ∀ x, x < k → M.subB x k = true → M.wtQ (M.row W) n x < need := hP.out
                  rw [M.voteB_iff]
                  refine ⟨by rw [HT.out]; exact h1, fun x hx hn => Classical.byContradiction fun hne => ?_⟩
                  have h3 := M.sub_le hx
                  have h4 := h2 x (by omega) hx
                  omega)
                have ho3 : wr.ownsRow w1.heap.size 3 1 (.slice p' l c') l (icells L) := by rw [← HLL.out]; exact HOWN.out
                have hszr := hB.size
                clear hP HOWN htk
                go_wp2_with (at_builtin; refine wpList_append_own _ rfl _ _ 22 rfl w1.heap.size 3 i0 (.int .i64 0) 1 8 Tryd.underlying22 hi0 hz0 hz1 hz2 rfl (by decide) _ _ _ rfl (ho3.alloc _) ⟨wr.heap.size, 0, none⟩ 1 1 [.int .i64 (k : Nat)] rfl rfl (cell_one_new _ _ _) (by simp [Value.oneCell']) (by unfold maxLen; omega) (by omega) (by simp; omega) ?_; intro v' w6 hown' hgrow _)
                have hB6 : Below w1.heap.size w1 w6 := (bel_al hB _).grown hgrow (by simp; omega) (fun j e => (ho3.lt j e).1)
                have ho6 : w6.ownsRow w1.heap.size 3 1 v' (upB (M.voteB (M.row W) n need) (k + 1)).length (icells (upB (M.voteB (M.row W) n need) (k + 1))) := by
                  rw [HE.out, icells_snoc, List.length_append, HLL.out]; exact hown'
                clear hown' hgrow ho3 hB
                go_wp2_with fail
                go_roundw
                case rel => exact ⟨k + 1, by go_num, by omega, ho6, hB6⟩
                case measure => simp [intOf]; omega
        · obtain rfl : q = k := by omega
          have hkq : decide ((q : Int) < (q : Int)) = false := decide_eq_false (by omega)
          have HOWN : Hid (wr.ownsRow w1.heap.size 3 1 (.slice p' (upB (M.voteB (M.row W) n need) q).length c') (M.votes (M.row W) W.length need).length (icells (M.votes (M.row W) W.length need))) := by rw [← HQ.out]; exact hown
          obtain ⟨l, hl⟩ : ∃ l, (upB (M.voteB (M.row W) n need) q).length = l := ⟨_, rfl⟩
          rw [hl] at HOWN
          rw [hl]
          clear hown hl
          go_wp2_with fail
          refine (hpo _).mono ?_
          rintro e w2 ⟨rfl, rfl⟩
          go_wp2_with fail
          go_ret2
          exact ⟨_, rfl, HOWN.out, hB⟩
end Go.Proofs.YtfjmealeglbklaaDoor
