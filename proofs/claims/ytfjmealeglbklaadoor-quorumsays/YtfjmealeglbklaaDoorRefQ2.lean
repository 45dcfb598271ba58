/- The document's own answer on the least sets (package whensteadref4, Least); what lay in memory lies as it lay. -/
import Derived.Test.YtfjmealeglbklaaDoorRefQ1
import Derived.Test.YtfjmealeglbklaaDoorOwnI
namespace Go.Proofs.YtfjmealeglbklaaDoor
open Go.RowKit

theorem anyN_next (P : Nat → Bool) (f : Nat → Nat) (n : Nat) : anyN P f (n + 1) = (anyN P f n || P (f n)) := by
  unfold anyN; rw [List.range_succ, List.any_append]; simp
theorem contains_anyN (S : List Nat) (s : Nat) : anyN (fun a => a == s) (M.row S) S.length = S.contains s := by
  rw [anyN_row, Bool.eq_iff_iff, List.any_eq_true, List.contains_iff_mem]
  constructor
  · rintro ⟨a, ha, h⟩; rw [← beq_iff_eq.1 h]; exact ha
  · intro h; exact ⟨s, h, by simp⟩
theorem hasO_anyN (S : List Nat) (s : Nat) : anyN (fun a => a != s && M.subB a s) (M.row S) S.length = M.hasO S s := by rw [anyN_row]; rfl
set_option maxRecDepth 100000 in
set_option maxHeartbeats 4000000 in
theorem rleast_ok (N : Nat) (S : List Nat) (p : Option Addr) (n cap : Nat) (w : World) (hR : QR N S) (hl : S.length = n) (hc : HasI (ints S) p w) :
    Calls Tryd.prog 11 #[.int .i64 (N : Nat), .slice p n cap] w fun e w' => ∃ v, e = .returned v ∧ w'.ownsRow w.heap.size 3 1 v (M.leastQ N S).length (icells (M.leastQ N S)) ∧ Below w.heap.size w w' := by
  obtain ⟨i0, hi0, hzz⟩ := Option.map_eq_some_iff.1 infoInt
  simp only [Prod.mk.injEq] at hzz
  obtain ⟨hz0, hz1, hz2⟩ := hzz
  have hn20 : n ≤ 20 := hl ▸ hR.len
  have hN8 := hR.hi
  have h8 := pow8 hN8
  have hN1 : 2 ^ 1 ≤ 2 ^ N := Nat.pow_le_pow_right (by omega) hR.lo
  obtain ⟨q, hq⟩ : ∃ q : Nat, 2 ^ N = q := ⟨_, rfl⟩
  have hpo := fun W => pow2_any N q W (by omega) hq
  have HQ : Hid (upB (M.lowQ S) q = M.leastQ N S) := (by rw [← hq]; rfl : upB (M.lowQ S) q = M.leastQ N S)
  rw [hq] at h8 hN1
  have hz : M.lowQ S 0 = false := by
    cases e : M.lowQ S 0 with
    | false => rfl
    | true => exact absurd rfl (hR.ok.pos _ (M.lowQ_iff.1 e).1)
  have h10 : w.ownsRow w.heap.size 3 1 (.slice none 0 0) (upB (M.lowQ S) 1).length (icells (upB (M.lowQ S) 1)) := by
    rw [upB_miss hz]; exact ⟨rfl, .inl ⟨rfl, rfl⟩⟩
  have HC : Hid (HasI (ints S) p w) := hc
  have HL : Hid (S.length = n) := hl
  have HR : Hid (QR N S) := hR
  obtain ⟨w1, hw1⟩ : ∃ w1, w1 = w := ⟨_, rfl⟩
  subst hw1
  clear hc hR hl hq hz
  go_enter Tryd.func11, Tryd.ntmps11
  go_wp2_with fail
  go_loopw [5, 6] (fun sv v wr => ∃ k : Nat, v = .int .i64 (k : Nat) ∧ k ≤ q ∧ wr.ownsRow w1.heap.size 3 1 sv (upB (M.lowQ S) k).length (icells (upB (M.lowQ S) k)) ∧ Below w1.heap.size w1 wr) (fun _ v _ => q - (intOf v).toNat)
  case atStart => exact ⟨1, rfl, by omega, h10, Below.refl _ _⟩
  case round =>
    clear h10
    obtain ⟨k, rfl, hk, hown, hB⟩ := hrel
    obtain ⟨p', c', rfl⟩ := owns_slice hown
    by_cases hlt : k < q
    · have hkq : decide ((k : Int) < (q : Int)) = true := decide_eq_true (by omega)
      have hlow := M.lowQ_eq S k
      have hhit := @upB_hit (M.lowQ S) k
      have hmiss := @upB_miss (M.lowQ S) k
      have hlen := upB_len (M.lowQ S) k
      obtain ⟨L, hL⟩ : ∃ L, upB (M.lowQ S) k = L := ⟨_, rfl⟩
      rw [hL] at hown hhit hmiss hlen
      rw [hL]
      clear hL
      rw [hlow] at hhit hmiss
      have HOWN : Hid (wr.ownsRow w1.heap.size 3 1 (.slice p' L.length c') L.length (icells L)) := hown
      obtain ⟨l, hl⟩ : ∃ l, L.length = l := ⟨_, rfl⟩
      have HLL : Hid (L.length = l) := hl
      rw [hl] at hown hlen
      rw [hl]
      have HHit : Hid ((S.contains k && !M.hasO S k) = true → upB (M.lowQ S) (k + 1) = L ++ [k]) := hhit
      have HMiss : Hid ((S.contains k && !M.hasO S k) = false → upB (M.lowQ S) (k + 1) = L) := hmiss
      obtain ⟨wo, hwo⟩ : ∃ wo, wo = wr := ⟨_, rfl⟩
      subst hwo
      have hk8 : k < 256 := by omega
      clear hhit hmiss hlow hown hl
      go_wp2_with fail
      refine (hpo _).mono ?_
      rintro e w2 ⟨rfl, rfl⟩
      go_wp2_with fail
      go_loopw [7, 8, 9] (fun u1 u2 v wr => ∃ (i : Nat) (a b : Bool), u1 = .bool a ∧ u2 = .bool (!b) ∧ v = .int .i64 (i : Nat) ∧ i ≤ n ∧ Hid (anyN (fun a => a == k) (M.row S) i = a) ∧ Hid (anyN (fun a => a != k && M.subB a k) (M.row S) i = b) ∧ wr = wo) (fun _ _ v _ => n - (intOf v).toNat)
      case atStart => exact ⟨0, false, false, rfl, rfl, rfl, Nat.zero_le _, (rfl : anyN (fun a => a == k) (M.row S) 0 = false), (rfl : anyN (fun a => a != k && M.subB a k) (M.row S) 0 = false), rfl⟩
      case round =>
        obtain ⟨i, a, b, rfl, rfl, rfl, hi, ha, hb, rfl⟩ := hrel
        by_cases hin : i < n
        · obtain ⟨bb, off, rfl, hbb, hcell⟩ := (HC.out.later hB) i (by rw [ints_length, HL.out]; exact hin)
          rw [ints_get] at hcell
          have hri := HR.out.row i
          have hsa := anyN_next (fun a => a == k) (M.row S) i
          have hsb := anyN_next (fun a => a != k && M.subB a k) (M.row S) i
          rw [ha.out] at hsa
          rw [hb.out] at hsb
          obtain ⟨x, hx⟩ : ∃ x, M.row S i = x := ⟨_, rfl⟩
          rw [hx] at hcell hri hsa hsb
          have hwi := fun W => within_any x k W (by omega) (by omega)
          obtain ⟨c, hcc⟩ : ∃ c, M.subB x k = c := ⟨_, rfl⟩
          rw [hcc] at hwi hsb
          have hinl : (i : Int) < (n : Int) := by omega
          clear hx hcc ha hb
          by_cases hxk : x = k
          · have g1 : ((x : Int) == (k : Int)) = true := by simp; omega
            have e1 : (x == k) = true := by simp; omega
            have e2 : (x != k) = false := by simp; omega
            rw [e1, Bool.or_true] at hsa
            rw [e2, Bool.false_and, Bool.or_false] at hsb
            have HSA : Hid (anyN (fun a => a == k) (M.row S) (i + 1) = true) := hsa
            have HSB : Hid (anyN (fun a => a != k && M.subB a k) (M.row S) (i + 1) = b) := hsb
            clear hsa hsb hxk e1 e2 hwi
            cases a with
            | true =>
              cases b with
              | true =>
                go_wp2_with fail
                go_roundw
                case rel => exact ⟨i + 1, true, true, rfl, rfl, by go_num, by omega, HSA, HSB, trivial⟩
                case measure => simp [intOf]; omega
              | false =>
                go_wp2_with fail
                go_roundw
                case rel => exact ⟨i + 1, true, false, rfl, rfl, by go_num, by omega, HSA, HSB, trivial⟩
                case measure => simp [intOf]; omega
            | false =>
              cases b with
              | true =>
                go_wp2_with fail
                go_roundw
                case rel => exact ⟨i + 1, true, true, rfl, rfl, by go_num, by omega, HSA, HSB, trivial⟩
                case measure => simp [intOf]; omega
              | false =>
                go_wp2_with fail
                go_roundw
                case rel => exact ⟨i + 1, true, false, rfl, rfl, by go_num, by omega, HSA, HSB, trivial⟩
                case measure => simp [intOf]; omega
          · have g1 : ((x : Int) == (k : Int)) = false := by simp; omega
            have e1 : (x == k) = false := by simp; omega
            have e2 : (x != k) = true := by simp; omega
            rw [e1, Bool.or_false] at hsa
            rw [e2, Bool.true_and] at hsb
            have HSA : Hid (anyN (fun a => a == k) (M.row S) (i + 1) = a) := hsa
            clear hsa hxk e1 e2
            cases a with
            | true =>
              cases b with
              | true =>
                have HSB : Hid (anyN (fun a => a != k && M.subB a k) (M.row S) (i + 1) = true) := hsb
                clear hsb hwi
                go_wp2_with fail
                go_roundw
                case rel => exact ⟨i + 1, true, true, rfl, rfl, by go_num, by omega, HSA, HSB, trivial⟩
                case measure => simp [intOf]; omega
              | false =>
                cases c with
                | true =>
                  have HSB : Hid (anyN (fun a => a != k && M.subB a k) (M.row S) (i + 1) = true) := hsb
                  clear hsb
                  go_wp2_with fail
                  refine (hwi _).mono ?_
                  rintro e w2 ⟨rfl, rfl⟩
                  go_wp2_with fail
                  go_roundw
                  case rel => exact ⟨i + 1, true, true, rfl, rfl, by go_num, by omega, HSA, HSB, trivial⟩
                  case measure => simp [intOf]; omega
                | false =>
                  have HSB : Hid (anyN (fun a => a != k && M.subB a k) (M.row S) (i + 1) = false) := hsb
                  clear hsb
                  go_wp2_with fail
                  refine (hwi _).mono ?_
                  rintro e w2 ⟨rfl, rfl⟩
                  go_wp2_with fail
                  go_roundw
                  case rel => exact ⟨i + 1, true, false, rfl, rfl, by go_num, by omega, HSA, HSB, trivial⟩
                  case measure => simp [intOf]; omega
            | false =>
              cases b with
              | true =>
                have HSB : Hid (anyN (fun a => a != k && M.subB a k) (M.row S) (i + 1) = true) := hsb
                clear hsb hwi
                go_wp2_with fail
                go_roundw
                case rel => exact ⟨i + 1, false, true, rfl, rfl, by go_num, by omega, HSA, HSB, trivial⟩
                case measure => simp [intOf]; omega
              | false =>
                cases c with
                | true =>
                  have HSB : Hid (anyN (fun a => a != k && M.subB a k) (M.row S) (i + 1) = true) := hsb
                  clear hsb
                  go_wp2_with fail
                  refine (hwi _).mono ?_
                  rintro e w2 ⟨rfl, rfl⟩
                  go_wp2_with fail
                  go_roundw
                  case rel => exact ⟨i + 1, false, true, rfl, rfl, by go_num, by omega, HSA, HSB, trivial⟩
                  case measure => simp [intOf]; omega
                | false =>
                  have HSB : Hid (anyN (fun a => a != k && M.subB a k) (M.row S) (i + 1) = false) := hsb
                  clear hsb
                  go_wp2_with fail
                  refine (hwi _).mono ?_
                  rintro e w2 ⟨rfl, rfl⟩
                  go_wp2_with fail
                  go_roundw
                  case rel => exact ⟨i + 1, false, false, rfl, rfl, by go_num, by omega, HSA, HSB, trivial⟩
                  case measure => simp [intOf]; omega
        · obtain rfl : i = n := by omega
          have hca : S.contains k = a := by rw [← contains_anyN, HL.out]; exact ha.out
          have hcb : M.hasO S k = b := by rw [← hasO_anyN, HL.out]; exact hb.out
          have HH := HHit.out
          have HM := HMiss.out
          rw [hca, hcb] at HH HM
          clear ha hb hca hcb
          cases a with
          | false =>
            have HE : Hid (upB (M.lowQ S) (k + 1) = L) := HM rfl
            clear HH HM
            go_wp2_with fail
            go_roundw
            case rel => exact ⟨k + 1, by go_num, by omega, by rw [HE.out, ← HLL.out]; exact HOWN.out, hB⟩
            case measure => simp [intOf]; omega
          | true =>
          cases b with
          | true =>
            have HE : Hid (upB (M.lowQ S) (k + 1) = L) := HM rfl
            clear HH HM
            go_wp2_with fail
            go_roundw
            case rel => exact ⟨k + 1, by go_num, by omega, by rw [HE.out, ← HLL.out]; exact HOWN.out, hB⟩
            case measure => simp [intOf]; omega
          | false =>
            have HE : Hid (upB (M.lowQ S) (k + 1) = L ++ [k]) := HH rfl
            have ho3 : wr.ownsRow w1.heap.size 3 1 (.slice p' l c') l (icells L) := by rw [← HLL.out]; exact HOWN.out
            have hszr := hB.size
            clear HH HM HOWN
            go_wp2_with (at_builtin; refine wpList_append_own _ rfl _ _ 22 rfl w1.heap.size 3 i0 (.int .i64 0) 1 8 Tryd.underlying22 hi0 hz0 hz1 hz2 rfl (by decide) _ _ _ rfl (ho3.alloc _) ⟨wr.heap.size, 0, none⟩ 1 1 [.int .i64 (k : Nat)] rfl rfl (cell_one_new _ _ _) (by simp [Value.oneCell']) (by unfold maxLen; omega) (by omega) (by simp; omega) ?_; intro v' w6 hown' hgrow _)
            have hB6 : Below w1.heap.size w1 w6 := (bel_al hB _).grown hgrow (by simp; omega) (fun j e => (ho3.lt j e).1)
            have ho6 : w6.ownsRow w1.heap.size 3 1 v' (upB (M.lowQ S) (k + 1)).length (icells (upB (M.lowQ S) (k + 1))) := by
              rw [HE.out, icells_snoc, List.length_append, HLL.out]; exact hown'
            clear hown' hgrow ho3 hB
            go_wp2_with fail
            go_roundw
            case rel => exact ⟨k + 1, by go_num, by omega, ho6, hB6⟩
            case measure => simp [intOf]; omega
    · obtain rfl : q = k := by omega
      have hkq : decide ((q : Int) < (q : Int)) = false := decide_eq_false (by omega)
      have HOWN : Hid (wr.ownsRow w1.heap.size 3 1 (.slice p' (upB (M.lowQ S) q).length c') (M.leastQ N S).length (icells (M.leastQ N S))) := by rw [← HQ.out]; exact hown
      obtain ⟨l, hl⟩ : ∃ l, (upB (M.lowQ S) q).length = l := ⟨_, rfl⟩
      rw [hl] at HOWN
      rw [hl]
      clear hown hl
      go_wp2_with fail
      refine (hpo _).mono ?_
      rintro e w2 ⟨rfl, rfl⟩
      go_wp2_with fail
      go_ret
      exact ⟨_, rfl, HOWN.out, hB⟩
end Go.Proofs.YtfjmealeglbklaaDoor
