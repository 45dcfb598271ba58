/- Package quorum: what is wrong with sets of nodes (Check, checkSet), at whatever numbers; whether some nodes have one of them (Has); whether a number is one of some (package slices, Contains); what lay in memory lies as it lay. -/
import Derived.Test.YtfjmealeglbklaaDoorQc1
namespace Go.Proofs.YtfjmealeglbklaaDoor
open Go.RowKit

/-- what is wrong with a set behind others -/
def qcs (N : Nat) (z : Int) (f : Nat → Nat) (n : Nat) : Nat := if setB z N then (if z = 0 then 3 else if anyN (fun a => (a &&& z.toNat) == 0) f n then 6 else 0) else 1
theorem qone_qcs (N : Nat) (zs : List Int) (i : Nat) : qone N zs i = qcs N (zs[i]?.getD 0) (fun j => (zs[j]?.getD 0).toNat) i := rfl
theorem pow8 {N : Nat} (hN : N ≤ 8) : 2 ^ N ≤ 256 := Nat.pow_le_pow_right (n := 2) (by omega) hN
theorem HasN.al {f : Nat → Nat} {n : Nat} {p : Option Addr} {w : World} (h : HasN f n p w) (o : Obj) : HasN f n p (w.alloc o) := h.later (bel_al (Below.refl _ _) o)
set_option maxRecDepth 100000 in
set_option maxHeartbeats 1000000 in
theorem qset_ok (N : Nat) (z : Int) (f : Nat → Nat) (p : Option Addr) (n cap : Nat) (w : World) (hN : N ≤ 8) (hmax : n ≤ maxLen) (hf : ∀ j, j < n → f j < 4096) (hc : HasN f n p w) :
    Calls Tryd.prog 31 #[.int .i64 (N : Nat), .int .i64 z, .slice p n cap] w fun e w' => e = .returned (terr (qcs N z f n)) ∧ Below w.heap.size w w' := by
  have hB1 : Below w.heap.size w (w.alloc (.cells #[.int .i64 z] 3)) := bel_al (Below.refl _ _) _
  have his := fun W => isSet_any z N W (by omega)
  cases hs : setB z N with
  | false =>
    rw [hs] at his
    have HQ : Hid (qcs N z f n = 1) := (by unfold qcs; rw [hs]; rfl : qcs N z f n = 1)
    clear hs hc hf
    go_enter Tryd.func31, Tryd.ntmps31
    go_wp2_with fail
    refine (his _).mono ?_
    rintro e w2 ⟨rfl, rfl⟩
    go_wp2_with fail
    go_ret
    exact ⟨by rw [HQ.out]; rfl, hB1⟩
  | true =>
  rw [hs] at his
  obtain ⟨s, rfl, hsN⟩ := qset_get hs
  have h8 := pow8 hN
  by_cases h0 : s = 0
  · subst h0
    have HQ : Hid (qcs N ((0 : Nat) : Int) f n = 3) := (by unfold qcs; rw [hs]; rfl : qcs N ((0 : Nat) : Int) f n = 3)
    clear hs hc hf
    go_enter Tryd.func31, Tryd.ntmps31
    go_wp2_with fail
    refine (his _).mono ?_
    rintro e w2 ⟨rfl, rfl⟩
    go_wp2_with fail
    go_ret
    exact ⟨by rw [HQ.out]; rfl, hB1⟩
  · have hall := qcc_ok f s w.heap.size p n cap (w.alloc (.cells #[.int .i64 (s : Nat)] 3)) hmax hf (by omega) (hc.al _) (by simp)
    have hg : ((s : Int) == 0) = false := by simp; omega
    have HE : Hid (qcs N (s : Nat) f n = if anyN (fun a => (a &&& s) == 0) f n then 6 else 0) := (by unfold qcs; rw [hs, if_pos rfl, if_neg (by omega), Int.toNat_natCast] : qcs N (s : Nat) f n = if anyN (fun a => (a &&& s) == 0) f n then 6 else 0)
    obtain ⟨q, hq⟩ : ∃ q, anyN (fun a => (a &&& s) == 0) f n = q := ⟨_, rfl⟩
    rw [hq] at hall HE
    have HB : Hid (Below w.heap.size w (w.alloc (.cells #[.int .i64 (s : Nat)] 3))) := hB1
    clear hs hq hc hf hB1 h0 hsN
    cases q with
    | true =>
      have HQ : Hid (qcs N (s : Nat) f n = 6) := HE.out
      clear HE
      go_enter Tryd.func31, Tryd.ntmps31
      go_wp2_with fail
      refine (his _).mono ?_
      rintro e w2 ⟨rfl, rfl⟩
      go_wp2_with fail
      refine hall.mono ?_
      rintro e w2 ⟨rfl, hB2⟩
      have FB : Hid (Below w.heap.size w w2) := bel_on HB.out hB2
      clear hall hB2 HB
      go_wp2_with fail
      go_ret
      exact ⟨by rw [HQ.out]; rfl, FB.out⟩
    | false =>
      have HQ : Hid (qcs N (s : Nat) f n = 0) := HE.out
      clear HE
      go_enter Tryd.func31, Tryd.ntmps31
      go_wp2_with fail
      refine (his _).mono ?_
      rintro e w2 ⟨rfl, rfl⟩
      go_wp2_with fail
      refine hall.mono ?_
      rintro e w2 ⟨rfl, hB2⟩
      have FB : Hid (Below w.heap.size w w2) := bel_on HB.out hB2
      clear hall hB2 HB
      go_wp2_with fail
      go_ret
      exact ⟨by rw [HQ.out]; rfl, FB.out⟩
theorem qone_nats {N i : Nat} {zs : List Int} {p : Option Addr} {w : World} (hN : N ≤ 8) (hi : i ≤ zs.length) (h : ∀ j, j < i → qone N zs j = 0) (hc : HasI zs p w) : (∀ j, j < i → (fun j => (zs[j]?.getD 0).toNat) j < 4096) ∧ HasN (fun j => (zs[j]?.getD 0).toNat) i p w := by
  have h8 := pow8 hN
  refine ⟨fun j hj => ?_, fun j hj => ?_⟩
  · obtain ⟨s, hz, hs, _⟩ := qone_zero (h j hj)
    show (zs[j]?.getD 0).toNat < 4096
    rw [hz, Int.toNat_natCast]; omega
  · obtain ⟨s, hz, hs, _⟩ := qone_zero (h j hj)
    obtain ⟨b, off, h1, h2, h3⟩ := hc j (by omega)
    refine ⟨b, off, h1, h2, h3.trans ?_⟩
    show some (Value.int .i64 (zs[j]?.getD 0)) = some (Value.int .i64 (((zs[j]?.getD 0).toNat : Nat) : Int))
    rw [hz, Int.toNat_natCast]
set_option maxRecDepth 100000 in
set_option maxHeartbeats 2000000 in
theorem qcheck_ok (m : Int) (zs : List Int) (p : Option Addr) (n cap : Nat) (w : World) (hl : zs.length = n) (hcap : n ≤ cap) (hc : HasI zs p w) :
    Calls Tryd.prog 10 #[.int .i64 m, .slice p n cap] w fun e w' => e = .returned (terr (qcode m zs)) ∧ Below w.heap.size w w' := by
  by_cases hm : m < 1 ∨ 8 < m
  · have HQ : Hid (qcode m zs = 1) := qcode_range hm
    by_cases hm1 : m < 1
    · have g1 : decide (m < 1) = true := decide_eq_true hm1
      clear hm hc
      go_enter Tryd.func10, Tryd.ntmps10
      go_wp2_with fail
      go_ret
      exact ⟨by rw [HQ.out]; rfl, Below.refl _ _⟩
    · have g1 : decide (m < 1) = false := decide_eq_false hm1
      have g2 : decide (8 < m) = true := decide_eq_true (by omega)
      clear hm hc hm1
      go_enter Tryd.func10, Tryd.ntmps10
      go_wp2_with fail
      go_ret
      exact ⟨by rw [HQ.out]; rfl, Below.refl _ _⟩
  obtain ⟨N, rfl⟩ : ∃ N : Nat, m = N := ⟨m.toNat, by omega⟩
  have hN : N ≤ 8 := by omega
  have g1 : decide ((N : Int) < 1) = false := decide_eq_false (by omega)
  have g2 : decide (8 < (N : Int)) = false := decide_eq_false (by omega)
  have HM : Hid (¬ ((N : Int) < 1 ∨ 8 < (N : Int))) := hm
  clear hm
  by_cases h0 : n = 0
  · subst h0
    have HQ : Hid (qcode N zs = 5) := qcode_none HM.out hl
    clear hc
    go_enter Tryd.func10, Tryd.ntmps10
    go_wp2_with fail
    go_ret
    exact ⟨by rw [HQ.out]; rfl, Below.refl _ _⟩
  have g3 : ((n : Int) == 0) = false := by simp; omega
  have hn0 : 0 < n := by omega
  clear h0
  by_cases h20 : 20 < n
  · have HQ : Hid (qcode N zs = 4) := qcode_full HM.out (by omega)
    have g4 : decide (20 < (n : Int)) = true := decide_eq_true (by omega)
    clear hc
    go_enter Tryd.func10, Tryd.ntmps10
    go_wp2_with fail
    go_ret
    exact ⟨by rw [HQ.out]; rfl, Below.refl _ _⟩
  have g4 : decide (20 < (n : Int)) = false := decide_eq_false (by omega)
  have hn20 : n ≤ 20 := by omega
  clear h20
  have HC : Hid (HasI zs p w) := hc
  clear hc
  go_enter Tryd.func10, Tryd.ntmps10
  go_wp2_with fail
  go_loopw [28] (fun v wr => ∃ i : Nat, v = .int .i64 (i : Nat) ∧ i ≤ n ∧ Hid (∀ j, j < i → qone N zs j = 0) ∧ Hid (Below w.heap.size w wr)) (fun v _ => n - (intOf v).toNat)
  case atStart => exact ⟨0, rfl, Nat.zero_le _, fun j h => absurd h (Nat.not_lt_zero _), Below.refl _ _⟩
  case round =>
    obtain ⟨i, rfl, hi, hz, hB⟩ := hrel
    by_cases hlt : i < n
    · have hcl := HC.out.later hB.out
      obtain ⟨hf, hnn⟩ := qone_nats hN (by omega) hz.out hcl
      obtain ⟨b, off, rfl, hb, hcell⟩ := hcl i (by omega)
      have hset := fun W => qset_ok N (zs[i]?.getD 0) (fun j => (zs[j]?.getD 0).toNat) (some ⟨b, off, none⟩) i cap W hN (by unfold maxLen; omega) hf
      rw [← qone_qcs] at hset
      have hcall := hset _ hnn
      obtain ⟨z, hzz⟩ : ∃ z, zs[i]?.getD 0 = z := ⟨_, rfl⟩
      rw [hzz] at hcell hcall
      have hin : (i : Int) < (n : Int) := by omega
      have hic : (i : Int) ≤ (cap : Int) := by omega
      by_cases hq : qone N zs i = 0
      · have HN : Hid (∀ j, j < i + 1 → qone N zs j = 0) := fun j hj => by
          by_cases e : j = i
          · rw [e]; exact hq
          · exact hz.out j (by omega)
        rw [hq] at hcall
        have hcall' : Calls Tryd.prog 31 #[.int .i64 (N : Nat), .int .i64 z, .slice (some ⟨b, off, none⟩) i cap] wr fun e w' => e = .returned .nilIface ∧ Below wr.heap.size wr w' := hcall
        clear hcall hset hnn hf hcl hzz hq
        go_wp2_with fail
        refine hcall'.mono ?_
        rintro e w2 ⟨rfl, hB2⟩
        have FB : Hid (Below w.heap.size w w2) := bel_on hB.out hB2
        clear hcall' hB2
        go_wp2_with fail
        go_roundw
        case rel => exact ⟨i + 1, by go_num, by omega, HN, FB⟩
        case measure => simp [intOf]; omega
      · have HQ : Hid (qcode N zs = qone N zs i) := qcode_bad HM.out (by omega) (by omega) hz.out hq
        obtain ⟨c, hcc⟩ : ∃ c, qone N zs i = c := ⟨_, rfl⟩
        rw [hcc] at HQ hcall hq
        rw [terr_ne hq] at hcall
        have HQN : Hid (c ≠ 0) := hq
        clear hset hnn hf hcl hzz hcc hq
        go_wp2_with fail
        refine hcall.mono ?_
        rintro e w2 ⟨rfl, hB2⟩
        have FB : Hid (Below w.heap.size w w2) := bel_on hB.out hB2
        clear hcall hB2
        go_wp2_with fail
        go_ret
        exact ⟨by rw [HQ.out, terr_ne HQN.out]; rfl, FB.out⟩
    · obtain rfl : n = i := by omega
      have HQ : Hid (qcode N zs = 0) := qcode_good HM.out (by omega) (by omega) (fun j hj => hz.out j (by omega))
      go_wp2_with fail
      go_ret
      exact ⟨by rw [HQ.out]; rfl, hB.out⟩
/-- the code of what Has refuses -/
def hcodeQ (m : Int) (zs : List Int) (s : Int) : Nat := if qcode m zs = 0 then (if setB s m.toNat then 0 else 1) else qcode m zs
def errP (c : Nat) : Value := .iface 53 (.int .i64 (c : Nat))
set_option maxRecDepth 100000 in
set_option maxHeartbeats 1000000 in
theorem qHas_err (m : Int) (zs : List Int) (s : Int) (c : Nat) (p : Option Addr) (n cap : Nat) (w : World) (hl : zs.length = n) (hcap : n ≤ cap) (hc : HasI zs p w) (h0 : hcodeQ m zs s = c) (hne : c ≠ 0) :
    Calls Tryd.prog 20 #[.int .i64 m, .slice p n cap, .int .i64 s] w fun e w' => e = .returned (.tuple #[.bool false, errP c]) ∧ Below w.heap.size w w' := by
  have hck := qcheck_ok m zs p n cap w hl hcap hc
  by_cases hq : qcode m zs = 0
  · obtain ⟨N, S, rfl, rfl, hR⟩ := qcode_get hq
    unfold hcodeQ at h0
    rw [if_pos hq, Int.toNat_natCast] at h0
    have his := fun W => isSet_any s N W (by have := hR.hi; omega)
    rw [hq] at hck
    have hck' : Calls Tryd.prog 10 #[.int .i64 (N : Nat), .slice p n cap] w fun e w' => e = .returned .nilIface ∧ Below w.heap.size w w' := hck
    cases hs : setB s N with
    | true => rw [hs] at h0; exact absurd h0.symm hne
    | false =>
      rw [hs] at his h0
      have HC : Hid (c = 1) := h0.symm
      clear hck hq hc h0 hne hs hR
      go_enter Tryd.func20, Tryd.ntmps20
      go_wp2_with fail
      refine hck'.mono ?_
      rintro e w2 ⟨rfl, hB⟩
      go_wp2_with fail
      refine (his _).mono ?_
      rintro e w3 ⟨rfl, rfl⟩
      go_wp2_with fail
      go_ret2
      exact ⟨by rw [HC.out]; rfl, hB⟩
  · unfold hcodeQ at h0
    rw [if_neg hq] at h0
    rw [h0, terr_ne hne] at hck
    clear hq hc h0 hne
    go_enter Tryd.func20, Tryd.ntmps20
    go_wp2_with fail
    refine hck.mono ?_
    rintro e w2 ⟨rfl, hB⟩
    go_wp2_with fail
    go_ret2
    exact ⟨rfl, hB⟩
theorem qcheck_nil (N : Nat) (S : List Nat) (p : Option Addr) (n cap : Nat) (w : World) (hR : QR N S) (hl : S.length = n) (hcap : n ≤ cap) (hc : HasI (ints S) p w) :
    Calls Tryd.prog 10 #[.int .i64 (N : Nat), .slice p n cap] w fun e w' => e = .returned .nilIface ∧ Below w.heap.size w w' := by
  have h := qcheck_ok N (ints S) p n cap w (by rw [ints_length]; exact hl) hcap hc
  rw [hR.code] at h; exact h
set_option maxRecDepth 100000 in
set_option maxHeartbeats 1000000 in
theorem qHas_ok (N : Nat) (S : List Nat) (s : Nat) (p : Option Addr) (n cap : Nat) (w : World) (hR : QR N S) (hs : s < 2 ^ N) (hl : S.length = n) (hcap : n ≤ cap) (hc : HasI (ints S) p w) :
    Calls Tryd.prog 20 #[.int .i64 (N : Nat), .slice p n cap, .int .i64 (s : Nat)] w fun e w' => e = .returned (.tuple #[.bool (M.hasQ S s), .nilIface]) ∧ Below w.heap.size w w' := by
  have hck := qcheck_nil N S p n cap w hR hl hcap hc
  have h8 := pow8 hR.hi
  have his : ∀ W, Calls Tryd.prog 38 #[.int .i64 (s : Nat), .int .i64 (N : Nat)] W fun e w' => e = .returned (.bool true) ∧ W = w' := fun W => by have := isSet_any (s : Int) N W (by have := hR.hi; omega); rw [qset_nat hs] at this; exact this
  have hh := fun W h => qhas_ok S s p n cap W hl (by have := hR.len; unfold maxLen; omega) (fun j => by have := hR.row j; omega) (by omega) h
  obtain ⟨q, hq⟩ : ∃ q, M.hasQ S s = q := ⟨_, rfl⟩
  rw [hq] at hh
  rw [hq]
  have HC : Hid (HasI (ints S) p w) := hc
  clear hq hc hR hs hl
  go_enter Tryd.func20, Tryd.ntmps20
  go_wp2_with fail
  refine hck.mono ?_
  rintro e w2 ⟨rfl, hB⟩
  go_wp2_with fail
  refine (his _).mono ?_
  rintro e w3 ⟨rfl, rfl⟩
  go_wp2_with fail
  refine (hh _ (HC.out.later hB)).mono ?_
  rintro e w4 ⟨rfl, hB2⟩
  have FB : Hid (Below w.heap.size w w4) := bel_on hB hB2
  clear hB hB2
  go_wp2_with fail
  go_ret2
  exact ⟨rfl, FB.out⟩

set_option maxRecDepth 100000 in
set_option maxHeartbeats 1000000 in
theorem qindex_ok (S : List Nat) (s : Nat) (p : Option Addr) (n cap : Nat) (w : World) (hl : S.length = n) (hmax : n ≤ maxLen) (hc : HasI (ints S) p w) :
    Calls Tryd.prog 46 #[.slice p n cap, .int .i64 (s : Nat)] w fun e w' => ∃ z : Int, e = .returned (.int .i64 z) ∧ decide (0 ≤ z) = S.contains s ∧ w = w' := by
  unfold maxLen at hmax
  have HC : Hid (HasN (M.row S) n p w) := by have := hc.toN; rw [hl] at this; exact this
  have HL : Hid (S.length = n) := hl
  obtain ⟨r, hr⟩ : ∃ r, S.contains s = r := ⟨_, rfl⟩
  rw [hr]
  have HR : Hid (S.contains s = r) := hr
  clear hr
  clear hc hl
  go_enter Tryd.func46, Tryd.ntmps46
  go_wp2_with fail
  go_loop [5, 8] (fun _ v => ∃ k : Nat, v = .int .i64 (k : Nat) ∧ k ≤ n ∧ Hid (∀ j, j < k → M.row S j ≠ s)) (fun _ v => n - (intOf v).toNat)
  case atStart => exact ⟨0, rfl, Nat.zero_le _, fun j h => absurd h (Nat.not_lt_zero _)⟩
  case round =>
    obtain ⟨k, rfl, hk, hz⟩ := hrel
    by_cases hlt : k < n
    · obtain ⟨b, off, rfl, hb, hcell⟩ := HC.out k hlt
      obtain ⟨o, ho⟩ : ∃ o, M.row S k = o := ⟨_, rfl⟩
      rw [ho] at hcell
      have HO : Hid (M.row S k = o) := ho
      clear ho
      have hin : (k : Int) < (n : Int) := by omega
      by_cases e : s = o
      · have hg : ((s : Int) == (o : Int)) = true := by simp; omega
        have HG : Hid (r = true) := (HR.out.symm.trans <| List.contains_iff_mem.2 (by have := M.row_inS (S := S) (i := k) (by rw [HL.out]; exact hlt); rw [HO.out, ← e] at this; exact this) : r = true)
        clear e
        go_wp2_with fail
        go_ret
        exact ⟨k, rfl, by rw [HG.out, decide_eq_true_eq]; omega, rfl⟩
      · have hg : ((s : Int) == (o : Int)) = false := by simp; omega
        have HN : Hid (∀ j, j < k + 1 → M.row S j ≠ s) := fun j hj => by
          by_cases e' : j = k
          · rw [e', HO.out]; exact fun h => e h.symm
          · exact hz.out j (by omega)
        clear e
        go_wp2_with fail
        go_round
        case rel => exact ⟨k + 1, by go_num, by omega, HN⟩
        case measure => simp [intOf]; omega
    · obtain rfl : n = k := by omega
      have HG : Hid (r = false) := (by
        rw [← HR.out]
        rw [Bool.eq_false_iff]
        intro h
        obtain ⟨i, hi, e⟩ := M.row_get (List.contains_iff_mem.1 h)
        exact hz.out i (by rw [← HL.out]; exact hi) e : r = false)
      go_wp2_with fail
      go_ret
      exact ⟨-1, rfl, by rw [HG.out]; rfl, rfl⟩
set_option maxRecDepth 100000 in
set_option maxHeartbeats 1000000 in
theorem qcontains_ok (S : List Nat) (s : Nat) (p : Option Addr) (n cap : Nat) (w : World) (hl : S.length = n) (hmax : n ≤ maxLen) (hc : HasI (ints S) p w) :
    Calls Tryd.prog 32 #[.slice p n cap, .int .i64 (s : Nat)] w fun e w' => e = .returned (.bool (S.contains s)) ∧ w = w' := by
  have hi := qindex_ok S s p n cap w hl hmax hc
  clear hc hl
  go_enter Tryd.func32, Tryd.ntmps32
  go_wp2_with fail
  refine hi.mono ?_
  rintro e w2 ⟨z, rfl, hz, rfl⟩
  have HZ : Hid (decide (0 ≤ z) = S.contains s) := hz
  clear hi hz
  go_wp2
  go_ret
  exact ⟨bool_ret HZ.out, rfl⟩
end Go.Proofs.YtfjmealeglbklaaDoor
