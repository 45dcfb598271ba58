/- Package quorum: the least sets of nodes whose weights are at least so much (Votes); what lay in memory lies as it lay. -/
import Derived.Test.YtfjmealeglbklaaDoorQc6
namespace Go.Proofs.YtfjmealeglbklaaDoor
open Go.RowKit

set_option maxRecDepth 100000 in
set_option maxHeartbeats 1000000 in
theorem qVotes_err (zs : List Int) (need : Int) (c : Nat) (p : Option Addr) (n cap : Nat) (w : World) (hl : zs.length = n) (hmax : n ≤ maxLen) (hc : HasI zs p w) (h0 : vcode zs need = c) (hne : c ≠ 0) :
    Calls Tryd.prog 22 #[.slice p n cap, .int .i64 need] w fun e w' => e = .returned (.tuple #[.slice none 0 0, errP c]) ∧ w = w' := by
  have hck := qcv_ok zs need p n cap w hl hmax hc
  rw [h0, terr_ne hne] at hck
  clear hc h0 hne
  go_enter Tryd.func22, Tryd.ntmps22
  go_wp2_with fail
  refine hck.mono ?_
  rintro e w2 ⟨rfl, rfl⟩
  go_wp2_with fail
  go_ret2
  exact ⟨rfl, rfl⟩
/-- what Votes tells -/
def vts (W : List Nat) (need : Nat) : List Nat := M.votes (M.row W) W.length need
set_option maxRecDepth 100000 in
set_option maxHeartbeats 2000000 in
theorem qVotes_ok (W : List Nat) (need : Nat) (p : Option Addr) (n cap : Nat) (w : World) (he : Env w) (hR : VR W need) (hl : W.length = n) (hc : HasI (ints W) p w) :
    Calls Tryd.prog 22 #[.slice p n cap, .int .i64 (need : Nat)] w fun e w' => ∃ v, e = .returned (.tuple #[v, .nilIface]) ∧ w'.ownsRow w.heap.size 3 1 v (vts W need).length (icells (vts W need)) ∧ Below w.heap.size w w' := by
  obtain ⟨i0, hi0, hzz⟩ := Option.map_eq_some_iff.1 infoInt
  simp only [Prod.mk.injEq] at hzz
  obtain ⟨hz0, hz1, hz2⟩ := hzz
  have hN8 : n ≤ 8 := hl ▸ hR.hi
  have hck := qcv_ok (ints W) need p n cap w (by rw [ints_length]; exact hl) (by unfold maxLen; omega) hc
  rw [hR.zero, terr_zero] at hck
  have hen := fun k W' hk h1 h2 => qenough_ok W need k p n cap W' hl h1 hN8 hR.le h2 hk
  have hsp := fun k W' hk hw h1 h2 => qspare_ok W need k p n cap W' hl h1 hN8 hR.le h2 hk hw
  have h8 := pow8 hN8
  obtain ⟨q, hq⟩ : ∃ q : Nat, 2 ^ n = q := ⟨_, rfl⟩
  have hsh := i64_one n hN8 hq
  have HQ : Hid (upB (M.voteB (M.row W) n need) q = vts W need) := (by rw [← hq, ← hl]; rfl : upB (M.voteB (M.row W) n need) q = vts W need)
  have HP : Hid (2 ^ n = q) := hq
  rw [hq] at h8
  have hn64 : (n : Int) < 64 := by omega
  have HC : Hid (HasI (ints W) p w) := hc
  have HE : Hid (Env w) := he
  clear hc hR hl hq he
  go_enter Tryd.func22, Tryd.ntmps22
  go_wp2_with fail
  refine hck.mono ?_
  rintro e w1 ⟨rfl, rfl⟩
  obtain ⟨wo, hwo⟩ : ∃ wo, wo = w := ⟨_, rfl⟩
  subst hwo
  have h10 : wo.ownsRow wo.heap.size 3 1 (.slice none 0 0) (upB (M.voteB (M.row W) n need) 0).length (icells (upB (M.voteB (M.row W) n need) 0)) := ⟨rfl, .inl ⟨rfl, rfl⟩⟩
  clear hck
  go_wp2_with fail
  go_loopw [7, 18] (fun sv v wr => ∃ k : Nat, v = .int .i64 (k : Nat) ∧ k ≤ q ∧ wr.ownsRow wo.heap.size 3 1 sv (upB (M.voteB (M.row W) n need) k).length (icells (upB (M.voteB (M.row W) n need) k)) ∧ Below wo.heap.size wo wr) (fun _ v _ => q - (intOf v).toNat)
  case atStart => exact ⟨0, rfl, Nat.zero_le _, h10, Below.refl _ _⟩
  case round =>
    clear h10
    obtain ⟨k, rfl, hk, hown, hB⟩ := hrel
    obtain ⟨p', c', rfl⟩ := owns_slice hown
    by_cases hlt : k < q
    · have hkq : (k : Int) < (q : Int) := by omega
      have hkn : k < 2 ^ n := by rw [HP.out]; exact hlt
      have hcw := HC.out.later hB
      have hew := HE.out.later hB
      have hen1 := hen k wr hkn hew hcw
      have hsp1 := fun W' hw h1 h2 => hsp k W' hkn hw h1 h2
      have hlight := @M.vote_light (M.row W) n need k
      have hhit := @upB_hit (M.voteB (M.row W) n need) k
      have hmiss := @upB_miss (M.voteB (M.row W) n need) k
      have hlen := upB_len (M.voteB (M.row W) n need) k
      obtain ⟨L, hL⟩ : ∃ L, upB (M.voteB (M.row W) n need) k = L := ⟨_, rfl⟩
      rw [hL] at hown hhit hmiss hlen
      rw [hL]
      obtain ⟨t, ht⟩ : ∃ t, M.wtQ (M.row W) n k = t := ⟨_, rfl⟩
      rw [ht] at hen1 hsp1 hlight
      obtain ⟨b, hb⟩ : ∃ b, M.voteB (M.row W) n need k = b := ⟨_, rfl⟩
      rw [hb] at hsp1 hhit hmiss hlight
      clear ht hb hL hkn
      have HOWN : Hid (wr.ownsRow wo.heap.size 3 1 (.slice p' L.length c') L.length (icells L)) := hown
      obtain ⟨l, hl⟩ : ∃ l, L.length = l := ⟨_, rfl⟩
      have HL : Hid (L.length = l) := hl
      rw [hl] at hown hlen
      rw [hl]
      cases hd : decide (need ≤ t) with
      | false =>
        rw [hd] at hen1
        have HM : Hid (upB (M.voteB (M.row W) n need) (k + 1) = L) := hmiss (hlight (by have := of_decide_eq_false hd; omega))
        clear hhit hmiss hlight hown hl hd hsp1
        go_wp2_with fail
        refine hen1.mono ?_
        rintro e w2 ⟨rfl, hB2⟩
        have FO : Hid (w2.ownsRow wo.heap.size 3 1 (.slice p' L.length c') L.length (icells L)) := owns_below HOWN.out hB2
        have FB : Hid (Below wo.heap.size wo w2) := bel_on hB hB2
        clear hB2 hen1 hB hcw HOWN
        go_wp2_with fail
        go_roundw
        case rel => exact ⟨k + 1, by go_num, by omega, by rw [HM.out, ← HL.out]; exact FO.out, FB.out⟩
        case measure => simp [intOf]; omega
      | true =>
        rw [hd] at hen1
        have hw := of_decide_eq_true hd
        have hsp2 := fun W' h1 h2 => hsp1 W' hw h1 h2
        clear hsp1 hd hw
        cases b with
        | false =>
          have HM : Hid (upB (M.voteB (M.row W) n need) (k + 1) = L) := hmiss rfl
          clear hhit hmiss hlight hown hl
          go_wp2_with fail
          refine hen1.mono ?_
          rintro e w2 ⟨rfl, hB2⟩
          have hsp3 := hsp2 w2 (hew.later hB2) (hcw.later hB2)
          have HO2 : Hid (w2.ownsRow wo.heap.size 3 1 (.slice p' L.length c') L.length (icells L)) := owns_below HOWN.out hB2
          have HB2 : Hid (Below wo.heap.size wo w2) := bel_on hB hB2
          clear hB2 hen1 hB hcw HOWN hsp2 hew
          go_wp2_with fail
          refine hsp3.mono ?_
          rintro e w3 ⟨rfl, hB3⟩
          have FO : Hid (w3.ownsRow wo.heap.size 3 1 (.slice p' L.length c') L.length (icells L)) := owns_below HO2.out hB3
          have FB : Hid (Below wo.heap.size wo w3) := bel_on HB2.out hB3
          clear hB3 hsp3
          go_wp2_with fail
          go_roundw
          case rel => exact ⟨k + 1, by go_num, by omega, by rw [HM.out, ← HL.out]; exact FO.out, FB.out⟩
          case measure => simp [intOf]; omega
        | true =>
          have HM : Hid (upB (M.voteB (M.row W) n need) (k + 1) = L ++ [k]) := hhit rfl
          clear hhit hmiss hlight hown hl
          go_wp2_with fail
          refine hen1.mono ?_
          rintro e w2 ⟨rfl, hB2⟩
          have hsp3 := hsp2 w2 (hew.later hB2) (hcw.later hB2)
          have HO2 : Hid (w2.ownsRow wo.heap.size 3 1 (.slice p' L.length c') L.length (icells L)) := owns_below HOWN.out hB2
          have HB2 : Hid (Below wo.heap.size wo w2) := bel_on hB hB2
          clear hB2 hen1 hB hcw HOWN hsp2 hew
          go_wp2_with fail
          refine hsp3.mono ?_
          rintro e w3 ⟨rfl, hB3⟩
          have ho3 : w3.ownsRow wo.heap.size 3 1 (.slice p' l c') l (icells L) := by rw [← HL.out]; exact owns_below HO2.out hB3
          have hB4 := bel_on HB2.out hB3
          have hszr := hB4.size
          clear hB3 hsp3 HO2 HB2
          go_wp2_with (at_builtin; refine wpList_append_own _ rfl _ _ 22 rfl wo.heap.size 3 i0 (.int .i64 0) 1 8 Tryd.underlying22 hi0 hz0 hz1 hz2 rfl (by decide) _ _ _ rfl (ho3.alloc _) ⟨w3.heap.size, 0, none⟩ 1 1 [.int .i64 (k : Nat)] rfl rfl (cell_one_new _ _ _) (by simp [Value.oneCell']) (by unfold maxLen; omega) (by omega) (by simp; omega) ?_; intro v' w6 hown' hgrow _)
          have hB6 : Below wo.heap.size wo w6 := (bel_al hB4 _).grown hgrow (by simp; omega) (fun j e => (ho3.lt j e).1)
          have ho6 : w6.ownsRow wo.heap.size 3 1 v' (upB (M.voteB (M.row W) n need) (k + 1)).length (icells (upB (M.voteB (M.row W) n need) (k + 1))) := by
            rw [HM.out, icells_snoc, List.length_append, HL.out]; exact hown'
          clear hown' hgrow ho3 hB4
          go_wp2_with fail
          go_roundw
          case rel => exact ⟨k + 1, by go_num, by omega, ho6, hB6⟩
          case measure => simp [intOf]; omega
    · obtain rfl : q = k := by omega
      have HOWN : Hid (wr.ownsRow wo.heap.size 3 1 (.slice p' (upB (M.voteB (M.row W) n need) q).length c') (vts W need).length (icells (vts W need))) := by rw [← HQ.out]; exact hown
      obtain ⟨l, hl⟩ : ∃ l, (upB (M.voteB (M.row W) n need) q).length = l := ⟨_, rfl⟩
      rw [hl] at HOWN
      rw [hl]
      clear hown hl
      go_wp2_with fail
      go_ret2
      exact ⟨_, rfl, HOWN.out, hB⟩
end Go.Proofs.YtfjmealeglbklaaDoor
