/- WHAT IS SAID OF SETS THAT MEET IS WHAT THE DOCUMENT SAYS (law QuorumSays), the walk. -/
import Derived.Test.YtfjmealeglbklaaDoorQc7
import Derived.Test.YtfjmealeglbklaaDoorRefQ2
import Derived.Test.YtfjmealeglbklaaDoorRefQ3
import Derived.Test.YtfjmealeglbklaaDoorRefQ4
import Derived.Test.YtfjmealeglbklaaDoorErr
namespace Go.Proofs.YtfjmealeglbklaaDoor
open Go.RowKit

/-- what is told of votes, where nothing is wrong -/
def votesZ (ys : List Int) (need : Int) : List Nat := if vcode ys need = 0 then vts (qnats ys) need.toNat else []
theorem qnats_ints (W : List Nat) : qnats (ints W) = W := by
  unfold qnats ints; rw [List.map_map]; exact (List.map_congr_left (fun x _ => by simp)).trans (List.map_id _)
theorem votesZ_len (ys : List Int) (need : Int) : (votesZ ys need).length ≤ 256 := by
  unfold votesZ
  by_cases h : vcode ys need = 0
  · rw [if_pos h]
    obtain ⟨W, nd, rfl, rfl, hR⟩ := vcode_get h
    rw [qnats_ints, Int.toNat_natCast]
    have := upB_len (M.voteB (M.row W) W.length nd) (2 ^ W.length)
    have h9 := pow8 hR.hi
    exact Nat.le_trans this h9
  · rw [if_neg h]; exact Nat.zero_le _
theorem hasI_nil (w : World) : HasI (ints []) none w := fun _ hj => absurd hj (Nat.not_lt_zero _)
theorem rvotes_any (ys : List Int) (need : Int) (p : Option Addr) (n cap : Nat) (w : World) (hl : ys.length = n) (hmax : n ≤ maxLen) (hc : HasI ys p w) :
    Calls Tryd.prog 21 #[.slice p n cap, .int .i64 need] w fun e w' => ∃ pv cv, e = .returned (.tuple #[.slice pv (votesZ ys need).length cv, .int .i64 (vcode ys need : Nat)]) ∧ HasI (ints (votesZ ys need)) pv w' ∧ Below w.heap.size w w' := by
  unfold votesZ
  by_cases h : vcode ys need = 0
  · rw [if_pos h, h]
    obtain ⟨W, nd, rfl, rfl, hR⟩ := vcode_get h
    rw [qnats_ints, Int.toNat_natCast]
    rw [ints_length] at hl
    refine (rvotes_ok W nd p n cap w hR hl hc).mono ?_
    rintro e w' ⟨v, rfl, hown, hB⟩
    obtain ⟨pv, cv, rfl⟩ := owns_slice hown
    exact ⟨pv, cv, rfl, hasI_of_owns rfl hown, hB⟩
  · rw [if_neg h]
    refine (rvotes_err ys need _ p n cap w hl hmax hc rfl h).mono ?_
    rintro e w' ⟨rfl, rfl⟩
    exact ⟨none, 0, rfl, hasI_nil _, Below.refl _ _⟩
theorem qvotes_any (ys : List Int) (need : Int) (p : Option Addr) (n cap : Nat) (w : World) (he : Env w) (hl : ys.length = n) (hmax : n ≤ maxLen) (hc : HasI ys p w) :
    Calls Tryd.prog 22 #[.slice p n cap, .int .i64 need] w fun e w' => ∃ pv cv, e = .returned (.tuple #[.slice pv (votesZ ys need).length cv, terr (vcode ys need)]) ∧ HasI (ints (votesZ ys need)) pv w' ∧ Below w.heap.size w w' := by
  unfold votesZ
  by_cases h : vcode ys need = 0
  · rw [if_pos h, h]
    obtain ⟨W, nd, rfl, rfl, hR⟩ := vcode_get h
    rw [qnats_ints, Int.toNat_natCast]
    rw [ints_length] at hl
    refine (qVotes_ok W nd p n cap w he hR hl hc).mono ?_
    rintro e w' ⟨v, rfl, hown, hB⟩
    obtain ⟨pv, cv, rfl⟩ := owns_slice hown
    exact ⟨pv, cv, rfl, hasI_of_owns rfl hown, hB⟩
  · rw [if_neg h, terr_ne h]
    refine (qVotes_err ys need _ p n cap w hl hmax hc rfl h).mono ?_
    rintro e w' ⟨rfl, rfl⟩
    exact ⟨none, 0, rfl, hasI_nil _, Below.refl _ _⟩
theorem error_code (c : Nat) (w : World) (hg : Ety w) : Calls Tryd.prog 9 #[terr c, .int .i64 (c : Nat)] w fun e w' => e = .returned (.bool true) ∧ Below w.heap.size w w' := by
  by_cases h : c = 0
  · subst h
    refine (error_nil w).mono ?_
    rintro e w' ⟨rfl, rfl⟩
    exact ⟨rfl, Below.refl _ _⟩
  · rw [terr_ne h]; exact error_same _ w hg
set_option maxRecDepth 100000 in
set_option maxHeartbeats 8000000 in
theorem qs_walk (m : Int) (zs : List Int) (p : Option Addr) (n cap : Nat) (sz : Int) (ys : List Int) (q : Option Addr) (k cap2 : Nat) (need : Int) (w : World) (he : Env w) (hg : Ety w) (_ : (Lit.int .i64 m).wf = true) (hl : zs.length = n) (hmax : n ≤ maxLen) (hc : HasI zs p w) (_ : ∀ k : Nat, zs[k]?.getD 0 < 9223372036854775808) (hcap : n ≤ cap) (_ : cap ≤ maxLen) (_ : (Lit.int .i64 sz).wf = true) (hl2 : ys.length = k) (hmax2 : k ≤ maxLen) (hd : HasI ys q w) (_ : ∀ k : Nat, ys[k]?.getD 0 < 9223372036854775808) (_ : (Lit.int .i64 need).wf = true) :
    Calls Tryd.prog 3 #[.int .i64 m, .slice p n cap, .int .i64 sz, .slice q k cap2, .int .i64 need] w fun e w' => e = .returned (.bool true) ∧ Below w.heap.size w w' := by
  have HZ : Hid (HasI zs p w) := hc
  have HY : Hid (HasI ys q w) := hd
  have HE : Hid (Env w) := he
  have HG : Hid (Ety w) := hg
  have hvm := fun W h => rvotes_any ys need q k cap2 W hl2 hmax2 h
  have hvq := fun W h1 h2 => qvotes_any ys need q k cap2 W h1 hl2 hmax2 h2
  have hll := votesZ_len ys need
  obtain ⟨V, hV⟩ : ∃ V, votesZ ys need = V := ⟨_, rfl⟩
  rw [hV] at hvm hvq hll
  obtain ⟨l, hl3⟩ : ∃ l, V.length = l := ⟨_, rfl⟩
  rw [hl3] at hvm hvq hll
  obtain ⟨c2, hc2⟩ : ∃ c, vcode ys need = c := ⟨_, rfl⟩
  rw [hc2] at hvm hvq
  have hev := fun W h => error_code c2 W h
  obtain ⟨ev, hevv⟩ : ∃ ev, terr c2 = ev := ⟨_, rfl⟩
  rw [hevv] at hvq hev
  have HVL : Hid (V.length = l) := hl3
  have hsi := fun W (p1 p2 : Option Addr) c1 c2 h1 h2 => same_intsI (ints V) p1 p2 l c1 c2 W (by rw [ints_length]; exact HVL.out) (by unfold maxLen; omega) h1 h2
  clear hc hd he hg hV hl3 hc2 hevv hl2 hmax2
  have hrs := fun W h => rsets_ok m zs p n cap W hl hmax h
  have hqc := fun W h => qcheck_ok m zs p n cap W hl hcap h
  go_enter Tryd.func3, Tryd.ntmps3
  go_wp2_with fail
  by_cases h0 : qcode m zs = 0
  · obtain ⟨N, S, rfl, rfl, hR⟩ := qcode_get h0
    rw [h0] at hrs hqc
    rw [ints_length] at hl
    have hN8 := hR.hi
    have hn20 : n ≤ 20 := hl ▸ hR.len
    have h8 := pow8 hN8
    have hQL := fun W h => qLeast_ok N S p n cap W hR hl hcap h
    have hRL := fun W h => rleast_ok N S p n cap W hR hl h
    have hQF := fun W h => qFull_ok N S p n cap W hR hl hcap h
    have hRF := fun W h => rfull_ok N S p n cap W hR hl h
    have hQM := fun W h => qMasks_ok N S p n cap W hR hl hcap h
    have hRM := fun W h => rmasks_ok N S p n cap W hR hl h
    have hQH := fun W s hs h => qHas_ok N S s p n cap W hR hs hl hcap h
    have hRH := fun W s (hs : s < 256) h => rhas_ok S s p n cap W hl hmax (fun j => by have := hR.row j; omega) (by omega) h
    have hQE := fun W (hs : setB sz N = false) h => qHas_err N (ints S) sz 1 p n cap W (by rw [ints_length]; exact hl) hcap h (by unfold hcodeQ; rw [h0, if_pos rfl, Int.toNat_natCast, hs]; rfl) (by decide)
    have hMK := fun W => mask_any sz N W (by omega)
    have hLL := hR.least.len
    have HNS : Hid (N ≤ 8 ∧ ∀ s, s < 2 ^ N → s < 256) := ⟨hN8, fun s hs => by omega⟩
    obtain ⟨T, hT⟩ : ∃ T, M.leastQ N S = T := ⟨_, rfl⟩
    rw [hT] at hQL hRL hLL
    obtain ⟨t, htt⟩ : ∃ t, T.length = t := ⟨_, rfl⟩
    have HTT : Hid (T.length = t) := htt
    rw [htt] at hQL hRL hLL
    have hst := fun W (p1 p2 : Option Addr) c1 c2 h1 h2 => same_intsI (ints T) p1 p2 t c1 c2 W (by rw [ints_length]; exact HTT.out) (by unfold maxLen; omega) h1 h2
    obtain ⟨F, hF⟩ : ∃ F, M.fullQ N S = F := ⟨_, rfl⟩
    rw [hF] at hQF hRF
    obtain ⟨a, ha⟩ : ∃ a, (M.meetQ N S - 1) / 2 = a := ⟨_, rfl⟩
    rw [ha] at hQM hRM
    obtain ⟨f, hf⟩ : ∃ f, M.failQ N S N 0 = f := ⟨_, rfl⟩
    rw [hf] at hQM hRM
    have HR : Hid (QR N S) := hR
    clear hT htt hF ha hf h0 hl hmax hR h8
    refine (hrs _ HZ.out).mono ?_
    rintro e w1 ⟨rfl, hB⟩
    have H1 : Hid (Below w.heap.size w w1) := hB
    clear hB
    go_wp2_with fail
    refine (hqc _ (HZ.out.later H1.out)).mono ?_
    rintro e w2 ⟨rfl, hB⟩
    have H2 : Hid (Below w.heap.size w w2) := bel_on H1.out hB
    clear hB
    simp only [terr_zero]
    go_wp2_with fail
    refine (error_nil _).mono ?_
    rintro e wx ⟨rfl, rfl⟩
    go_wp2_with fail
    refine (hRL _ (HZ.out.later H2.out)).mono ?_
    rintro e w3 ⟨v, rfl, hown, hB⟩
    have H3 : Hid (Below w.heap.size w w3) := bel_on H2.out hB
    clear hB
    obtain ⟨pl, cl, rfl⟩ := owns_slice hown
    have D3 : Hid (HasI (ints T) pl w3) := hasI_of_owns HTT.out hown
    clear hown
    go_wp2_with fail
    refine (hRF _ (HZ.out.later H3.out)).mono ?_
    rintro e wx ⟨rfl, rfl⟩
    go_wp2_with fail
    refine (hRM _ (HZ.out.later H3.out)).mono ?_
    rintro e w4 ⟨rfl, hB⟩
    have H4 : Hid (Below w.heap.size w w4) := bel_on H3.out hB
    have D4 : Hid (HasI (ints T) pl w4) := D3.out.later hB
    clear hB
    go_wp2_with fail
    refine (hQL _ (HZ.out.later H4.out)).mono ?_
    rintro e w5 ⟨v, rfl, hown, hB⟩
    have H5 : Hid (Below w.heap.size w w5) := bel_on H4.out hB
    have D5 : Hid (HasI (ints T) pl w5) := D4.out.later hB
    clear hB
    obtain ⟨pe, ce, rfl⟩ := owns_slice hown
    have E5 : Hid (HasI (ints T) pe w5) := hasI_of_owns HTT.out hown
    clear hown
    go_wp2_with fail
    refine (error_nil _).mono ?_
    rintro e wx ⟨rfl, rfl⟩
    go_wp2_with fail
    refine (hst _ pe pl ce cl E5.out D5.out).mono ?_
    rintro e w6 ⟨rfl, hB⟩
    have H6 : Hid (Below w.heap.size w w6) := bel_on H5.out hB
    have D6 : Hid (HasI (ints T) pl w6) := D5.out.later hB
    have E6 : Hid (HasI (ints T) pe w6) := E5.out.later hB
    clear hB
    go_wp2_with fail
    refine (hQF _ (HZ.out.later H6.out)).mono ?_
    rintro e w7 ⟨rfl, hB⟩
    have H7 : Hid (Below w.heap.size w w7) := bel_on H6.out hB
    clear hB
    cases F with
    | none =>
      simp only [fullV, fullI, Option.isNone_none, Option.getD_none]
      go_wp2_with fail
      refine (error_nil _).mono ?_
      rintro e wx ⟨rfl, rfl⟩
      go_wp2_with fail
      refine (hQM _ (HZ.out.later H7.out)).mono ?_
      rintro e w8 ⟨rfl, hB⟩
      have H8 : Hid (Below w.heap.size w w8) := bel_on H7.out hB
      clear hB
      go_wp2_with fail
      refine (error_nil _).mono ?_
      rintro e wx ⟨rfl, rfl⟩
      go_wp2_with fail
      cases hs : setB sz N with
      | true =>
        rw [hs] at hMK
        obtain ⟨s, rfl, hsN⟩ := qset_get hs
        have hQH1 := fun W h => hQH W s hsN h
        have hRH1 := fun W h => hRH W s (HNS.out.2 s hsN) h
        obtain ⟨b, hb⟩ : ∃ b, M.hasQ S s = b := ⟨_, rfl⟩
        rw [hb] at hQH1 hRH1
        clear hs hsN hb hQE hQH hRH
        refine (hMK _).mono ?_
        rintro e wx ⟨rfl, rfl⟩
        go_wp2_with fail
        refine (hRH1 _ (HZ.out.later H8.out)).mono ?_
        rintro e wx ⟨rfl, rfl⟩
        go_wp2_with fail
        refine (hQH1 _ (HZ.out.later H8.out)).mono ?_
        rintro e w9 ⟨rfl, hB⟩
        have H9 : Hid (Below w.heap.size w w9) := bel_on H8.out hB
        clear hB
        go_wp2_with fail
        refine (error_nil _).mono ?_
        rintro e wx ⟨rfl, rfl⟩
        go_wp2_with fail
        refine (hvm _ (HY.out.later H9.out)).mono ?_
        rintro e w10 ⟨pv, cv, rfl, hI, hB⟩
        have H10 : Hid (Below w.heap.size w w10) := bel_on H9.out hB
        clear hB
        have M10 : Hid (HasI (ints V) pv w10) := hI
        clear hI
        go_wp2_with fail
        refine (hvq _ (HE.out.later H10.out) (HY.out.later H10.out)).mono ?_
        rintro e w11 ⟨pq, cq, rfl, hI, hB⟩
        have H11 : Hid (Below w.heap.size w w11) := bel_on H10.out hB
        have M11 : Hid (HasI (ints V) pv w11) := M10.out.later hB
        clear hB
        have K11 : Hid (HasI (ints V) pq w11) := hI
        clear hI
        go_wp2_with fail
        refine (hev _ (HG.out.later H11.out)).mono ?_
        rintro e w12 ⟨rfl, hB⟩
        have H12 : Hid (Below w.heap.size w w12) := bel_on H11.out hB
        have M12 : Hid (HasI (ints V) pv w12) := M11.out.later hB
        have K12 : Hid (HasI (ints V) pq w12) := K11.out.later hB
        clear hB
        go_wp2_with fail
        refine (hsi _ pq pv cq cv K12.out M12.out).mono ?_
        rintro e w13 ⟨rfl, hB⟩
        have H13 : Hid (Below w.heap.size w w13) := bel_on H12.out hB
        have M13 : Hid (HasI (ints V) pv w13) := M12.out.later hB
        have K13 : Hid (HasI (ints V) pq w13) := K12.out.later hB
        clear hB
        go_wp2_with fail
        go_ret
        exact ⟨rfl, H13.out⟩
      | false =>
        rw [hs] at hMK
        have hQE1 := fun W h => hQE W hs h
        unfold errP at hQE1
        clear hs hQE hQH hRH
        refine (hMK _).mono ?_
        rintro e wx ⟨rfl, rfl⟩
        go_wp2_with fail
        refine (hQE1 _ (HZ.out.later H8.out)).mono ?_
        rintro e w9 ⟨rfl, hB⟩
        have H9 : Hid (Below w.heap.size w w9) := bel_on H8.out hB
        clear hB
        go_wp2_with fail
        refine (error_same 1 _ (HG.out.later H9.out)).mono ?_
        rintro e w10 ⟨rfl, hB⟩
        have H10 : Hid (Below w.heap.size w w10) := bel_on H9.out hB
        clear hB
        go_wp2_with fail
        refine (hvm _ (HY.out.later H10.out)).mono ?_
        rintro e w11 ⟨pv, cv, rfl, hI, hB⟩
        have H11 : Hid (Below w.heap.size w w11) := bel_on H10.out hB
        clear hB
        have M11 : Hid (HasI (ints V) pv w11) := hI
        clear hI
        go_wp2_with fail
        refine (hvq _ (HE.out.later H11.out) (HY.out.later H11.out)).mono ?_
        rintro e w12 ⟨pq, cq, rfl, hI, hB⟩
        have H12 : Hid (Below w.heap.size w w12) := bel_on H11.out hB
        have M12 : Hid (HasI (ints V) pv w12) := M11.out.later hB
        clear hB
        have K12 : Hid (HasI (ints V) pq w12) := hI
        clear hI
        go_wp2_with fail
        refine (hev _ (HG.out.later H12.out)).mono ?_
        rintro e w13 ⟨rfl, hB⟩
        have H13 : Hid (Below w.heap.size w w13) := bel_on H12.out hB
        have M13 : Hid (HasI (ints V) pv w13) := M12.out.later hB
        have K13 : Hid (HasI (ints V) pq w13) := K12.out.later hB
        clear hB
        go_wp2_with fail
        refine (hsi _ pq pv cq cv K13.out M13.out).mono ?_
        rintro e w14 ⟨rfl, hB⟩
        have H14 : Hid (Below w.heap.size w w14) := bel_on H13.out hB
        have M14 : Hid (HasI (ints V) pv w14) := M13.out.later hB
        have K14 : Hid (HasI (ints V) pq w14) := K13.out.later hB
        clear hB
        go_wp2_with fail
        go_ret
        exact ⟨rfl, H14.out⟩
    | some x =>
      simp only [fullV, fullI, Option.isNone_some, Option.getD_some]
      have g1 : decide ((x : Int) < 0) = false := decide_eq_false (by omega)
      go_wp2_with fail
      refine (error_nil _).mono ?_
      rintro e wx ⟨rfl, rfl⟩
      go_wp2_with fail
      refine (hQM _ (HZ.out.later H7.out)).mono ?_
      rintro e w8 ⟨rfl, hB⟩
      have H8 : Hid (Below w.heap.size w w8) := bel_on H7.out hB
      clear hB
      go_wp2_with fail
      refine (error_nil _).mono ?_
      rintro e wx ⟨rfl, rfl⟩
      go_wp2_with fail
      cases hs : setB sz N with
      | true =>
        rw [hs] at hMK
        obtain ⟨s, rfl, hsN⟩ := qset_get hs
        have hQH1 := fun W h => hQH W s hsN h
        have hRH1 := fun W h => hRH W s (HNS.out.2 s hsN) h
        obtain ⟨b, hb⟩ : ∃ b, M.hasQ S s = b := ⟨_, rfl⟩
        rw [hb] at hQH1 hRH1
        clear hs hsN hb hQE hQH hRH
        refine (hMK _).mono ?_
        rintro e wx ⟨rfl, rfl⟩
        go_wp2_with fail
        refine (hRH1 _ (HZ.out.later H8.out)).mono ?_
        rintro e wx ⟨rfl, rfl⟩
        go_wp2_with fail
        refine (hQH1 _ (HZ.out.later H8.out)).mono ?_
        rintro e w9 ⟨rfl, hB⟩
        have H9 : Hid (Below w.heap.size w w9) := bel_on H8.out hB
        clear hB
        go_wp2_with fail
        refine (error_nil _).mono ?_
        rintro e wx ⟨rfl, rfl⟩
        go_wp2_with fail
        refine (hvm _ (HY.out.later H9.out)).mono ?_
        rintro e w10 ⟨pv, cv, rfl, hI, hB⟩
        have H10 : Hid (Below w.heap.size w w10) := bel_on H9.out hB
        clear hB
        have M10 : Hid (HasI (ints V) pv w10) := hI
        clear hI
        go_wp2_with fail
        refine (hvq _ (HE.out.later H10.out) (HY.out.later H10.out)).mono ?_
        rintro e w11 ⟨pq, cq, rfl, hI, hB⟩
        have H11 : Hid (Below w.heap.size w w11) := bel_on H10.out hB
        have M11 : Hid (HasI (ints V) pv w11) := M10.out.later hB
        clear hB
        have K11 : Hid (HasI (ints V) pq w11) := hI
        clear hI
        go_wp2_with fail
        refine (hev _ (HG.out.later H11.out)).mono ?_
        rintro e w12 ⟨rfl, hB⟩
        have H12 : Hid (Below w.heap.size w w12) := bel_on H11.out hB
        have M12 : Hid (HasI (ints V) pv w12) := M11.out.later hB
        have K12 : Hid (HasI (ints V) pq w12) := K11.out.later hB
        clear hB
        go_wp2_with fail
        refine (hsi _ pq pv cq cv K12.out M12.out).mono ?_
        rintro e w13 ⟨rfl, hB⟩
        have H13 : Hid (Below w.heap.size w w13) := bel_on H12.out hB
        have M13 : Hid (HasI (ints V) pv w13) := M12.out.later hB
        have K13 : Hid (HasI (ints V) pq w13) := K12.out.later hB
        clear hB
        go_wp2_with fail
        go_ret
        exact ⟨rfl, H13.out⟩
      | false =>
        rw [hs] at hMK
        have hQE1 := fun W h => hQE W hs h
        unfold errP at hQE1
        clear hs hQE hQH hRH
        refine (hMK _).mono ?_
        rintro e wx ⟨rfl, rfl⟩
        go_wp2_with fail
        refine (hQE1 _ (HZ.out.later H8.out)).mono ?_
        rintro e w9 ⟨rfl, hB⟩
        have H9 : Hid (Below w.heap.size w w9) := bel_on H8.out hB
        clear hB
        go_wp2_with fail
        refine (error_same 1 _ (HG.out.later H9.out)).mono ?_
        rintro e w10 ⟨rfl, hB⟩
        have H10 : Hid (Below w.heap.size w w10) := bel_on H9.out hB
        clear hB
        go_wp2_with fail
        refine (hvm _ (HY.out.later H10.out)).mono ?_
        rintro e w11 ⟨pv, cv, rfl, hI, hB⟩
        have H11 : Hid (Below w.heap.size w w11) := bel_on H10.out hB
        clear hB
        have M11 : Hid (HasI (ints V) pv w11) := hI
        clear hI
        go_wp2_with fail
        refine (hvq _ (HE.out.later H11.out) (HY.out.later H11.out)).mono ?_
        rintro e w12 ⟨pq, cq, rfl, hI, hB⟩
        have H12 : Hid (Below w.heap.size w w12) := bel_on H11.out hB
        have M12 : Hid (HasI (ints V) pv w12) := M11.out.later hB
        clear hB
        have K12 : Hid (HasI (ints V) pq w12) := hI
        clear hI
        go_wp2_with fail
        refine (hev _ (HG.out.later H12.out)).mono ?_
        rintro e w13 ⟨rfl, hB⟩
        have H13 : Hid (Below w.heap.size w w13) := bel_on H12.out hB
        have M13 : Hid (HasI (ints V) pv w13) := M12.out.later hB
        have K13 : Hid (HasI (ints V) pq w13) := K12.out.later hB
        clear hB
        go_wp2_with fail
        refine (hsi _ pq pv cq cv K13.out M13.out).mono ?_
        rintro e w14 ⟨rfl, hB⟩
        have H14 : Hid (Below w.heap.size w w14) := bel_on H13.out hB
        have M14 : Hid (HasI (ints V) pv w14) := M13.out.later hB
        have K14 : Hid (HasI (ints V) pq w14) := K13.out.later hB
        clear hB
        go_wp2_with fail
        go_ret
        exact ⟨rfl, H14.out⟩
  · obtain ⟨c, hcc⟩ : ∃ c, qcode m zs = c := ⟨_, rfl⟩
    have HN0 : Hid (c ≠ 0) := by rw [← hcc]; exact h0
    have hQL := fun W h => qLeast_err m zs c p n cap W hl hcap h hcc HN0.out
    have hQF := fun W h => qFull_err m zs c p n cap W hl hcap h hcc HN0.out
    have hQM := fun W h => qMasks_err m zs c p n cap W hl hcap h hcc HN0.out
    have hQH := fun W h => qHas_err m zs sz c p n cap W hl hcap h (by unfold hcodeQ; rw [hcc, if_neg HN0.out]) HN0.out
    rw [hcc] at hrs hqc
    rw [terr_ne HN0.out] at hqc
    unfold errP at hQL hQF hQM hQH
    have g1 : ((c : Int) == 0) = false := by have := HN0.out; simp; omega
    have g1' : (c == 0) = false := by have := HN0.out; simp; omega
    have hn := fun W (p1 p2 : Option Addr) c1 c2 => same_intsI (ints []) p1 p2 0 c1 c2 W rfl (by unfold maxLen; omega)
    clear h0 hcc hl hmax
    refine (hrs _ HZ.out).mono ?_
    rintro e w1 ⟨rfl, hB⟩
    have H1 : Hid (Below w.heap.size w w1) := hB
    clear hB
    go_wp2_with fail
    refine (hqc _ (HZ.out.later H1.out)).mono ?_
    rintro e w2 ⟨rfl, hB⟩
    have H2 : Hid (Below w.heap.size w w2) := bel_on H1.out hB
    clear hB
    go_wp2_with fail
    refine (error_same c _ (HG.out.later H2.out)).mono ?_
    rintro e w3 ⟨rfl, hB⟩
    have H3 : Hid (Below w.heap.size w w3) := bel_on H2.out hB
    clear hB
    go_wp2_with fail
    refine (hQL _ (HZ.out.later H3.out)).mono ?_
    rintro e w4 ⟨rfl, hB⟩
    have H4 : Hid (Below w.heap.size w w4) := bel_on H3.out hB
    clear hB
    go_wp2_with fail
    refine (error_same c _ (HG.out.later H4.out)).mono ?_
    rintro e w5 ⟨rfl, hB⟩
    have H5 : Hid (Below w.heap.size w w5) := bel_on H4.out hB
    clear hB
    go_wp2_with fail
    refine (hn _ none none 0 0 (hasI_nil _) (hasI_nil _)).mono ?_
    rintro e w6 ⟨rfl, hB⟩
    have H6 : Hid (Below w.heap.size w w6) := bel_on H5.out hB
    clear hB
    go_wp2_with fail
    refine (hQF _ (HZ.out.later H6.out)).mono ?_
    rintro e w7 ⟨rfl, hB⟩
    have H7 : Hid (Below w.heap.size w w7) := bel_on H6.out hB
    clear hB
    go_wp2_with fail
    refine (error_same c _ (HG.out.later H7.out)).mono ?_
    rintro e w8 ⟨rfl, hB⟩
    have H8 : Hid (Below w.heap.size w w8) := bel_on H7.out hB
    clear hB
    go_wp2_with fail
    refine (hQM _ (HZ.out.later H8.out)).mono ?_
    rintro e w9 ⟨rfl, hB⟩
    have H9 : Hid (Below w.heap.size w w9) := bel_on H8.out hB
    clear hB
    go_wp2_with fail
    refine (error_same c _ (HG.out.later H9.out)).mono ?_
    rintro e w10 ⟨rfl, hB⟩
    have H10 : Hid (Below w.heap.size w w10) := bel_on H9.out hB
    clear hB
    go_wp2_with fail
    refine (hQH _ (HZ.out.later H10.out)).mono ?_
    rintro e w11 ⟨rfl, hB⟩
    have H11 : Hid (Below w.heap.size w w11) := bel_on H10.out hB
    clear hB
    go_wp2_with fail
    refine (error_same c _ (HG.out.later H11.out)).mono ?_
    rintro e w12 ⟨rfl, hB⟩
    have H12 : Hid (Below w.heap.size w w12) := bel_on H11.out hB
    clear hB
    go_wp2_with fail
    refine (hvm _ (HY.out.later H12.out)).mono ?_
    rintro e w13 ⟨pv, cv, rfl, hI, hB⟩
    have H13 : Hid (Below w.heap.size w w13) := bel_on H12.out hB
    clear hB
    have M13 : Hid (HasI (ints V) pv w13) := hI
    clear hI
    go_wp2_with fail
    refine (hvq _ (HE.out.later H13.out) (HY.out.later H13.out)).mono ?_
    rintro e w14 ⟨pq, cq, rfl, hI, hB⟩
    have H14 : Hid (Below w.heap.size w w14) := bel_on H13.out hB
    have M14 : Hid (HasI (ints V) pv w14) := M13.out.later hB
    clear hB
    have K14 : Hid (HasI (ints V) pq w14) := hI
    clear hI
    go_wp2_with fail
    refine (hev _ (HG.out.later H14.out)).mono ?_
    rintro e w15 ⟨rfl, hB⟩
    have H15 : Hid (Below w.heap.size w w15) := bel_on H14.out hB
    have M15 : Hid (HasI (ints V) pv w15) := M14.out.later hB
    have K15 : Hid (HasI (ints V) pq w15) := K14.out.later hB
    clear hB
    go_wp2_with fail
    refine (hsi _ pq pv cq cv K15.out M15.out).mono ?_
    rintro e w16 ⟨rfl, hB⟩
    have H16 : Hid (Below w.heap.size w w16) := bel_on H15.out hB
    have M16 : Hid (HasI (ints V) pv w16) := M15.out.later hB
    have K16 : Hid (HasI (ints V) pq w16) := K15.out.later hB
    clear hB
    go_wp2_with fail
    go_ret
    exact ⟨rfl, H16.out⟩
end Go.Proofs.YtfjmealeglbklaaDoor
