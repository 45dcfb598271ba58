/- The document's own answer on the steps of a word (package whensteadref3, Steps); what lay in memory lies as it lay. -/
import Derived.Test.YtbacngbcnkikiaaDoorRefF1
import Derived.Test.YtbacngbcnkikiaaDoorFo5
import Derived.Test.YtbacngbcnkikiaaDoorOwnA
namespace Go.Proofs.YtbacngbcnkikiaaDoor
open Go.RowKit
/-- how long a slice is -/
def lenV : Value → Nat
  | .slice _ n _ => n
  | _ => 0
/-- the steps of the first j places, in one row -/
def rkR (G : Nat → Nat) (j : Nat) : List Nat := (List.range j).map G
theorem rkR_length (G : Nat → Nat) (j : Nat) : (rkR G j).length = j := by simp [rkR]
theorem rkR_row {G : Nat → Nat} {j i : Nat} (h : i < j) : M.row (rkR G j) i = G i := by simp [rkR, M.row, h]
theorem rkR_snoc (G : Nat → Nat) (j : Nat) : rkR G (j + 1) = rkR G j ++ [G j] := by simp [rkR, List.range_succ]
set_option maxRecDepth 100000 in
set_option maxHeartbeats 8000000 in
theorem refSteps_ok (F u : List Nat) (p : Option Addr) (n cap : Nat) (q : Option Addr) (m cap2 : Nat) (w : World) (hl : F.length = n) (hF : FOk F) (hc : HasI (ints F) p w) (hl2 : u.length = m) (hU : WOk F u) (hd : HasI (ints u) q w) :
    Calls Tryd.prog 13 #[.slice p n cap, .slice q m cap2] w fun e w' => ∃ v, e = .returned v ∧ w'.ownsRow w.heap.size 3 1 v (stR F u m).length (icells (stR F u m)) ∧ Below w.heap.size w w' := by
  have hm : m ≤ 24 := hl2 ▸ hU.len
  have hn6 := hF.len
  obtain ⟨i0, hi0, hz0, hz1, hz2⟩ := infoA_parts infoInt
  have hlv := fun j (hj : j < u.length) => M.lev_is hF.fr (m := F.length) hU.lt hj
  have hsn := fun j (hj : j ≤ u.length) => (M.stp_n (f := M.fr F) (m := F.length) (w := u) j hj).1
  have hsl := fun j (hj : j ≤ u.length) => M.stp_n_le (M.fr F) F.length u j hj
  obtain ⟨G, hG⟩ : ∃ G, M.lev (M.fr F) F.length u = G := ⟨_, rfl⟩
  rw [hG] at hlv hsn
  have HGE : Hid (M.lev (M.fr F) F.length u = G) := hG
  have HLV : Hid (∀ j, j < m → G j = M.mxr (M.fr F) u G (M.row u j) j) := fun j hj => hlv j (by omega)
  have HGJ : Hid (∀ i j, i < j → j ≤ m → G i < j) := fun i j hi hj => by have h1 := hsn j (by omega) i hi; have h2 := hsl j (by omega); omega
  clear hlv hsn hsl hG
  have h10 : w.ownsRow w.heap.size 3 1 (.slice none 0 0) (stR F u 0).length (icells (stR F u 0)) := ⟨rfl, .inl ⟨rfl, rfl⟩⟩
  have h20 : w.ownsRow w.heap.size 3 1 (.slice none 0 0) 0 (icells (rkR G 0)) := ⟨rfl, .inl ⟨rfl, rfl⟩⟩
  have hap0 : ApartA (.slice none 0 0) (.slice none 0 0) := fun k h _ => by cases h
  go_enter Tryd.func13, Tryd.ntmps13
  go_wp2_with fail
  go_loopw [5, 6, 7] (fun rv ov jv wr => ∃ j : Nat, jv = .int .i64 j ∧ j ≤ m ∧ wr.ownsRow w.heap.size 3 1 rv j (icells (rkR G j)) ∧ wr.ownsRow w.heap.size 3 1 ov (stR F u j).length (icells (stR F u j)) ∧ ApartA rv ov ∧ Below w.heap.size w wr) (fun _ _ jv _ => m - (intOf jv).toNat)
  case atStart => exact ⟨0, rfl, Nat.zero_le _, h20, h10, hap0, Below.refl _ _⟩
  case round =>
    clear h10 h20 hap0
    obtain ⟨j, rfl, hj, hrk, hout, hap, hB⟩ := hrel
    obtain ⟨pr, cr, rfl⟩ := owns_slice hrk
    obtain ⟨po, co, rfl⟩ := owns_slice hout
    by_cases hjm : j < m
    · obtain ⟨wo, hwo⟩ : ∃ wo, wo = wr := ⟨_, rfl⟩
      subst hwo
      go_wp2_with fail
      go_loopw [8, 9] (fun nv iv wr => ∃ i : Nat, iv = .int .i64 i ∧ nv = .int .i64 (M.mxr (M.fr F) u G (M.row u j) i : Nat) ∧ i ≤ j ∧ Below wo.heap.size wo wr) (fun _ iv _ => j - (intOf iv).toNat)
      case atStart => exact ⟨0, rfl, rfl, Nat.zero_le _, Below.refl _ _⟩
      case round =>
        obtain ⟨i, rfl, rfl, hi, hBi⟩ := hrel
        by_cases hij : i < j
        · have hBr := bel_on hB hBi
          have hst := stays_ok F u p n cap q m cap2 i j wr hl hF (hc.later hBr) hl2 hU (hd.later hBr) (by omega) hjm
          have hmx : M.mxr (M.fr F) u G (M.row u j) (i + 1) = if M.fr F (M.row u i) (M.row u j) = false ∧ M.mxr (M.fr F) u G (M.row u j) i < G i + 1 then G i + 1 else M.mxr (M.fr F) u G (M.row u j) i := rfl
          have hah : M.ahB (M.fr F) u i j = !M.fr F (M.row u i) (M.row u j) := by unfold M.ahB; rw [decide_eq_true hij]; rfl
          have hgb := HGJ.out i j hij hj
          have hmb : M.mxr (M.fr F) u G (M.row u j) i ≤ 24 := by
            rcases M.mxr_at (M.fr F) u G (M.row u j) i with h | ⟨x, a, _, e⟩
            · omega
            · have := HGJ.out x j (by omega) hj; omega
          obtain ⟨mx, hmxe⟩ : ∃ mx, M.mxr (M.fr F) u G (M.row u j) i = mx := ⟨_, rfl⟩
          rw [hmxe] at hmx hmb
          rw [hmxe]
          obtain ⟨t, ht⟩ : ∃ t, M.fr F (M.row u i) (M.row u j) = t := ⟨_, rfl⟩
          rw [hah, ht] at hst
          have HMX : Hid (M.mxr (M.fr F) u G (M.row u j) (i + 1) = if t = false ∧ mx < G i + 1 then G i + 1 else mx) := (by rw [← ht]; exact hmx : M.mxr (M.fr F) u G (M.row u j) (i + 1) = if t = false ∧ mx < G i + 1 then G i + 1 else mx)
          have hrw : ∀ W, Below wo.heap.size wo W → ∃ g, Value.slice pr j cr = .slice (some ⟨g, 0, none⟩) j cr ∧ W.cell? ⟨g, i, none⟩ = some (.int .i64 (G i : Nat)) ∧ g < W.heap.size := fun W hW => by
            obtain ⟨g, cp, e, h1, h2, h3, _⟩ := owns_open (rkR_length G j) (owns_below hrk hW) (by omega)
            cases e
            have := (h3 i hij).1
            rw [rkR_row hij] at this
            exact ⟨g, rfl, this, h2⟩
          have hij' : (i : Int) < (j : Int) := by omega
          clear hmx hah hmxe ht
          cases t with
          | true =>
            have HN : Hid (M.mxr (M.fr F) u G (M.row u j) (i + 1) = mx) := by show _ = _; rw [HMX.out, if_neg (fun h => by cases h.1)]
            clear HMX
            go_wp2_with fail
            refine hst.mono ?_
            rintro e w2 ⟨rfl, hB2⟩
            have HB : Hid (Below _ _ _) := bel_on hBi hB2
            clear hst hB2
            go_wp2_with fail
            go_roundw
            case rel => exact ⟨i + 1, by go_num, by rw [HN.out], by omega, HB.out⟩
            case measure => simp [intOf]; omega
          | false =>
            go_wp2_with fail
            refine hst.mono ?_
            rintro e w2 ⟨rfl, hB2⟩
            have hB3 := bel_on hBi hB2
            have HB : Hid (Below _ _ _) := hB3
            obtain ⟨g, e1, k1, k2⟩ := hrw _ hB3
            cases e1
            obtain ⟨gi, hgi⟩ : ∃ gi, G i = gi := ⟨_, rfl⟩
            rw [hgi] at k1 hgb HMX
            obtain ⟨g1, hg1⟩ : ∃ g1, gi + 1 = g1 := ⟨_, rfl⟩
            have hadd : (gi : Int) + 1 = (g1 : Int) := by omega
            have hgb2 : g1 ≤ 30 := by omega
            rw [hg1] at HMX
            by_cases hgt : mx < g1
            · have d1 : decide ((mx : Int) < (g1 : Int)) = true := decide_eq_true (by omega)
              have d1' : decide (mx < g1) = true := decide_eq_true hgt
              have HN : Hid (M.mxr (M.fr F) u G (M.row u j) (i + 1) = g1) := by show _ = _; rw [HMX.out, if_pos ⟨by trivial, hgt⟩]
              clear HMX hgt hst hB2 hB3 hg1 hgi hrw
              go_wp2_with fail
              go_roundw
              case rel => exact ⟨i + 1, by go_num, by rw [HN.out], by omega, HB.out⟩
              case measure => simp [intOf]; omega
            · have d1 : decide ((mx : Int) < (g1 : Int)) = false := decide_eq_false (by omega)
              have d1' : decide (mx < g1) = false := decide_eq_false hgt
              have HN : Hid (M.mxr (M.fr F) u G (M.row u j) (i + 1) = mx) := by show _ = _; rw [HMX.out, if_neg (fun h => hgt h.2)]
              clear HMX hgt hst hB2 hB3 hg1 hgi hrw
              go_wp2_with fail
              go_roundw
              case rel => exact ⟨i + 1, by go_num, by rw [HN.out], by omega, HB.out⟩
              case measure => simp [intOf]; omega
        · obtain rfl : i = j := by omega
          rw [← HLV.out i hjm]
          have hij' : decide ((i : Int) < (i : Int)) = false := decide_eq_false (by omega)
          have hBr := bel_on hB hBi
          have hrk2 := owns_below hrk hBi
          have hout2 := owns_below hout hBi
          obtain ⟨bq, oq, rfl, hbq, hcq⟩ := (hd.later hBr) i (by rw [ints_length]; omega)
          rw [ints_get] at hcq
          have hri := hU.row (i := i) (by omega)
          have hw0 := M.stp_wf hF.fr (w := u.take i) (m := F.length) (fun x hx => hU.lt x (List.mem_of_mem_take hx))
          have hnx : M.stp (M.fr F) F.length (u.take (i + 1)) = M.ins (M.fr F) F.length (M.stp (M.fr F) F.length (u.take i)) (M.row u i) := by rw [M.take_row (by omega), M.stp_snoc]
          have hnle := M.stp_n_le (M.fr F) F.length u i (by omega)
          have hGw : G i = M.whr (M.fr F) F.length (M.stp (M.fr F) F.length (u.take i)) (M.row u i) := by rw [← HGE.out]; rfl
          obtain ⟨S, hS⟩ : ∃ S, M.stp (M.fr F) F.length (u.take i) = S := ⟨_, rfl⟩
          obtain ⟨c, hcc⟩ : ∃ c, M.row u i = c := ⟨_, rfl⟩
          rw [hS] at hw0 hnx hnle hGw
          rw [hcc] at hri hnx hcq hGw
          have hst : stR F u i = M.stL S := by unfold stR; rw [hS]
          have hst1 : stR F u (i + 1) = M.stL (M.ins (M.fr F) F.length S c) := by unfold stR; rw [hnx]
          rw [hst, M.stL_length] at hout2
          rw [hst, M.stL_length] at hap
          rw [hst, M.stL_length]
          have HW : Hid (M.WF (M.fr F) F.length S) := hw0
          have HS1 : Hid (stR F u (i + 1) = M.stL (M.ins (M.fr F) F.length S c)) := hst1
          obtain ⟨N, hN⟩ : ∃ N, S.n = N := ⟨_, rfl⟩
          have HN : Hid (S.n = N) := hN
          rw [hN] at hout2 hnle hap
          rw [hN]
          have hwh := M.whr_le (M.fr F) F.length S c
          obtain ⟨h, hh⟩ : ∃ h, M.whr (M.fr F) F.length S c = h := ⟨_, rfl⟩
          rw [hh, hN] at hwh
          rw [hh] at hGw
          have HH : Hid (M.whr (M.fr F) F.length S c = h) := hh
          have HRC : Hid (M.row u i = c) := hcc
          have HRK : Hid (icells (rkR G (i + 1)) = icells (rkR G i) ++ [.int .i64 (h : Nat)]) := by show _ = _; rw [rkR_snoc, icells_snoc, hGw]
          rw [hGw]
          have hNN : N ≤ 24 := by omega
          have hi24 : i ≤ 24 := by omega
          have hBs := hBr.size
          have hsh := shl_24 c (by omega)
          have HBr : Hid (Below w.heap.size w wr) := hBr
          have hc6 : c ≤ 12 := by omega
          have him2 : (i : Int) < (m : Int) := by omega
          clear hh hN hst hst1 hw0 hnx hS hcc hGw hout hrk hBr hB hBi
          by_cases hhN : h = N
          · have hnew : M.stL (M.ins (M.fr F) F.length S c) = M.stL S ++ [1 <<< c] := M.stL_new (HW.out.zero _ (Nat.le_refl _)) (by rw [HH.out, HN.out]; exact hhN)
            subst hhN
            have HSL : Hid ((M.stL S).length = h) := by show _ = _; rw [M.stL_length]; exact HN.out
            have hwi := fun W => with_any 0 c W (by omega) hc6
            rw [Nat.zero_or] at hwi
            obtain ⟨z, hz⟩ : ∃ z : Nat, 1 <<< c = z := ⟨_, rfl⟩
            rw [hz] at hwi hnew
            have HNEW : Hid (stR F u (i + 1) = M.stL S ++ [z]) := HS1.out.trans hnew
            have HLEN : Hid (h + 1 = (stR F u (i + 1)).length) := by show _ = _; rw [HNEW.out, List.length_append, HSL.out]; rfl
            clear hnew hz
            go_wp2_with (at_builtin; refine wpList_append_lies _ rfl _ _ 22 rfl w.heap.size 3 i0 (.int .i64 0) 1 8 Tryd.underlying22 hi0 hz0 hz1 hz2 rfl (by decide) _ _ _ rfl (hrk2.alloc _) _ 1 1 [.int .i64 (h : Nat)] rfl rfl (cell_one_new _ _ _) (by simp [Value.oneCell']) (by omega) (by unfold maxLen; omega) (by omega) (by simp; omega) _ rfl ?_; intro g5 c5 w5 ho5 hg5 ha5 hl5)
            have hB5 : Below w.heap.size w w5 := (bel_al HBr.out _).grown hg5 (by simp; omega) (fun j e => (hrk2.lt j e).1)
            have hou5 := (hout2.alloc _).kept hg5 hap.symm.ne
            have hap5 : ApartA (.slice (some ⟨g5, 0, none⟩) (i + 1) c5) (.slice po h co) := apA_step hap (fun k e => (hout2.lt k e).2) (Nat.le_of_lt (by simp)) ha5
            have hg5sz : wr.heap.size ≤ w5.heap.size := by have := hg5.size; simp at this; omega
            clear hrk2 hg5 ha5 hap hout2 hij
            go_loopw [6] (fun ov wr => ∃ k, k ≤ 1 ∧ wr.ownsRow w.heap.size 3 1 ov (h + k) (icells (M.stL S ++ List.replicate k 0)) ∧ wr.ownsRow w.heap.size 3 1 (.slice (some ⟨g5, 0, none⟩) (i + 1) c5) (i + 1) (icells (rkR G i) ++ [.int .i64 (h : Nat)]) ∧ ApartA (.slice (some ⟨g5, 0, none⟩) (i + 1) c5) ov ∧ w5.heap.size ≤ wr.heap.size ∧ Below w.heap.size w wr) (fun ov _ => h + 1 - lenV ov)
            case atStart => exact ⟨0, by omega, by simpa using hou5, ho5, hap5, Nat.le_refl _, hB5⟩
            case round =>
              clear hou5 ho5 hap5 hB5
              obtain ⟨k, hk, hou5, ho5, hap5, hsz5, hB5⟩ := hrel
              obtain ⟨p6, c6, rfl⟩ := owns_slice hou5
              have hBz := hB5.size
              by_cases hk0 : k = 0
              · subst hk0
                have d1 : decide ((h : Int) ≤ (h : Int)) = true := decide_eq_true (by omega)
                have hou6 : wr.ownsRow w.heap.size 3 1 (.slice p6 h c6) h (icells (M.stL S)) := by simpa using hou5
                have hap6 : ApartA (.slice (some ⟨g5, 0, none⟩) (i + 1) c5) (.slice p6 h c6) := by simpa using hap5
                clear hou5 hap5
                go_wp2_with (at_builtin; refine wpList_append_lies _ rfl _ _ 22 rfl w.heap.size 3 i0 (.int .i64 0) 1 8 Tryd.underlying22 hi0 hz0 hz1 hz2 rfl (by decide) _ _ _ rfl (hou6.alloc _) _ 1 1 [.int .i64 0] rfl rfl (cell_one_new _ _ _) (by simp [Value.oneCell']) (by omega) (by unfold maxLen; omega) (by omega) (by simp; omega) _ rfl ?_; intro g7 c7 w7 ho7 hg7 ha7 hl7)
                have hB7 : Below w.heap.size w w7 := (bel_al hB5 _).grown hg7 (by simp; omega) (fun j e => (hou6.lt j e).1)
                have ho57 := (ho5.alloc _).kept hg7 hap6.ne
                have hap7 : ApartA (.slice (some ⟨g7, 0, none⟩) (h + 1) c7) (.slice (some ⟨g5, 0, none⟩) (i + 1) c5) := apA_step hap6.symm (fun k e => (ho5.lt k e).2) (Nat.le_of_lt (by simp)) ha7
                have hsz7 : w5.heap.size ≤ w7.heap.size := by have := hg7.size; simp at this; omega
                have ho7' : w7.ownsRow w.heap.size 3 1 (.slice (some ⟨g7, 0, none⟩) (h + 1) c7) (h + 1) (icells (M.stL S ++ List.replicate 1 0)) := by
                  show World.ownsRow _ _ _ _ _ _ (icells (M.stL S ++ [0]))
                  rw [icells_snoc]; exact ho7
                first | go_roundw | skip
                case rel => exact ⟨1, Nat.le_refl _, ho7', ho57, hap7.symm, hsz7, hB7⟩
                case measure => simp [lenV]
              · obtain rfl : k = 1 := by omega
                have HSL1 : Hid ((M.stL S ++ List.replicate 1 0).length = h + 1) := by show _ = _; rw [List.length_append, HSL.out]; rfl
                obtain ⟨h1, hh1⟩ : ∃ h1, h + 1 = h1 := ⟨_, rfl⟩
                rw [hh1] at hou5 hap5 HSL1 HLEN
                rw [hh1]
                have d1 : decide ((h1 : Int) ≤ (h : Int)) = false := decide_eq_false (by omega)
                have d1' : decide (h1 ≤ h) = false := decide_eq_false (by omega)
                obtain ⟨g6, c6', e6, k1, k2, k3, k4⟩ := owns_open HSL1.out hou5 (by omega)
                cases e6
                obtain ⟨k5, k6⟩ := k3 h (by omega)
                have hr0 : M.row (M.stL S ++ List.replicate 1 0) h = 0 := by unfold M.row; rw [List.getElem?_append_right (by rw [HSL.out]; exact Nat.le_refl _), HSL.out]; simp
                rw [hr0] at k5
                have k7 := k4 h z (by omega)
                have hst : (M.stL S ++ List.replicate 1 0).set h z = M.stL S ++ [z] := by rw [List.set_append_right _ _ (by rw [HSL.out]; exact Nat.le_refl _), HSL.out, Nat.sub_self]; rfl
                rw [hst, ← HNEW.out] at k7
                have hne : (Value.slice (some ⟨g5, 0, none⟩) (i + 1) c5).ownBlock ≠ some g6 := fun e => hap5 g6 e rfl
                have hrk7 := owns_apart (i := h) ho5 hne (.int .i64 (z : Nat))
                have hcq5 : wr.cell? ⟨bq, oq + i, none⟩ = some (.int .i64 (c : Nat)) := by
                  obtain ⟨_, _, e', _, h9⟩ := (hd.later hB5) i (by rw [ints_length]; omega)
                  cases e'
                  rw [ints_get, HRC.out] at h9
                  exact h9
                have hbq5 : bq < wr.heap.size := by omega
                have hhh : (h : Int) < (h1 : Int) := by omega
                have HRK7 : Hid (World.ownsRow _ _ _ _ _ _ _) := hrk7
                have HK7 : Hid (World.ownsRow _ _ _ _ _ _ _) := k7
                have HB5 : Hid (Below w.heap.size w wr) := hB5
                have HAP : Hid (ApartA (.slice (some ⟨g5, 0, none⟩) (i + 1) c5) (.slice (some ⟨g6, 0, none⟩) h1 c6)) := hap5
                have hg6 : w.heap.size ≤ g6 := k1
                clear hne hk0 hrk7 k7 k3 k4 hap5 hB5 hou5 ho5 hd hc hst hr0 hh1
                go_wp2_with fail
                go_region_with (go_at_call 34; refine (hwi _).mono ?_; rintro e w' ⟨rfl, rfl⟩)
                all_goals (go_wp2_with fail)
                all_goals exact ⟨⟨i + 1, by go_num, by omega, by rw [HRK.out]; exact HRK7.out, by rw [← HLEN.out]; exact HK7.out, HAP.out, (HB5.out.setCell (p := ⟨g6, h, none⟩) hg6 _).drew⟩, by simp [intOf]; omega⟩
          · have hhl : h < N := by omega
            have hold : M.stL (M.ins (M.fr F) F.length S c) = (M.stL S).set h (S.lv h ||| 1 <<< c) := by have := M.stL_old (f := M.fr F) (m := F.length) (S := S) (c := c) (by rw [HH.out, HN.out]; exact hhl); rw [HH.out] at this; exact this
            have hslt : S.lv h < 64 := by
              have h1 := M.ins_lt HW.out h
              have h2 : 2 ^ F.length ≤ 2 ^ 6 := Nat.pow_le_pow_right (by omega) (by omega)
              omega
            have hwi := fun W => with_any (S.lv h) c W (by omega) hc6
            have hlen : N = (stR F u (i + 1)).length := by rw [HS1.out, hold, List.length_set, M.stL_length, HN.out]
            have HLEN : Hid (N = (stR F u (i + 1)).length) := hlen
            have HOLD : Hid (stR F u (i + 1) = (M.stL S).set h (S.lv h ||| 1 <<< c)) := HS1.out.trans hold
            have HSL : Hid ((M.stL S).length = N) := by show _ = _; rw [M.stL_length]; exact HN.out
            have HCE : Hid (M.row (M.stL S) h = S.lv h) := M.stL_row (by rw [HN.out]; exact hhl)
            obtain ⟨s, hs⟩ : ∃ s, S.lv h = s := ⟨_, rfl⟩
            rw [hs] at hwi HOLD HCE
            obtain ⟨z, hz⟩ : ∃ z, s ||| 1 <<< c = z := ⟨_, rfl⟩
            rw [hz] at hwi HOLD
            have d1 : decide ((N : Int) ≤ (h : Int)) = false := decide_eq_false (by omega)
            have d1' : decide (N ≤ h) = false := decide_eq_false (by omega)
            have hhN2 : (h : Int) < (N : Int) := by omega
            clear hold hlen hs hz hslt hhN
            go_wp2_with (at_builtin; refine wpList_append_lies _ rfl _ _ 22 rfl w.heap.size 3 i0 (.int .i64 0) 1 8 Tryd.underlying22 hi0 hz0 hz1 hz2 rfl (by decide) _ _ _ rfl (hrk2.alloc _) _ 1 1 [.int .i64 (h : Nat)] rfl rfl (cell_one_new _ _ _) (by simp [Value.oneCell']) (by omega) (by unfold maxLen; omega) (by omega) (by simp; omega) _ rfl ?_; intro g5 c5 w5 ho5 hg5 ha5 hl5)
            have hB5 : Below w.heap.size w w5 := (bel_al HBr.out _).grown hg5 (by simp; omega) (fun j e => (hrk2.lt j e).1)
            have hou5 := (hout2.alloc _).kept hg5 hap.symm.ne
            have hap5 : ApartA (.slice (some ⟨g5, 0, none⟩) (i + 1) c5) (.slice po N co) := apA_step hap (fun k e => (hout2.lt k e).2) (Nat.le_of_lt (by simp)) ha5
            have hg5sz : wr.heap.size ≤ w5.heap.size := by have := hg5.size; simp at this; omega
            clear hrk2 hg5 ha5 hap hout2
            go_loopw [6] (fun ov wr => ov = .slice po N co ∧ wr = w5) (fun _ _ => 0)
            case atStart => exact ⟨rfl, rfl⟩
            case round =>
              obtain ⟨rfl, rfl⟩ := hrel
              obtain ⟨g6, c6, e6, k1, k2, k3, k4⟩ := owns_open HSL.out hou5 (by omega)
              cases e6
              obtain ⟨k5, k6⟩ := k3 h hhl
              rw [HCE.out] at k5
              have k7 := k4 h z hhl
              rw [← HOLD.out] at k7
              have hne : (Value.slice (some ⟨g5, 0, none⟩) (i + 1) c5).ownBlock ≠ some g6 := fun e => hap5 g6 e rfl
              have hrk7 := owns_apart (i := h) ho5 hne (.int .i64 (z : Nat))
              have hcq5 : wr.cell? ⟨bq, oq + i, none⟩ = some (.int .i64 (c : Nat)) := by
                obtain ⟨_, _, e', _, h9⟩ := (hd.later hB5) i (by rw [ints_length]; omega)
                cases e'
                rw [ints_get, HRC.out] at h9
                exact h9
              have hbq5 : bq < wr.heap.size := by have := hB5.size; have := hg5sz; omega
              have HRK7 : Hid (World.ownsRow _ _ _ _ _ _ _) := hrk7
              have HK7 : Hid (World.ownsRow _ _ _ _ _ _ _) := k7
              have HB5 : Hid (Below w.heap.size w wr) := hB5
              have HAP : Hid (ApartA (.slice (some ⟨g5, 0, none⟩) (i + 1) c5) (.slice (some ⟨g6, 0, none⟩) N co)) := hap5
              have hg6 : w.heap.size ≤ g6 := k1
              clear hne hij hrk7 k7 k3 k4 hap5 hB5 hou5 ho5 hd hc
              go_wp2_with fail
              go_region_with (go_at_call 34; refine (hwi _).mono ?_; rintro e w' ⟨rfl, rfl⟩)
              all_goals (go_wp2_with fail)
              all_goals exact ⟨⟨i + 1, by go_num, by omega, by rw [HRK.out]; exact HRK7.out, by rw [← HLEN.out]; exact HK7.out, HAP.out, (HB5.out.setCell (p := ⟨g6, h, none⟩) hg6 _).drew⟩, by simp [intOf]; omega⟩
    · obtain rfl : j = m := by omega
      go_wp2_with fail
      go_ret
      exact ⟨_, rfl, hout, hB⟩
end Go.Proofs.YtbacngbcnkikiaaDoor
