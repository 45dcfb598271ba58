/- WHAT IS WRONG WITH ANY LETTERS, AND WHAT COMES OF ANY WORDS (law FoldSays), the walk. -/
import Derived.Test.YtbacngbcnkikiaaDoorErr
import Derived.Test.YtbacngbcnkikiaaDoorEtyT
import Derived.Test.YtbacngbcnkikiaaDoorFo4
import Derived.Test.YtbacngbcnkikiaaDoorFo6
import Derived.Test.YtbacngbcnkikiaaDoorRefF2
import Derived.Test.YtbacngbcnkikiaaDoorRefF3
import Derived.Test.YtbacngbcnkikiaaDoorRefF4
namespace Go.Proofs.YtbacngbcnkikiaaDoor
open Go.RowKit
theorem err_is (c : Nat) (w : World) (hg : Ety w) : Calls Tryd.prog 9 #[terr c, .int .i64 (c : Nat)] w fun e w' => e = .returned (.bool true) ∧ Below w.heap.size w w' := by
  by_cases h : c = 0
  · subst h
    refine (error_nil w).mono ?_
    rintro e w' ⟨rfl, rfl⟩
    exact ⟨rfl, Below.refl _ _⟩
  · rw [terr_ne h]; exact error_same _ _ hg
theorem hasI_none (w : World) : HasI [] none w := fun _ hj => absurd hj (Nat.not_lt_zero _)
theorem nil_same (w : World) : Calls Tryd.prog 17 #[.slice none 0 0, .slice none 0 0] w fun e w' => e = .returned (.bool true) ∧ Below w.heap.size w w' :=
  eints_any [] [] none none 0 0 0 0 w rfl rfl (Nat.zero_le _) (Nat.zero_le _) (hasI_none w) (hasI_none w)
theorem row_same (m : List Nat) (p q : Option Addr) (n cap cap' : Nat) (w : World) (hl : m.length = n) (hn : n ≤ 24) (hp : HasI (ints m) p w) (hq : HasI (ints m) q w) : Calls Tryd.prog 17 #[.slice p n cap, .slice q n cap'] w fun e w' => e = .returned (.bool true) ∧ Below w.heap.size w w' := by
  have h := eints_any (ints m) (ints m) p q n n cap cap' w (by rw [ints_length]; exact hl) (by rw [ints_length]; exact hl) (by unfold maxLen; omega) (by unfold maxLen; omega) hp hq
  rw [show (ints m == ints m) = true by simp] at h
  exact h
theorem stR_le {F u : List Nat} {m : Nat} (h : u.length = m) (hm : m ≤ 24) : (stR F u m).length ≤ 24 := by
  unfold stR
  rw [M.stL_length]
  have := M.stp_n_le (M.fr F) F.length u m (by omega)
  omega
set_option maxRecDepth 100000 in
set_option maxHeartbeats 16000000 in
theorem fd_walk (zs : List Int) (p : Option Addr) (n cap : Nat) (vs : List Int) (q : Option Addr) (m cap2 : Nat) (ws : List Int) (q3 : Option Addr) (m3 cap3 : Nat) (w : World) (he : Env w) (hty : Ety w) (hl : zs.length = n) (hmax : n ≤ maxLen) (hc : HasI zs p w) (_ : ∀ k : Nat, zs[k]?.getD 0 < 9223372036854775808) (hl2 : vs.length = m) (hmax2 : m ≤ maxLen) (hd : HasI vs q w) (_ : ∀ k : Nat, vs[k]?.getD 0 < 9223372036854775808) (hl3 : ws.length = m3) (hmax3 : m3 ≤ maxLen) (hf : HasI ws q3 w) (_ : ∀ k : Nat, ws[k]?.getD 0 < 9223372036854775808) (hcap : m3 ≤ cap3) (hcmx : cap3 ≤ maxLen) :
    Calls Tryd.prog 3 #[.slice p n cap, .slice q m cap2, .slice q3 m3 cap3] w fun e w' => e = .returned (.bool true) ∧ Below w.heap.size w w' := by
  obtain ⟨fc, hfc⟩ : ∃ fc, frcode zs = fc := ⟨_, rfl⟩
  go_enter Tryd.func3, Tryd.ntmps3
  go_wp2_with fail
  refine (fcheck_any zs p n cap _ hl he hmax hc).mono ?_
  rw [hfc]
  rintro e w1 ⟨rfl, hB1⟩
  obtain ⟨tc, htc⟩ : ∃ tc, terr fc = tc := ⟨_, rfl⟩
  have HE1 : Hid (∀ W, Ety W → Calls Tryd.prog 9 #[tc, .int .i64 (fc : Nat)] W fun e w' => e = .returned (.bool true) ∧ Below W.heap.size W w') := fun W h => by rw [← htc]; exact err_is fc W h
  rw [htc]
  clear htc
  go_wp2_with fail
  refine (refFree_any zs p n cap _ hl hmax (hc.later hB1)).mono ?_
  rw [hfc]
  rintro e w2 ⟨rfl, rfl⟩
  go_wp2_with fail
  refine (HE1.out _ (hty.later hB1)).mono ?_
  rintro e w3 ⟨rfl, hB3⟩
  have hC3 := bel_on hB1 hB3
  clear hfc HE1 hB1 hB3
  go_wp2_with fail
  refine (refWord_any zs p n cap ws q3 m3 cap3 _ hl hmax (hc.later hC3) hl3 hmax3 (hf.later hC3)).mono ?_
  obtain ⟨ec, hec⟩ : ∃ ec, wcode zs ws = ec := ⟨_, rfl⟩
  rw [hec]
  rintro e w4 ⟨rfl, rfl⟩
  have HEC : Hid (wcode zs ws = ec) := hec
  by_cases h0 : ec = 0
  · subst h0
    obtain ⟨F, u, rfl, rfl, hF, hU⟩ := wcode_get hec
    rw [ints_length] at hl hl3
    have hm3 : m3 ≤ 24 := hl3 ▸ hU.len
    have hn6 := hF.len
    clear hec
    go_wp2_with fail
    refine (refSteps_ok F u p n cap q3 m3 cap3 _ hl hF (hc.later hC3) hl3 hU (hf.later hC3)).mono ?_
    rintro e x6 ⟨vx, rfl, hox, hB6⟩
    have hC6 := bel_on hC3 hB6
    obtain ⟨px, cx, rfl⟩ := owns_slice hox
    have hxl := stR_le (F := F) hl3 hm3
    obtain ⟨nx, hnx⟩ : ∃ nx, (stR F u m3).length = nx := ⟨_, rfl⟩
    rw [hnx] at hox hxl
    rw [hnx]
    have rx := hasI_of_owns hnx hox
    clear hox
    clear hC3 hB6
    go_wp2_with fail
    refine (refLeast_ok F u p n cap q3 m3 cap3 _ hl hF (hc.later hC6) hl3 hU (hf.later hC6)).mono ?_
    rintro e x7 ⟨vy, rfl, hoy, hB7⟩
    have hC7 := bel_on hC6 hB7
    have rx_7 := rx.later hB7
    obtain ⟨py, cy, rfl⟩ := owns_slice hoy
    have ry := hasI_of_owns (by rw [M.lword_length hF.fr hU.lt]; exact hl3) hoy
    clear hoy
    clear hC6 hB7 rx
    go_wp2_with fail
    refine (refAhead_ok F u p n cap q3 m3 cap3 _ hl hF (hc.later hC7) hl3 hU (hf.later hC7)).mono ?_
    rintro e x8 ⟨vz, rfl, hoz, hB8⟩
    have hC8 := bel_on hC7 hB8
    have rx_8 := rx_7.later hB8
    have ry_8 := ry.later hB8
    obtain ⟨pz, cz, rfl⟩ := owns_slice hoz
    have rz := hasI_of_owns (by rw [M.ahR_length]; exact hl3) hoz
    clear hoz
    clear hC7 hB8 rx_7 ry
    go_wp2_with fail
    refine (fsteps_ok F u p n cap q3 m3 cap3 _ hl (he.later hC8) hF (hc.later hC8) hl3 hU (hf.later hC8)).mono ?_
    rintro e x9 ⟨vs1, rfl, hos, hB9⟩
    have hC9 := bel_on hC8 hB9
    have rx_9 := rx_8.later hB9
    have ry_9 := ry_8.later hB9
    have rz_9 := rz.later hB9
    obtain ⟨ps, cs, rfl⟩ := owns_slice hos
    rw [hnx] at hos
    rw [hnx]
    have rs := hasI_of_owns hnx hos
    clear hos
    clear hC8 hB9 rx_8 ry_8 rz
    go_wp2_with fail
    refine (err_is 0 _ (hty.later hC9)).mono ?_
    rintro e x10 ⟨rfl, hB10⟩
    have hC10 := bel_on hC9 hB10
    have rx_10 := rx_9.later hB10
    have ry_10 := ry_9.later hB10
    have rz_10 := rz_9.later hB10
    have rs_10 := rs.later hB10
    clear hC9 hB10 rx_9 ry_9 rz_9 rs
    go_wp2_with fail
    refine (row_same (stR F u m3) ps px nx cs cx _ hnx hxl rs_10 rx_10).mono ?_
    rintro e x11 ⟨rfl, hB11⟩
    have hC11 := bel_on hC10 hB11
    have rx_11 := rx_10.later hB11
    have ry_11 := ry_10.later hB11
    have rz_11 := rz_10.later hB11
    have rs_11 := rs_10.later hB11
    clear hC10 hB11 rx_10 ry_10 rz_10 rs_10
    go_wp2_with fail
    refine (fleast_ok F u p n cap q3 m3 cap3 _ hl (he.later hC11) hF (hc.later hC11) hl3 hU (hf.later hC11)).mono ?_
    rintro e x12 ⟨B, rfl, hrB, hBB, hB12⟩
    have hC12 := bel_on hC11 hB12
    have ry_12 := ry_11.later hB12
    have rz_12 := rz_11.later hB12
    have rb := hrB.hasI
    clear hrB hBB
    clear hC11 hB12 ry_11 rz_11
    go_wp2_with fail
    refine (err_is 0 _ (hty.later hC12)).mono ?_
    rintro e x13 ⟨rfl, hB13⟩
    have hC13 := bel_on hC12 hB13
    have ry_13 := ry_12.later hB13
    have rz_13 := rz_12.later hB13
    have rb_13 := rb.later hB13
    clear hC12 hB13 ry_12 rz_12 rb
    go_wp2_with fail
    rw [hl] at ry_13
    refine (row_same (M.lword (M.fr F) n u) _ py m3 m3 cy _ (by rw [← hl, M.lword_length hF.fr hU.lt]; exact hl3) hm3 rb_13 ry_13).mono ?_
    rintro e x14 ⟨rfl, hB14⟩
    have hC14 := bel_on hC13 hB14
    have ry_14 := ry_13.later hB14
    have rz_14 := rz_13.later hB14
    have rb_14 := rb_13.later hB14
    clear hC13 hB14 ry_13 rz_13 rb_13
    go_wp2_with fail
    refine (fahead_ok F u p n cap q3 m3 cap3 _ hl (he.later hC14) hF (hc.later hC14) hl3 hU (hf.later hC14) hcap hcmx).mono ?_
    rintro e x15 ⟨C, rfl, hrC, hCC, hB15⟩
    have hC15 := bel_on hC14 hB15
    have rz_15 := rz_14.later hB15
    have rc := hrC.hasI
    clear hrC hCC
    clear hC14 hB15 rz_14
    go_wp2_with fail
    refine (err_is 0 _ (hty.later hC15)).mono ?_
    rintro e x16 ⟨rfl, hB16⟩
    have hC16 := bel_on hC15 hB16
    have rz_16 := rz_15.later hB16
    have rc_16 := rc.later hB16
    clear hC15 hB16 rz_15 rc
    go_wp2_with fail
    refine (row_same (M.ahR (M.fr F) u) _ pz m3 m3 cz _ (by rw [M.ahR_length]; exact hl3) hm3 rc_16 rz_16).mono ?_
    rintro e x17 ⟨rfl, hB17⟩
    have hC17 := bel_on hC16 hB17
    have rz_17 := rz_16.later hB17
    have rc_17 := rc_16.later hB17
    clear hC16 hB17 rz_16 rc_16
    go_wp2_with fail
    obtain ⟨fv, hfv⟩ : ∃ fv, wcode (ints F) vs = fv := ⟨_, rfl⟩
    refine (refWord_any (ints F) p n cap vs q m cap2 _ (by rw [ints_length]; exact hl) (by unfold maxLen; omega) (hc.later hC17) hl2 hmax2 (hd.later hC17)).mono ?_
    rw [hfv]
    rintro e y1 ⟨rfl, rfl⟩
    by_cases h1 : fv = 0
    · subst h1
      obtain ⟨F', v, eF, rfl, _, hV⟩ := wcode_get hfv
      obtain rfl := ints_inj eF
      rw [ints_length] at hl2
      clear hfv eF
      go_wp2_with fail
      refine (refSame_ok F v u p n cap q m cap2 q3 m3 cap3 _ hl hF (hc.later hC17) hl2 hV (hd.later hC17) hl3 hU (hf.later hC17)).mono ?_
      rintro e x18 ⟨rfl, hB18⟩
      have hC18 := bel_on hC17 hB18
      obtain ⟨sw, hsw⟩ : ∃ sw, sameW F v u = sw := ⟨_, rfl⟩
      rw [hsw]
      clear hC17 hB18
      go_wp2_with fail
      refine (fsame_ok F v u p n cap q m cap2 q3 m3 cap3 _ hl (he.later hC18) hF (hc.later hC18) hl2 hV (hd.later hC18) hl3 hU (hf.later hC18)).mono ?_
      rw [hsw]
      rintro e x19 ⟨rfl, hB19⟩
      have hC19 := bel_on hC18 hB19
      clear hC18 hB19
      clear hsw
      go_wp2_with fail
      refine (err_is 0 _ (hty.later hC19)).mono ?_
      rintro e x20 ⟨rfl, hB20⟩
      have hC20 := bel_on hC19 hB20
      have HB : Hid (Below _ _ _) := hC20
      clear hC20
      clear hC19 hB20
      go_wp2_with fail
      go_ret
      exact ⟨by cases sw <;> rfl, HB.out⟩
    · have hsc : scode (ints F) vs (ints u) = fv := by unfold scode; rw [hfv, if_neg h1]
      have g3 : ((fv : Int) == 0) = false := by simp; omega
      have g4 : (fv == 0) = false := by simpa using h1
      have HN1 : Hid (fv ≠ 0) := h1
      clear h1 hfv
      go_wp2_with fail
      refine (fsame_err (ints F) p n cap vs q m cap2 (ints u) q3 m3 cap3 _ (by rw [ints_length]; exact hl) (he.later hC17) (by unfold maxLen; omega) (hc.later hC17) hl2 hmax2 (hd.later hC17) (by rw [ints_length]; exact hl3) (by unfold maxLen; omega) (hf.later hC17) fv hsc HN1.out).mono ?_
      rintro e x18 ⟨rfl, hB18⟩
      have hC18 := bel_on hC17 hB18
      clear hC17 hB18
      clear hsc
      unfold errC
      go_wp2_with fail
      refine (error_same fv _ (hty.later hC18)).mono ?_
      rintro e x19 ⟨rfl, hB19⟩
      have hC19 := bel_on hC18 hB19
      have HB : Hid (Below _ _ _) := hC19
      clear hC19
      clear hC18 hB19
      go_wp2_with fail
      go_ret
      exact ⟨rfl, HB.out⟩
  · have g1 : ((ec : Int) == 0) = false := by simp; omega
    have g2 : (ec == 0) = false := by simpa using h0
    have HNE : Hid (ec ≠ 0) := h0
    clear h0 hec
    go_wp2_with fail
    refine (fsteps_err zs p n cap ws q3 m3 cap3 _ hl (he.later hC3) hmax (hc.later hC3) hl3 hmax3 (hf.later hC3) ec HEC.out HNE.out).mono ?_
    rintro e x6 ⟨rfl, hB6⟩
    have hC6 := bel_on hC3 hB6
    clear hC3 hB6
    unfold errC
    go_wp2_with fail
    refine (error_same ec _ (hty.later hC6)).mono ?_
    rintro e x7 ⟨rfl, hB7⟩
    have hC7 := bel_on hC6 hB7
    clear hC6 hB7
    go_wp2_with fail
    refine (nil_same _).mono ?_
    rintro e x8 ⟨rfl, hB8⟩
    have hC8 := bel_on hC7 hB8
    clear hC7 hB8
    go_wp2_with fail
    refine (fleast_err zs p n cap ws q3 m3 cap3 _ hl (he.later hC8) hmax (hc.later hC8) hl3 hmax3 (hf.later hC8) ec HEC.out HNE.out).mono ?_
    rintro e x9 ⟨rfl, hB9⟩
    have hC9 := bel_on hC8 hB9
    clear hC8 hB9
    unfold errC
    go_wp2_with fail
    refine (error_same ec _ (hty.later hC9)).mono ?_
    rintro e x10 ⟨rfl, hB10⟩
    have hC10 := bel_on hC9 hB10
    clear hC9 hB10
    go_wp2_with fail
    refine (nil_same _).mono ?_
    rintro e x11 ⟨rfl, hB11⟩
    have hC11 := bel_on hC10 hB11
    clear hC10 hB11
    go_wp2_with fail
    refine (fahead_err zs p n cap ws q3 m3 cap3 _ hl (he.later hC11) hmax (hc.later hC11) hl3 hmax3 (hf.later hC11) ec HEC.out HNE.out).mono ?_
    rintro e x12 ⟨rfl, hB12⟩
    have hC12 := bel_on hC11 hB12
    clear hC11 hB12
    unfold errC
    go_wp2_with fail
    refine (error_same ec _ (hty.later hC12)).mono ?_
    rintro e x13 ⟨rfl, hB13⟩
    have hC13 := bel_on hC12 hB13
    clear hC12 hB13
    go_wp2_with fail
    refine (nil_same _).mono ?_
    rintro e x14 ⟨rfl, hB14⟩
    have hC14 := bel_on hC13 hB14
    clear hC13 hB14
    go_wp2_with fail
    obtain ⟨fv, hfv⟩ : ∃ fv, wcode zs vs = fv := ⟨_, rfl⟩
    refine (refWord_any zs p n cap vs q m cap2 _ hl hmax (hc.later hC14) hl2 hmax2 (hd.later hC14)).mono ?_
    rw [hfv]
    rintro e y1 ⟨rfl, rfl⟩
    by_cases h1 : fv = 0
    · have hsc : scode zs vs ws = ec := by unfold scode; rw [hfv, if_pos h1]; exact HEC.out
      subst h1
      clear hfv
      go_wp2_with fail
      refine (fsame_err zs p n cap vs q m cap2 ws q3 m3 cap3 _ hl (he.later hC14) hmax (hc.later hC14) hl2 hmax2 (hd.later hC14) hl3 hmax3 (hf.later hC14) ec hsc HNE.out).mono ?_
      rintro e x15 ⟨rfl, hB15⟩
      have hC15 := bel_on hC14 hB15
      clear hC14 hB15
      clear hsc
      unfold errC
      go_wp2_with fail
      refine (error_same ec _ (hty.later hC15)).mono ?_
      rintro e x16 ⟨rfl, hB16⟩
      have hC16 := bel_on hC15 hB16
      have HB : Hid (Below _ _ _) := hC16
      clear hC16
      clear hC15 hB16
      go_wp2_with fail
      go_ret
      exact ⟨rfl, HB.out⟩
    · have hsc : scode zs vs ws = fv := by unfold scode; rw [hfv, if_neg h1]
      have g3 : ((fv : Int) == 0) = false := by simp; omega
      have g4 : (fv == 0) = false := by simpa using h1
      have HN1 : Hid (fv ≠ 0) := h1
      clear h1 hfv
      go_wp2_with fail
      refine (fsame_err zs p n cap vs q m cap2 ws q3 m3 cap3 _ hl (he.later hC14) hmax (hc.later hC14) hl2 hmax2 (hd.later hC14) hl3 hmax3 (hf.later hC14) fv hsc HN1.out).mono ?_
      rintro e x15 ⟨rfl, hB15⟩
      have hC15 := bel_on hC14 hB15
      clear hC14 hB15
      clear hsc
      unfold errC
      go_wp2_with fail
      refine (error_same fv _ (hty.later hC15)).mono ?_
      rintro e x16 ⟨rfl, hB16⟩
      have hC16 := bel_on hC15 hB16
      have HB : Hid (Below _ _ _) := hC16
      clear hC16
      clear hC15 hB16
      go_wp2_with fail
      go_ret
      exact ⟨rfl, HB.out⟩
end Go.Proofs.YtbacngbcnkikiaaDoor
