/- WHAT IS WRONG WITH ANY SCHEDULE, AND WHAT COMES OF IT (law SchedSays), the walk. -/
import Derived.Test.YtkkccafobfdjbaaDoorErr
import Derived.Test.YtkkccafobfdjbaaDoorEtyT
import Derived.Test.YtkkccafobfdjbaaDoorSc3
import Derived.Test.YtkkccafobfdjbaaDoorSc4
import Derived.Test.YtkkccafobfdjbaaDoorSc5
import Derived.Test.YtkkccafobfdjbaaDoorRefS2
import Derived.Test.YtkkccafobfdjbaaDoorRefS3
import Derived.Test.YtkkccafobfdjbaaDoorRefS5
namespace Go.Proofs.YtkkccafobfdjbaaDoor
open Go.RowKit
theorem err_is (c : Nat) (w : World) (hg : Ety w) : Calls Tryd.prog 8 #[terr c, .int .i64 (c : Nat)] w fun e w' => e = .returned (.bool true) ∧ Below w.heap.size w w' := by
  by_cases h : c = 0
  · subst h
    refine (error_nil w).mono ?_
    rintro e w' ⟨rfl, rfl⟩
    exact ⟨rfl, Below.refl _ _⟩
  · rw [terr_ne h]; exact error_same _ _ hg
theorem hasI_none (w : World) : HasI [] none w := fun _ hj => absurd hj (Nat.not_lt_zero _)
theorem nil_same (w : World) : Calls Tryd.prog 15 #[.slice none 0 0, .slice none 0 0] w fun e w' => e = .returned (.bool true) ∧ Below w.heap.size w w' :=
  same_intsI [] none none 0 0 0 w rfl (Nat.zero_le _) (hasI_none w) (hasI_none w)
/-- the row that is told -/
def yR (s : List M.SAct) : List Nat := if ringB (M.edR s) then [] else M.firstR (M.turned (M.edR s))
theorem yR_le (s : List M.SAct) : (yR s).length ≤ 5 := by
  unfold yR
  split
  · exact Nat.zero_le _
  · rw [M.firstR_length, M.turned_length, M.edR_len]; exact Nat.le_refl _
/-- the places that are told -/
def wR (s : List M.SAct) (rs : List Int) : List Nat := if kcd rs = 0 then M.ordd s (nats rs) else []
theorem serial_says (s : List M.SAct) (p : Option Addr) (n cap : Nat) (w : World) (he : Env w) (hl : s.length = n) (hk : M.AOk s) (hcap : n ≤ cap) (hc : HasAc (az s) p w) :
    Calls Tryd.prog 16 #[.slice p n cap] w fun e w' => ∃ a c, e = .returned (.tuple #[.bool (!ringB (M.edR s)), .slice a (yR s).length c, .nilIface]) ∧ HasI (ints (yR s)) a w' ∧ Below w.heap.size w w' := by
  unfold yR
  cases h : ringB (M.edR s) with
  | true => exact (serial_ring s p n cap w he hl hk hcap hc (ringB_iff.1 h)).mono (fun e w' hh => ⟨none, 0, hh.1, hasI_none _, hh.2⟩)
  | false =>
    refine (serial_ok s p n cap w he hl hk hcap hc (fun hr => by rw [ringB_iff.2 hr] at h; cases h)).mono ?_
    rintro e w' ⟨A, rfl, h1, _, h2⟩
    refine ⟨some ⟨A, 0, none⟩, 5, ?_, RowAt.hasI h1, h2⟩
    show _ = Ending.returned (.tuple #[_, .slice _ (M.firstR (M.turned (M.edR s))).length 5, _])
    rw [M.firstR_length, M.turned_length, M.edR_len]
    rfl
theorem refSerial_says (s : List M.SAct) (p : Option Addr) (cap : Nat) (w : World) (hp : HasI (ints (M.edR s)) p w) :
    Calls Tryd.prog 11 #[.slice p 5 cap] w fun e w' => ∃ a c, e = .returned (.tuple #[.slice a (yR s).length c, .bool (!ringB (M.edR s))]) ∧ HasI (ints (yR s)) a w' ∧ Below w.heap.size w w' := by
  have hE : ∀ i, M.row (M.edR s) i < 65536 := fun i => by have := M.edR_ok s i; rw [M.edR_len] at this; omega
  refine (refSerial_ok (M.edR s) p 5 cap w (M.edR_len s) (by omega) hE hp).mono ?_
  rintro e w' ⟨hB, hres⟩
  unfold yR
  cases h : ringB (M.edR s) with
  | true =>
    have hg := M.gb_ring (M.edR_ok s) (M.edR_self s) (ringB_iff.1 h)
    rw [M.edR_len] at hg
    rcases hres with ⟨l, q, c, h1, _, _⟩ | ⟨_, rfl⟩
    · rw [hg] at h1; cases h1
    · exact ⟨none, 0, rfl, hasI_none _, hB⟩
  | false =>
    have hg := M.first_gb (M.edR_ok s) (M.edR_self s) (fun hr => by rw [ringB_iff.2 hr] at h; cases h)
    rw [M.edR_len] at hg
    rcases hres with ⟨l, q, c, h1, rfl, hI⟩ | ⟨h1, _⟩
    · rw [hg] at h1
      cases h1
      refine ⟨q, c, ?_, hI, hB⟩
      show _ = Ending.returned (.tuple #[.slice _ (M.firstR (M.turned (M.edR s))).length c, _])
      rw [M.firstR_length, M.turned_length, M.edR_len]
      rfl
    · rw [hg] at h1; cases h1
theorem ordered_says (s : List M.SAct) (rs : List Int) (p q : Option Addr) (n cap m cap' : Nat) (w : World) (hl : s.length = n) (hk : M.AOk s) (hc : HasAc (az s) p w) (hlr : rs.length = m) (hmr : m ≤ maxLen) (hcr : HasI rs q w) :
    Calls Tryd.prog 18 #[.slice p n cap, .slice q m cap'] w fun e w' => ∃ a c, e = .returned (.tuple #[.slice a (wR s rs).length c, terr (kcd rs)]) ∧ HasI (ints (wR s rs)) a w' ∧ Below w.heap.size w w' := by
  unfold wR
  by_cases h0 : kcd rs = 0
  · obtain ⟨r, rfl, h5, hn, hr⟩ := kcd_get h0
    rw [ints_length] at hlr
    obtain rfl : m = 5 := by omega
    rw [if_pos h0, nats_ints, h0, terr_zero]
    exact (ordered_ok s r p q n cap cap' w hl hk hc h5 hn hr hcr).mono (fun e w' hh => hh)
  · rw [if_neg h0]
    have hk24 := hk.len
    exact (ordered_bad (az s) rs p q n cap m cap' w (by rw [az_len, hl]) (by unfold maxLen; omega) hc (acd_az hk) hlr hmr hcr h0).mono (fun e w' hh => ⟨none, 0, hh.1, hasI_none _, hh.2⟩)
theorem refOrdered_says (s : List M.SAct) (rs : List Int) (p q : Option Addr) (n cap m cap' : Nat) (w : World) (hl : s.length = n) (hk : M.AOk s) (hc : HasAc (az s) p w) (hlr : rs.length = m) (hcr : HasI rs q w) :
    Calls Tryd.prog 13 #[.slice p n cap, .slice q m cap'] w fun e w' => ∃ a c, e = .returned (.tuple #[.slice a (wR s rs).length c, .int .i64 ((kcd rs : Nat) : Int)]) ∧ HasI (ints (wR s rs)) a w' ∧ Below w.heap.size w w' := by
  unfold wR
  by_cases h5 : m = 5
  · subst h5
    refine (refOrdered_ok s rs p q n cap cap' w hl hk hc hlr hcr).mono ?_
    rintro e w' ⟨hB, ⟨h1, rfl⟩ | ⟨h1, a, c, rfl, hI⟩⟩
    · rw [if_neg h1]
      exact ⟨none, 0, rfl, hasI_none _, hB⟩
    · rw [if_pos h1, h1]
      exact ⟨a, c, rfl, hI, hB⟩
  · have h3 : kcd rs = 3 := if_neg (by omega)
    rw [h3, if_neg (by omega)]
    exact (refOrdered_shape p q n cap m cap' w h5).mono (fun e w' hh => ⟨none, 0, hh.1, hasI_none _, hh.2⟩)
theorem wR_le (s : List M.SAct) (rs : List Int) (hk : M.AOk s) : (wR s rs).length ≤ 24 := by
  unfold wR
  by_cases h0 : kcd rs = 0
  · obtain ⟨r, rfl, h5, hn, hr⟩ := kcd_get h0
    rw [if_pos h0, nats_ints]
    have : (M.ordd s r).Perm (List.range s.length) := (List.perm_ext_iff_of_nodup (M.ordd_nodup hn) List.nodup_range).2 (fun x => by
      rw [M.mem_ordd, List.mem_range]
      exact ⟨fun h => h.1, fun h => ⟨h, row_all5 h5 hn hr (hk.tx x)⟩⟩)
    rw [this.length_eq, List.length_range]
    exact hk.len
  · rw [if_neg h0]; exact Nat.zero_le _
theorem row_same (m : List Nat) (p q : Option Addr) (n cap cap' : Nat) (w : World) (hl : m.length = n) (hn : n ≤ 24) (hp : HasI (ints m) p w) (hq : HasI (ints m) q w) : Calls Tryd.prog 15 #[.slice p n cap, .slice q n cap'] w fun e w' => e = .returned (.bool true) ∧ Below w.heap.size w w' :=
  same_intsI (ints m) p q n cap cap' w (by rw [ints_length]; exact hl) (by unfold maxLen; omega) hp hq
set_option maxRecDepth 100000 in
set_option maxHeartbeats 16000000 in
theorem xs_walk (zs : List Az) (p : Option Addr) (n cap : Nat) (rs : List Int) (q : Option Addr) (m cap2 : Nat) (w : World) (he : Env w) (hty : Ety w) (hl : zs.length = n) (hmax : n ≤ maxLen) (hcap : n ≤ cap) (hc : HasAc zs p w) (hlr : rs.length = m) (hmr : m ≤ maxLen) (hcr : HasI rs q w) (_ : ∀ k : Nat, rs[k]?.getD 0 < 9223372036854775808) :
    Calls Tryd.prog 3 #[.slice p n cap, .slice q m cap2] w fun e w' => e = .returned (.bool true) ∧ Below w.heap.size w w' := by
  obtain ⟨ec, hec⟩ : ∃ ec, acd zs = ec := ⟨_, rfl⟩
  have hchk := fun W (h : HasAc zs p W) => acheck_ok zs p n cap W hl hmax h
  have hact := refActs_ok zs p n cap w hl hmax hc
  rw [hec] at hact
  simp only [hec] at hchk
  obtain ⟨tc, htc⟩ : ∃ tc, terr ec = tc := ⟨_, rfl⟩
  simp only [htc] at hchk
  have HE : Hid (∀ W, Ety W → Calls Tryd.prog 8 #[tc, .int .i64 (ec : Nat)] W fun e w' => e = .returned (.bool true) ∧ Below W.heap.size W w') := fun W h => by rw [← htc]; exact err_is ec W h
  have HTC : Hid (terr ec = tc) := htc
  have HEC : Hid (acd zs = ec) := hec
  clear htc hec
  go_enter Tryd.func3, Tryd.ntmps3
  go_wp2_with fail
  refine hact.mono ?_
  rintro e w1 ⟨rfl, hB1⟩
  have hc1 := hc.later hB1
  clear hact
  go_wp2_with fail
  refine (hchk w1 hc1).mono ?_
  rintro e w2 ⟨rfl, hB2⟩
  have hC2 := bel_on hB1 hB2
  clear hchk hc1 hB1 hB2
  go_wp2_with fail
  refine (HE.out _ (hty.later hC2)).mono ?_
  rintro e w3 ⟨rfl, hB3⟩
  have hC3 := bel_on hC2 hB3
  have hc3 := hc.later hC3
  have hr3 := hcr.later hC3
  have he3 := he.later hC3
  have hty3 := hty.later hC3
  clear hC2 hB3 hc hcr he hty
  by_cases h0 : ec = 0
  · obtain ⟨s, rfl, hk⟩ := acd_get (HEC.out.trans h0)
    rw [az_len] at hl
    have hn24 : n ≤ 24 := hl ▸ hk.len
    have hd0 : ((ec : Int) == 0) = true := by rw [h0]; rfl
    have hd0' : (ec == 0) = true := by rw [h0]; rfl
    have HT0 : Hid (tc = .nilIface) := by show _ = _; rw [← HTC.out, h0]; rfl
    have HE0 : Hid (∀ W, Ety W → Calls Tryd.prog 8 #[.nilIface, .int .i64 (ec : Nat)] W fun e w' => e = .returned (.bool true) ∧ Below W.heap.size W w') := fun W h => by rw [← HT0.out]; exact HE.out W h
    clear h0 HE hmax
    go_wp2_with fail
    refine (refEdges_ok s p n cap w3 hl hk hc3).mono ?_
    rintro e w4 ⟨A4, rfl, hrow4, -, hB4⟩
    have hc4 := hc3.later hB4
    have hr4 := hr3.later hB4
    have he4 := he3.later hB4
    have hty4 := hty3.later hB4
    have hC4 := bel_on hC3 hB4
    have hx4 : HasI (ints (M.edR s)) (some ⟨A4, 0, none⟩) w4 := RowAt.hasI hrow4
    clear hc3 hr3 he3 hty3 hC3 hB4 hrow4
    go_wp2_with fail
    refine (refSerial_says s _ 5 w4 hx4).mono ?_
    obtain ⟨b, hb⟩ : ∃ b, (!ringB (M.edR s)) = b := ⟨_, rfl⟩
    obtain ⟨ny, hny⟩ : ∃ ny, (yR s).length = ny := ⟨_, rfl⟩
    rw [hb, hny]
    rintro e w5 ⟨ay, cy, rfl, hy5, hB5⟩
    have hc5 := hc4.later hB5
    have hr5 := hr4.later hB5
    have he5 := he4.later hB5
    have hty5 := hty4.later hB5
    have hC5 := bel_on hC4 hB5
    have hx5 := hx4.later hB5
    have HB : Hid ((!ringB (M.edR s)) = b) := hb
    have HNY : Hid ((yR s).length = ny) := hny
    clear hc4 hr4 he4 hty4 hC4 hB5 hx4 hb hny
    go_wp2_with fail
    refine (refReads_ok s p n cap w5 hl hk hc5).mono ?_
    rintro e w6 ⟨az6, cz6, rfl, hz6, hB6⟩
    have hc6 := hc5.later hB6
    have hr6 := hr5.later hB6
    have he6 := he5.later hB6
    have hty6 := hty5.later hB6
    have hC6 := bel_on hC5 hB6
    have hx6 := hx5.later hB6
    have hy6 := hy5.later hB6
    clear hc5 hr5 he5 hty5 hC5 hB6 hx5 hy5
    go_wp2_with fail
    refine (refOrdered_says s rs p q n cap m cap2 w6 hl hk hc6 hlr hr6).mono ?_
    obtain ⟨nw, hnw⟩ : ∃ nw, (wR s rs).length = nw := ⟨_, rfl⟩
    obtain ⟨f, hf⟩ : ∃ f, kcd rs = f := ⟨_, rfl⟩
    rw [hnw, hf]
    rintro e w7 ⟨aw, cw, rfl, hw7, hB7⟩
    have hc7 := hc6.later hB7
    have hr7 := hr6.later hB7
    have he7 := he6.later hB7
    have hty7 := hty6.later hB7
    have hC7 := bel_on hC6 hB7
    have hx7 := hx6.later hB7
    have hy7 := hy6.later hB7
    have hz7 := hz6.later hB7
    have HNW : Hid ((wR s rs).length = nw) := hnw
    have HF : Hid (kcd rs = f) := hf
    have HNW24 : Hid (nw ≤ 24) := by show _ ≤ _; rw [← hnw]; exact wR_le s rs hk
    have HNY5 : Hid (ny ≤ 24) := by show _ ≤ _; rw [← HNY.out]; exact Nat.le_trans (yR_le s) (by omega)
    clear hc6 hr6 he6 hty6 hC6 hB7 hx6 hy6 hz6 hnw hf
    go_wp2_with fail
    refine (edges_ok s p n cap w7 hl hk hcap hc7).mono ?_
    rintro e w8 ⟨A8, rfl, hrow8, -, hB8⟩
    have hc8 := hc7.later hB8
    have hr8 := hr7.later hB8
    have he8 := he7.later hB8
    have hty8 := hty7.later hB8
    have hC8 := bel_on hC7 hB8
    have hx8 := hx7.later hB8
    have hy8 := hy7.later hB8
    have hz8 := hz7.later hB8
    have hw8 := hw7.later hB8
    have hl8 : HasI (ints (M.edR s)) (some ⟨A8, 0, none⟩) w8 := RowAt.hasI hrow8
    clear hc7 hr7 he7 hty7 hC7 hB8 hx7 hy7 hz7 hw7 hrow8
    go_wp2_with fail
    refine (HE0.out _ hty8).mono ?_
    rintro e w9 ⟨rfl, hB9⟩
    go_wp2_with fail
    refine (row_same (M.edR s) _ _ 5 5 5 w9 (M.edR_len s) (by omega) (hl8.later hB9) (hx8.later hB9)).mono ?_
    rintro e w10 ⟨rfl, hB10⟩
    have hB11 := bel_on hB9 hB10
    have hc11 := hc8.later hB11
    have hr11 := hr8.later hB11
    have he11 := he8.later hB11
    have hty11 := hty8.later hB11
    have hC11 := bel_on hC8 hB11
    have hy11 := hy8.later hB11
    have hz11 := hz8.later hB11
    have hw11 := hw8.later hB11
    clear hc8 hr8 he8 hty8 hC8 hB11 hx8 hy8 hz8 hw8 hl8 hB9 hB10
    go_wp2_with fail
    refine (serial_says s p n cap w10 he11 hl hk hcap hc11).mono ?_
    rw [HB.out, HNY.out]
    rintro e w12 ⟨aq, cq, rfl, hq12, hB12⟩
    have hc12 := hc11.later hB12
    have hr12 := hr11.later hB12
    have hty12 := hty11.later hB12
    have hC12 := bel_on hC11 hB12
    have hy12 := hy11.later hB12
    have hz12 := hz11.later hB12
    have hw12 := hw11.later hB12
    have hbb : (b == b) = true := beq_self_eq_true b
    clear hc11 hr11 he11 hty11 hC11 hB12 hy11 hz11 hw11
    go_wp2_with fail
    refine (HE0.out _ hty12).mono ?_
    rintro e w13 ⟨rfl, hB13⟩
    go_wp2_with fail
    refine (row_same (yR s) _ _ ny cq cy w13 HNY.out HNY5.out (hq12.later hB13) (hy12.later hB13)).mono ?_
    rintro e w14 ⟨rfl, hB14⟩
    have hB15 := bel_on hB13 hB14
    have hc15 := hc12.later hB15
    have hr15 := hr12.later hB15
    have hty15 := hty12.later hB15
    have hC15 := bel_on hC12 hB15
    have hz15 := hz12.later hB15
    have hw15 := hw12.later hB15
    clear hc12 hr12 hty12 hC12 hB15 hy12 hz12 hw12 hq12 hB13 hB14 hbb
    go_wp2_with fail
    refine (reads_ok s p n cap w14 hl hk hcap hc15).mono ?_
    rintro e w16 ⟨A16, rfl, hrow16, -, hB16⟩
    have hc16 := hc15.later hB16
    have hr16 := hr15.later hB16
    have hty16 := hty15.later hB16
    have hC16 := bel_on hC15 hB16
    have hz16 := hz15.later hB16
    have hw16 := hw15.later hB16
    have hl16 : HasI (rdZ s) (some ⟨A16, 0, none⟩) w16 := RowY.hasI hrow16
    clear hc15 hr15 hty15 hC15 hB16 hz15 hw15 hrow16
    go_wp2_with fail
    refine (HE0.out _ hty16).mono ?_
    rintro e w17 ⟨rfl, hB17⟩
    go_wp2_with fail
    refine (same_intsI (rdZ s) _ _ n n cz6 w17 (by rw [rdZ_len, hl]) (by unfold maxLen; omega) (hl16.later hB17) (hz16.later hB17)).mono ?_
    rintro e w18 ⟨rfl, hB18⟩
    have hB19 := bel_on hB17 hB18
    have hc19 := hc16.later hB19
    have hr19 := hr16.later hB19
    have hty19 := hty16.later hB19
    have hC19 := bel_on hC16 hB19
    have hw19 := hw16.later hB19
    clear hc16 hr16 hty16 hC16 hB19 hz16 hw16 hl16 hB17 hB18
    go_wp2_with fail
    refine (ordered_says s rs p q n cap m cap2 w18 hl hk hc19 hlr hmr hr19).mono ?_
    rw [HNW.out, HF.out]
    obtain ⟨tf, htf⟩ : ∃ tf, terr f = tf := ⟨_, rfl⟩
    rw [htf]
    have HEF : Hid (∀ W, Ety W → Calls Tryd.prog 8 #[tf, .int .i64 (f : Nat)] W fun e w' => e = .returned (.bool true) ∧ Below W.heap.size W w') := fun W h => by rw [← htf]; exact err_is f W h
    rintro e w20 ⟨al, cl, rfl, hl20, hB20⟩
    have hty20 := hty19.later hB20
    have hC20 := bel_on hC19 hB20
    have hw20 := hw19.later hB20
    clear hc19 hr19 hty19 hC19 hB20 hw19 htf
    go_wp2_with fail
    refine (HEF.out _ hty20).mono ?_
    rintro e w21 ⟨rfl, hB21⟩
    go_wp2_with fail
    refine (row_same (wR s rs) _ _ nw cl cw w21 HNW.out HNW24.out (hl20.later hB21) (hw20.later hB21)).mono ?_
    rintro e w22 ⟨rfl, hB22⟩
    have HBB : Hid (Below w.heap.size w w22) := bel_on (bel_on hC20 hB21) hB22
    clear hty20 hC20 hw20 hl20 hB21 hB22
    go_wp2_with fail
    go_ret
    exact ⟨rfl, HBB.out⟩
  · have hne : acd zs ≠ 0 := by rw [HEC.out]; exact h0
    have hd0 : ((ec : Int) == 0) = false := by simp; omega
    have hd0' : (ec == 0) = false := by simp; omega
    have e1 := fun W (h : HasAc zs p W) => edges_err zs p n cap W hl hmax h hne
    have e2 := fun W (h : HasAc zs p W) => serial_err zs p n cap W hl hmax h hne
    have e3 := fun W (h : HasAc zs p W) => reads_err zs p n cap W hl hmax h hne
    have e4 := fun W (h : HasAc zs p W) => ordered_err zs p q n cap m cap2 W hl hmax h hne
    simp only [HEC.out, HTC.out] at e1 e2 e3 e4
    clear h0 hne hr3 he3
    go_wp2_with fail
    refine (e1 _ hc3).mono ?_
    rintro e w4 ⟨rfl, hB4⟩
    have hc4 := hc3.later hB4
    have hty4 := hty3.later hB4
    have hC4 := bel_on hC3 hB4
    clear e1 hc3 hty3 hC3 hB4
    go_wp2_with fail
    refine (HE.out _ hty4).mono ?_
    rintro e w5 ⟨rfl, hB5⟩
    go_wp2_with fail
    refine (nil_same w5).mono ?_
    rintro e w6 ⟨rfl, hB6⟩
    have hB7 := bel_on hB5 hB6
    have hc7 := hc4.later hB7
    have hty7 := hty4.later hB7
    have hC7 := bel_on hC4 hB7
    clear hc4 hty4 hC4 hB5 hB6 hB7
    go_wp2_with fail
    refine (e2 _ hc7).mono ?_
    rintro e w8 ⟨rfl, hB8⟩
    have hc8 := hc7.later hB8
    have hty8 := hty7.later hB8
    have hC8 := bel_on hC7 hB8
    clear e2 hc7 hty7 hC7 hB8
    go_wp2_with fail
    refine (HE.out _ hty8).mono ?_
    rintro e w9 ⟨rfl, hB9⟩
    go_wp2_with fail
    refine (nil_same w9).mono ?_
    rintro e w10 ⟨rfl, hB10⟩
    have hB11 := bel_on hB9 hB10
    have hc11 := hc8.later hB11
    have hty11 := hty8.later hB11
    have hC11 := bel_on hC8 hB11
    clear hc8 hty8 hC8 hB9 hB10 hB11
    go_wp2_with fail
    refine (e3 _ hc11).mono ?_
    rintro e w12 ⟨rfl, hB12⟩
    have hc12 := hc11.later hB12
    have hty12 := hty11.later hB12
    have hC12 := bel_on hC11 hB12
    clear e3 hc11 hty11 hC11 hB12
    go_wp2_with fail
    refine (HE.out _ hty12).mono ?_
    rintro e w13 ⟨rfl, hB13⟩
    go_wp2_with fail
    refine (nil_same w13).mono ?_
    rintro e w14 ⟨rfl, hB14⟩
    have hB15 := bel_on hB13 hB14
    have hc15 := hc12.later hB15
    have hty15 := hty12.later hB15
    have hC15 := bel_on hC12 hB15
    clear hc12 hty12 hC12 hB13 hB14 hB15
    go_wp2_with fail
    refine (e4 _ hc15).mono ?_
    rintro e w16 ⟨rfl, hB16⟩
    have hty16 := hty15.later hB16
    have hC16 := bel_on hC15 hB16
    clear e4 hc15 hty15 hC15 hB16
    go_wp2_with fail
    refine (HE.out _ hty16).mono ?_
    rintro e w17 ⟨rfl, hB17⟩
    go_wp2_with fail
    refine (nil_same w17).mono ?_
    rintro e w18 ⟨rfl, hB18⟩
    have HBB : Hid (Below w.heap.size w w18) := bel_on (bel_on hC16 hB17) hB18
    clear hty16 hC16 hB17 hB18
    go_wp2_with fail
    go_ret
    exact ⟨rfl, HBB.out⟩
end Go.Proofs.YtkkccafobfdjbaaDoor
