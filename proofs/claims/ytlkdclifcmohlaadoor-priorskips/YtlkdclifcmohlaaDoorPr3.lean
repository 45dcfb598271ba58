/- A new gate, an act that comes to it, what was done, who was stopped (package prior, New, Do, Acts, Dead). -/
import Derived.Test.YtlkdclifcmohlaaDoorBPr
import Derived.Test.YtlkdclifcmohlaaDoorBLp
import Derived.Deep.RegionLaw
import Derived.Deep.AppendLies
import Derived.Lib.SliceRun
namespace Go.Proofs.YtlkdclifcmohlaaDoor
open Go.RowKit
set_option maxHeartbeats 1000000 in
theorem gnew_ok {O : Nat → Prop} (sk : Bool) (w : World) (hO : O w.heap.size) :
    Calls Tryd.prog 8 #[.bool sk] w fun e w' => e = .returned (.pointer (some ⟨w.heap.size, 0, none⟩)) ∧ GV O w.heap.size sk M.gt0 w' ∧ Below w.heap.size w w' := by
  go_enter Tryd.func8, Tryd.ntmps8
  go_wp2_with fail
  go_ret
  exact ⟨rfl, ⟨_, gv_new w sk, hO, fun g h => by simp [Value.ownBlock] at h⟩, bel_al (Below.refl _ _) _⟩
set_option maxHeartbeats 1000000 in
theorem gdead_ok {O : Nat → Prop} {S : Nat} {sk : Bool} {s : M.Gt} (w : World) (h : GV O S sk s w) :
    Calls Tryd.prog 15 #[.pointer (some ⟨S, 0, none⟩)] w fun e w' => e = .returned (.int .i64 (s.dead : Nat)) ∧ w = w' := by
  obtain ⟨v, h1, _⟩ := h
  have c2 := h1.c2
  have lS := h1.lt
  clear h1
  go_enter Tryd.func15, Tryd.ntmps15
  go_wp2_with fail
  go_ret
  exact ⟨rfl, rfl⟩
set_option maxRecDepth 100000 in
set_option maxHeartbeats 2000000 in
theorem gacts_ok {O : Nat → Prop} {S : Nat} {sk : Bool} {s : M.Gt} (w : World) (h : GV O S sk s w) (hG : M.GG s) :
    Calls Tryd.prog 10 #[.pointer (some ⟨S, 0, none⟩)] w fun e w' => ∃ p c, e = .returned (.slice p s.ac.length c) ∧ s.ac.length ≤ c ∧ HasAc (az s.ac) p w' ∧ Below w.heap.size w w' := by
  obtain ⟨v, h1, _⟩ := h
  have ca := h1.c1
  have hown := h1.act
  obtain ⟨ad, c0, rfl, hcc⟩ := owns_capA hown
  have hcl := aclone_ok s.ac ad s.ac.length c0 w rfl hG.len (hasAc_of_owns rfl hown) (fun b off e => (hown.lt b (by rw [e]; rfl)).2) (fun a e => by
    subst e
    rcases hown.2 with ⟨e, _⟩ | ⟨g, cap, cur, e, _⟩
    · cases e
    · cases e; rfl) (fun e => by
    subst e
    rcases hown.2 with ⟨e, h0⟩ | ⟨g, cap, cur, e, _⟩
    · simp only [Value.slice.injEq] at e; omega
    · cases e)
  have lS := h1.lt
  obtain ⟨L, hL⟩ : ∃ L, s.ac.length = L := ⟨_, rfl⟩
  rw [hL] at hcl ca ⊢
  clear h1 hown hG hcc hL
  go_enter Tryd.func10, Tryd.ntmps10
  go_wp2_with fail
  refine hcl.mono ?_
  rintro e w1 ⟨p, c, rfl, h1, h2, h3⟩
  have F : Hid (L ≤ c ∧ HasAc (az s.ac) p w1 ∧ Below w.heap.size w w1) := ⟨h1, h2, h3⟩
  clear h1 h2 h3 hcl
  go_wp2_with fail
  go_ret
  exact ⟨p, c, rfl, F.out⟩
theorem gchk_zero {s : M.Gt} {o : Az} (h : gchk s o = 0) : aIn o = true ∧ s.dead.testBit o.n.tx = false ∧ ¬ 24 ≤ s.ac.length := by
  unfold gchk at h
  by_cases c : aIn o = true
  · rw [if_pos c] at h
    cases d : s.dead.testBit o.n.tx with
    | true => rw [if_pos d] at h; cases h
    | false =>
      rw [if_neg (by rw [d]; simp)] at h
      by_cases l : 24 ≤ s.ac.length
      · rw [if_pos l] at h; cases h
      · exact ⟨c, rfl, l⟩
  · rw [if_neg c] at h; cases h
theorem gtZ_bad {sk : Bool} {s : M.Gt} {o : Az} (h : gchk s o ≠ 0) : gtZ sk s o = (s, false, gchk s o) := by
  unfold gtZ gchk at *
  by_cases c : aIn o = true
  · rw [if_pos c] at h ⊢
    rw [if_pos c]
    cases d : s.dead.testBit o.n.tx with
    | true => rw [M.gt_dead d, if_pos rfl]
    | false =>
      rw [if_neg (by rw [d]; simp)] at h
      by_cases l : 24 ≤ s.ac.length
      · rw [M.gt_full d l, if_neg (by simp), if_pos l]
      · rw [if_neg l] at h; exact absurd rfl h
  · rw [if_neg c, if_neg c]
set_option maxRecDepth 100000 in
set_option maxHeartbeats 2000000 in
theorem gdo_bad {O : Nat → Prop} {S : Nat} {sk : Bool} {s : M.Gt} (o : Az) (w : World) (h : GV O S sk s w) (hG : M.GG s) (hb : gchk s o ≠ 0) :
    Calls Tryd.prog 9 #[.pointer (some ⟨S, 0, none⟩), acV o] w fun e w' => e = .returned (.tuple #[.bool false, terr (gchk s o)]) ∧ GV O S sk s w' ∧ Frm O w w' := by
  have HT : Hid (GV O S sk s w) := h
  obtain ⟨v, h1, _⟩ := h
  have B0 : Below w.heap.size w (w.alloc (.cells #[.int .i64 o.tx, .int .i64 o.it, .int .i64 o.wt] 31)) := bel_al (Below.refl _ _) _
  have hck := gcheck_ok o _ (h1.below B0) hG
  have HB0 : Hid (Below w.heap.size w (w.alloc (.cells #[.int .i64 o.tx, .int .i64 o.it, .int .i64 o.wt] 31))) := B0
  obtain ⟨c, hc⟩ : ∃ c, gchk s o = c := ⟨_, rfl⟩
  rw [hc] at hck hb ⊢
  rw [terr_ne hb] at hck ⊢
  clear h1 hc B0 hG hb
  go_enter Tryd.func9, Tryd.ntmps9
  go_wp2_with fail
  refine hck.mono ?_
  rintro e w2 ⟨rfl, hB2⟩
  have FB : Hid (Below w.heap.size w w2) := bel_on HB0.out hB2
  clear hck hB2
  go_wp2_with fail
  go_ret2
  exact ⟨rfl, HT.out.below FB.out, Frm.of_below FB.out⟩
/-- How things stand behind the two questions: the gate, and the act's own copy in block N. -/
structure GD (O : Nat → Prop) (S : Nat) (sk : Bool) (s : M.Gt) (t o x N : Nat) (w0 w : World) : Prop where
  gv : GV O S sk s w
  ac : AcAt ⟨(t : Nat), (o : Nat), (x : Nat)⟩ N 0 w
  bl : Below N w0 w
theorem GD.later {O : Nat → Prop} {S : Nat} {sk : Bool} {s : M.Gt} {t o x N : Nat} {w0 w w' : World} (h : GD O S sk s t o x N w0 w) (hb : Below w.heap.size w w') : GD O S sk s t o x N w0 w' :=
  ⟨h.gv.below hb, h.ac.later hb h.ac.lt, h.bl.trans (hb.mono (by have := h.ac.lt; omega))⟩
set_option maxRecDepth 100000 in
set_option maxHeartbeats 4000000 in
theorem gdo_late {O : Nat → Prop} {S : Nat} {sk : Bool} {s : M.Gt} (t o x : Nat) (w : World) (h : GV O S sk s w) (hG : M.GG s) (ht : t < 5) (hx : x < 2) (h0 : gchk s ⟨(t : Nat), (o : Nat), (x : Nat)⟩ = 0) (hl : M.lateB sk s ⟨t, o, x⟩ = true) :
    Calls Tryd.prog 9 #[.pointer (some ⟨S, 0, none⟩), acV ⟨(t : Nat), (o : Nat), (x : Nat)⟩] w fun e w' => e = .returned (.tuple #[.bool false, terr 6]) ∧ GV O S sk (M.pStop s t) w' ∧ Frm O w w' := by
  obtain ⟨w0, hw0⟩ : ∃ w0, w.alloc (.cells #[.int .i64 (t : Nat), .int .i64 (o : Nat), .int .i64 (x : Nat)] 31) = w0 := ⟨_, rfl⟩
  have D0 : GD O S sk s t o x w.heap.size w w0 := by
    have B : Below w.heap.size w w0 := by rw [← hw0]; exact bel_al (Below.refl _ _) _
    exact ⟨h.below B, by rw [← hw0]; exact acAt_new w ⟨(t : Nat), (o : Nat), (x : Nat)⟩, B⟩
  have H0 : Hid (GD O S sk s t o x w.heap.size w w0) := D0
  have hck : ∀ w', Hid (GD O S sk s t o x w.heap.size w w') → Calls Tryd.prog 21 #[.pointer (some ⟨S, 0, none⟩), .agg #[.int .i64 (t : Nat), .int .i64 (o : Nat), .int .i64 (x : Nat)]] w' fun e w'' => e = .returned .nilIface ∧ Hid (GD O S sk s t o x w.heap.size w w'') := fun w' hh => by
    obtain ⟨v, h1, _⟩ := hh.out.gv
    have hq := gcheck_ok ⟨(t : Nat), (o : Nat), (x : Nat)⟩ w' h1 hG
    rw [h0, terr_zero] at hq
    refine hq.mono ?_
    rintro e w'' ⟨rfl, hB⟩
    exact ⟨rfl, hh.out.later hB⟩
  have hlt : ∀ w', Hid (GD O S sk s t o x w.heap.size w w') → Calls Tryd.prog 22 #[.pointer (some ⟨S, 0, none⟩), .agg #[.int .i64 (t : Nat), .int .i64 (o : Nat), .int .i64 (x : Nat)]] w' fun e w'' => e = .returned (.bool true) ∧ Hid (GD O S sk s t o x w.heap.size w w'') := fun w' hh => by
    obtain ⟨v, h1, _⟩ := hh.out.gv
    have hq := late_ok t o x w' h1 hG hx
    rw [hl] at hq
    refine hq.mono ?_
    rintro e w'' ⟨rfl, hB⟩
    exact ⟨rfl, hh.out.later hB⟩
  have q0 := D0.ac.c0
  have q1 : w0.cell? ⟨w.heap.size, 1, none⟩ = some (.int .i64 (o : Nat)) := D0.ac.c1
  have q2 : w0.cell? ⟨w.heap.size, 2, none⟩ = some (.int .i64 (x : Nat)) := D0.ac.c2
  simp only at q0
  have L0 := D0.ac.lt
  have hor := i64_or_nat s.dead (1 <<< t) (by have := hG.dd; omega) (one_lt ht)
  have hsh : IntKind.i64.wrap (2 ^ t) = ((1 <<< t : Nat) : Int) := i64_shl t (by omega)
  rw [terr_ne (by decide)]
  have HFIN : Hid (∀ w2, GD O S sk s t o x w.heap.size w w2 → GV O S sk (M.pStop s t) (w2.setCell ⟨S, 2, none⟩ (.int .i64 (s.dead ||| 1 <<< t : Nat))) ∧ Frm O w (w2.setCell ⟨S, 2, none⟩ (.int .i64 (s.dead ||| 1 <<< t : Nat)))) := fun w2 hd => by
    obtain ⟨v, g1, g2, g3⟩ := hd.gv
    have e : (1 <<< t : Nat) = 2 ^ t := by rw [Nat.shiftLeft_eq, Nat.one_mul]
    rw [e]
    exact ⟨⟨v, g1.stop t, g2, g3⟩, (Frm.of_below hd.bl).set (p := ⟨S, 2, none⟩) g2 _⟩
  have HD : Hid (∀ w2, GD O S sk s t o x w.heap.size w w2 → w2.cell? ⟨S, 2, none⟩ = some (.int .i64 (s.dead : Nat)) ∧ S < w2.heap.size ∧ w2.frozen? ⟨S, 2, none⟩ = false ∧ w2.cell? ⟨w.heap.size, 0, none⟩ = some (.int .i64 (t : Nat)) ∧ w.heap.size < w2.heap.size) := fun w2 hd => by
    obtain ⟨v, g1, g2, g3⟩ := hd.gv
    exact ⟨g1.c2, g1.lt, g1.blk.frozen 2, hd.ac.c0, hd.ac.lt⟩
  have HQ : Hid (∀ w2, GD O S sk s t o x w.heap.size w w2 → w2.cell? ⟨w.heap.size, 0, none⟩ = some (.int .i64 (t : Nat)) ∧ w2.cell? ⟨w.heap.size, 1, none⟩ = some (.int .i64 (o : Nat)) ∧ w2.cell? ⟨w.heap.size, 2, none⟩ = some (.int .i64 (x : Nat)) ∧ w.heap.size < w2.heap.size) := fun w2 hd => ⟨hd.ac.c0, hd.ac.c1, hd.ac.c2, hd.ac.lt⟩
  obtain ⟨d, hd⟩ : ∃ d : Nat, s.dead = d := ⟨_, rfl⟩
  obtain ⟨r, hr⟩ : ∃ r : Nat, d ||| 1 <<< t = r := ⟨_, rfl⟩
  obtain ⟨q, hq⟩ : ∃ q : Nat, 1 <<< t = q := ⟨_, rfl⟩
  simp only [hd] at hor HFIN HD
  rw [hr] at hor
  simp only [hr] at HFIN
  rw [hq] at hor hsh
  clear hd hr hq D0 h hG h0 hl
  go_enter Tryd.func9, Tryd.ntmps9
  go_wp2_with fail
  refine (hck w0 H0).mono ?_
  rintro e w1 ⟨rfl, H1⟩
  clear hck q0 q1 q2 L0 H0 hw0
  obtain ⟨q0, q1, q2, L0⟩ := HQ.out w1 H1.out
  go_wp2_with fail
  refine (hlt w1 H1).mono ?_
  rintro e w2 ⟨rfl, H2⟩
  clear hlt q0 q1 q2 L0 H1 HQ
  obtain ⟨c2, lS, fz, b0, lA⟩ := HD.out w2 H2.out
  have HF : Hid _ := HFIN.out w2 H2.out
  clear HFIN HD H2
  go_wp2_with fail
  go_region
  go_wp2_with fail
  go_ret2
  exact ⟨rfl, HF.out.1.heap rfl, HF.out.2.heap rfl rfl rfl rfl⟩
set_option maxRecDepth 100000 in
set_option maxHeartbeats 4000000 in
theorem gdo_skip {O : Nat → Prop} {S : Nat} {sk : Bool} {s : M.Gt} (t o x : Nat) (w : World) (h : GV O S sk s w) (hG : M.GG s) (hx : x < 2) (h0 : gchk s ⟨(t : Nat), (o : Nat), (x : Nat)⟩ = 0) (hl : M.lateB sk s ⟨t, o, x⟩ = false) (hg : M.grW s t o = true) :
    Calls Tryd.prog 9 #[.pointer (some ⟨S, 0, none⟩), acV ⟨(t : Nat), (o : Nat), (x : Nat)⟩] w fun e w' => e = .returned (.tuple #[.bool false, .nilIface]) ∧ GV O S sk s w' ∧ Frm O w w' := by
  obtain ⟨w0, hw0⟩ : ∃ w0, w.alloc (.cells #[.int .i64 (t : Nat), .int .i64 (o : Nat), .int .i64 (x : Nat)] 31) = w0 := ⟨_, rfl⟩
  have D0 : GD O S sk s t o x w.heap.size w w0 := by
    have B : Below w.heap.size w w0 := by rw [← hw0]; exact bel_al (Below.refl _ _) _
    exact ⟨h.below B, by rw [← hw0]; exact acAt_new w ⟨(t : Nat), (o : Nat), (x : Nat)⟩, B⟩
  have H0 : Hid (GD O S sk s t o x w.heap.size w w0) := D0
  have hck : ∀ w', Hid (GD O S sk s t o x w.heap.size w w') → Calls Tryd.prog 21 #[.pointer (some ⟨S, 0, none⟩), .agg #[.int .i64 (t : Nat), .int .i64 (o : Nat), .int .i64 (x : Nat)]] w' fun e w'' => e = .returned .nilIface ∧ Hid (GD O S sk s t o x w.heap.size w w'') := fun w' hh => by
    obtain ⟨v, h1, _⟩ := hh.out.gv
    have hq := gcheck_ok ⟨(t : Nat), (o : Nat), (x : Nat)⟩ w' h1 hG
    rw [h0, terr_zero] at hq
    refine hq.mono ?_
    rintro e w'' ⟨rfl, hB⟩
    exact ⟨rfl, hh.out.later hB⟩
  have hlt : ∀ w', Hid (GD O S sk s t o x w.heap.size w w') → Calls Tryd.prog 22 #[.pointer (some ⟨S, 0, none⟩), .agg #[.int .i64 (t : Nat), .int .i64 (o : Nat), .int .i64 (x : Nat)]] w' fun e w'' => e = .returned (.bool false) ∧ Hid (GD O S sk s t o x w.heap.size w w'') := fun w' hh => by
    obtain ⟨v, h1, _⟩ := hh.out.gv
    have hq := late_ok t o x w' h1 hG hx
    rw [hl] at hq
    refine hq.mono ?_
    rintro e w'' ⟨rfl, hB⟩
    exact ⟨rfl, hh.out.later hB⟩
  have hgr : ∀ w', Hid (GD O S sk s t o x w.heap.size w w') → Calls Tryd.prog 23 #[.pointer (some ⟨S, 0, none⟩), .agg #[.int .i64 (t : Nat), .int .i64 (o : Nat), .int .i64 (x : Nat)], .int .i64 1] w' fun e w'' => e = .returned (.bool true) ∧ Hid (GD O S sk s t o x w.heap.size w w'') := fun w' hh => by
    obtain ⟨v, h1, _⟩ := hh.out.gv
    have hq := greater_ok (azN ⟨t, o, x⟩) 1 w' h1 hG
    rw [grZ_W, hg] at hq
    refine hq.mono ?_
    rintro e w'' ⟨rfl, hB⟩
    exact ⟨rfl, hh.out.later hB⟩
  have HQ : Hid (∀ w2, GD O S sk s t o x w.heap.size w w2 → w2.cell? ⟨w.heap.size, 0, none⟩ = some (.int .i64 (t : Nat)) ∧ w2.cell? ⟨w.heap.size, 1, none⟩ = some (.int .i64 (o : Nat)) ∧ w2.cell? ⟨w.heap.size, 2, none⟩ = some (.int .i64 (x : Nat)) ∧ w.heap.size < w2.heap.size) := fun w2 hd => ⟨hd.ac.c0, hd.ac.c1, hd.ac.c2, hd.ac.lt⟩
  obtain ⟨q0, q1, q2, L0⟩ := HQ.out w0 D0
  clear D0 h hG h0 hl hg
  go_enter Tryd.func9, Tryd.ntmps9
  go_wp2_with fail
  refine (hck w0 H0).mono ?_
  rintro e w1 ⟨rfl, H1⟩
  clear hck q0 q1 q2 L0 H0 hw0
  obtain ⟨q0, q1, q2, L0⟩ := HQ.out w1 H1.out
  go_wp2_with fail
  refine (hlt w1 H1).mono ?_
  rintro e w2 ⟨rfl, H2⟩
  clear hlt q0 q1 q2 L0 H1
  obtain ⟨q0, q1, q2, L0⟩ := HQ.out w2 H2.out
  go_wp2_with fail
  refine (hgr w2 H2).mono ?_
  rintro e w3 ⟨rfl, H3⟩
  clear hgr q0 q1 q2 L0 H2 HQ
  go_wp2_with fail
  go_ret2
  exact ⟨rfl, H3.out.gv, Frm.of_below H3.out.bl⟩
set_option maxRecDepth 100000 in
set_option maxHeartbeats 4000000 in
theorem gdo_did {O : Nat → Prop} {S : Nat} {sk : Bool} {s : M.Gt} (t o x : Nat) (w : World) (h : GV O S sk s w) (hG : M.GG s) (hO : ∀ k, w.heap.size ≤ k → O k) (hx : x < 2) (h0 : gchk s ⟨(t : Nat), (o : Nat), (x : Nat)⟩ = 0) (hL : s.ac.length < 24) (hl : M.lateB sk s ⟨t, o, x⟩ = false) (hg : M.grW s t o = false) :
    Calls Tryd.prog 9 #[.pointer (some ⟨S, 0, none⟩), acV ⟨(t : Nat), (o : Nat), (x : Nat)⟩] w fun e w' => e = .returned (.tuple #[.bool true, .nilIface]) ∧ GV O S sk (M.pDid s ⟨t, o, x⟩) w' ∧ Frm O w w' := by
  obtain ⟨w0, hw0⟩ : ∃ w0, w.alloc (.cells #[.int .i64 (t : Nat), .int .i64 (o : Nat), .int .i64 (x : Nat)] 31) = w0 := ⟨_, rfl⟩
  have D0 : GD O S sk s t o x w.heap.size w w0 := by
    have B : Below w.heap.size w w0 := by rw [← hw0]; exact bel_al (Below.refl _ _) _
    exact ⟨h.below B, by rw [← hw0]; exact acAt_new w ⟨(t : Nat), (o : Nat), (x : Nat)⟩, B⟩
  have H0 : Hid (GD O S sk s t o x w.heap.size w w0) := D0
  have hck : ∀ w', Hid (GD O S sk s t o x w.heap.size w w') → Calls Tryd.prog 21 #[.pointer (some ⟨S, 0, none⟩), .agg #[.int .i64 (t : Nat), .int .i64 (o : Nat), .int .i64 (x : Nat)]] w' fun e w'' => e = .returned .nilIface ∧ Hid (GD O S sk s t o x w.heap.size w w'') := fun w' hh => by
    obtain ⟨v, h1, _⟩ := hh.out.gv
    have hq := gcheck_ok ⟨(t : Nat), (o : Nat), (x : Nat)⟩ w' h1 hG
    rw [h0, terr_zero] at hq
    refine hq.mono ?_
    rintro e w'' ⟨rfl, hB⟩
    exact ⟨rfl, hh.out.later hB⟩
  have hlt : ∀ w', Hid (GD O S sk s t o x w.heap.size w w') → Calls Tryd.prog 22 #[.pointer (some ⟨S, 0, none⟩), .agg #[.int .i64 (t : Nat), .int .i64 (o : Nat), .int .i64 (x : Nat)]] w' fun e w'' => e = .returned (.bool false) ∧ Hid (GD O S sk s t o x w.heap.size w w'') := fun w' hh => by
    obtain ⟨v, h1, _⟩ := hh.out.gv
    have hq := late_ok t o x w' h1 hG hx
    rw [hl] at hq
    refine hq.mono ?_
    rintro e w'' ⟨rfl, hB⟩
    exact ⟨rfl, hh.out.later hB⟩
  have hgr : ∀ w', Hid (GD O S sk s t o x w.heap.size w w') → Calls Tryd.prog 23 #[.pointer (some ⟨S, 0, none⟩), .agg #[.int .i64 (t : Nat), .int .i64 (o : Nat), .int .i64 (x : Nat)], .int .i64 1] w' fun e w'' => e = .returned (.bool false) ∧ Hid (GD O S sk s t o x w.heap.size w w'') := fun w' hh => by
    obtain ⟨v, h1, _⟩ := hh.out.gv
    have hq := greater_ok (azN ⟨t, o, x⟩) 1 w' h1 hG
    rw [grZ_W, hg] at hq
    refine hq.mono ?_
    rintro e w'' ⟨rfl, hB⟩
    exact ⟨rfl, hh.out.later hB⟩
  have HQ : Hid (∀ w2, GD O S sk s t o x w.heap.size w w2 → w2.cell? ⟨w.heap.size, 0, none⟩ = some (.int .i64 (t : Nat)) ∧ w2.cell? ⟨w.heap.size, 1, none⟩ = some (.int .i64 (o : Nat)) ∧ w2.cell? ⟨w.heap.size, 2, none⟩ = some (.int .i64 (x : Nat)) ∧ w.heap.size < w2.heap.size) := fun w2 hd => ⟨hd.ac.c0, hd.ac.c1, hd.ac.c2, hd.ac.lt⟩
  obtain ⟨q0, q1, q2, L0⟩ := HQ.out w0 D0
  clear D0 h hG h0 hl hg
  go_enter Tryd.func9, Tryd.ntmps9
  go_wp2_with fail
  refine (hck w0 H0).mono ?_
  rintro e w1 ⟨rfl, H1⟩
  clear hck q0 q1 q2 L0 H0 hw0
  obtain ⟨q0, q1, q2, L0⟩ := HQ.out w1 H1.out
  go_wp2_with fail
  refine (hlt w1 H1).mono ?_
  rintro e wb ⟨rfl, H2⟩
  clear hlt q0 q1 q2 L0 H1
  obtain ⟨q0, q1, q2, L0⟩ := HQ.out wb H2.out
  go_wp2_with fail
  refine (hgr wb H2).mono ?_
  rintro e w2 ⟨rfl, H3⟩
  clear hgr q0 q1 q2 L0 H2
  obtain ⟨b0, b1, b2, lA⟩ := HQ.out w2 H3.out
  have BW : Hid (Below w.heap.size w w2) := H3.out.bl
  have SW : w.heap.size ≤ w2.heap.size := by omega
  obtain ⟨v, R, hOS, hOv⟩ := H3.out.gv
  have hown := R.act
  have ca := R.c1
  have lS := R.lt
  have hbS := R.blk
  have fz := R.blk.frozen 1
  have hne := R.neS
  obtain ⟨ad, c0, rfl⟩ := owns_slice hown
  have FIN : Hid (∀ g cap w5, w5.ownsRow 0 31 3 (.slice (some ⟨g, 0, none⟩) (s.ac.length + 1) cap) (s.ac.length + 1) (acells s.ac ++ [.int .i64 (t : Nat), .int .i64 (o : Nat), .int .i64 (x : Nat)]) → (w2.alloc (.cells #[.int .i64 (t : Nat), .int .i64 (o : Nat), .int .i64 (x : Nat)] 31)).drew.grownBy w5 (Value.slice ad s.ac.length c0).ownBlock → ((Value.slice ad s.ac.length c0).ownBlock = some g ∨ g = w2.heap.size + 1) →
      GV O S sk (M.pDid s ⟨t, o, x⟩) (w5.setCell ⟨S, 1, none⟩ (.slice (some ⟨g, 0, none⟩) (s.ac.length + 1) cap)) ∧ Frm O w (w5.setCell ⟨S, 1, none⟩ (.slice (some ⟨g, 0, none⟩) (s.ac.length + 1) cap))) := by
    intro g cap w5 ho' hg hat
    have hgO : O g := by
      rcases hat with e | e
      · exact hOv g e
      · exact hO g (by omega)
    have hk : ∀ k, k < w2.heap.size → (Value.slice ad s.ac.length c0).ownBlock ≠ some k → w5.heap[k]? = w2.heap[k]? := fun k hk hne =>
      (hg.block k (Nat.lt_of_lt_of_le hk (by simp)) (Ne.symm hne)).trans (Below.heap_alloc w2 _ k hk)
    refine ⟨⟨_, R.did (s' := M.pDid s ⟨t, o, x⟩) rfl hk ?_, hOS, fun g' e => ?_⟩, ?_⟩
    · show w5.ownsRow _ _ _ _ (s.ac ++ [⟨t, o, x⟩] : List M.SAct).length (acells (s.ac ++ [⟨t, o, x⟩]))
      rw [acells_snoc, List.length_append]; exact ho'
    · obtain rfl : g = g' := by simpa [Value.ownBlock] using e
      exact hgO
    · exact ((((Frm.of_below (O := O) BW.out).alloc _).drew).grown hg (fun k hk => hOv k hk)).set (p := ⟨S, 1, none⟩) hOS _
  obtain ⟨i0, hi0, hz0, hz1, hz2⟩ := infoAct_parts infoAct
  obtain ⟨L, hLL⟩ : ∃ L, s.ac.length = L := ⟨_, rfl⟩
  rw [hLL] at hL hown ca hne FIN
  clear R hLL hOS hOv hO H3 HQ BW
  have hLi : (L : Int) < 24 := by omega
  obtain ⟨xs, hxs⟩ : ∃ xs, acells s.ac = xs := ⟨_, rfl⟩
  rw [hxs] at hown FIN
  clear hxs
  go_wp2_with fail
  go_region_law (refine step_append_lies _ (by rfl) _ _ _ (by rfl) 0 31 i0 _ 3 24 Tryd.underlying22 hi0 hz0 hz1 hz2 rfl (by omega) (.slice ad L c0) L xs (by rfl) ((hown.alloc _).drew) ⟨w2.heap.size, 0, none⟩ 1 1 [.int .i64 (t : Nat), .int .i64 (o : Nat), .int .i64 (x : Nat)] (by rfl) (by rfl) (World.news_of_block (cs := #[.int .i64 (t : Nat), .int .i64 (o : Nat), .int .i64 (x : Nat)]) (t := 31) (fr := (0, 0)) (heap_alloc_new w2 _)) (by simp [Value.oneCell']) (by omega) (by unfold maxLen; omega) (by omega) (by simp) (w2.heap.size + 1) (by simp) ?_; intro g cap w5 hown5 hgrow5 hat5 hlt5; have bq5 := hbS.of_block (w' := w5) ((hgrow5.block S (Nat.lt_of_lt_of_le lS (by simp)) (Ne.symm hne)).trans (Below.heap_alloc w2 _ S lS)); have q05 := bq5.cell (i := 1) (by omega); have f05 := bq5.frozen 1)
  all_goals go_wp2_with fail
  all_goals go_ret2
  all_goals exact ⟨rfl, (FIN.out _ _ _ hown5 hgrow5 hat5).1.heap rfl, (FIN.out _ _ _ hown5 hgrow5 hat5).2.heap rfl rfl rfl rfl⟩
theorem gdo_ok {O : Nat → Prop} {S : Nat} {sk : Bool} {s : M.Gt} (o : Az) (w : World) (h : GV O S sk s w) (hO : ∀ k, w.heap.size ≤ k → O k) (hG : M.GG s) :
    Calls Tryd.prog 9 #[.pointer (some ⟨S, 0, none⟩), acV o] w fun e w' => e = .returned (.tuple #[.bool (gtZ sk s o).2.1, terr (gtZ sk s o).2.2]) ∧ GV O S sk (gtZ sk s o).1 w' ∧ Frm O w w' := by
  by_cases h0 : gchk s o = 0
  · obtain ⟨e1, e2, e3⟩ := gchk_zero h0
    obtain ⟨ho, ht, hi, hx⟩ := aIn_parts e1
    have eg : gtZ sk s o = M.gtDo sk s o.n := if_pos e1
    rw [eg]
    obtain ⟨⟨t, i, x⟩, hn⟩ : ∃ a, o.n = a := ⟨_, rfl⟩
    rw [hn] at ho e2 ht hi hx ⊢
    have ho2 : o = ⟨(t : Nat), (i : Nat), (x : Nat)⟩ := ho
    clear eg hn ho
    subst ho2
    simp only at ht hi hx
    cases c3 : M.lateB sk s ⟨t, i, x⟩ with
    | true => rw [M.gt_late e2 e3 c3]; exact gdo_late t i x w h hG ht hx h0 c3
    | false =>
    cases c4 : M.grW s t i with
    | false => rw [M.gt_did e2 e3 c3 c4]; exact gdo_did t i x w h hG hO hx h0 (by omega) c3 c4
    | true =>
      have hw : x = 1 := by
        have : x = 0 ∨ x = 1 := by omega
        rcases this with e | e
        · have h2 : M.lateB sk s ⟨t, i, x⟩ = true := by
            unfold M.lateB
            show ((x == 0 && M.grW s t i) || _ || _) = true
            rw [c4, e]; rfl
          rw [c3] at h2; cases h2
        · exact e
      rw [M.gt_skip e2 e3 c3 hw c4]; exact gdo_skip t i x w h hG hx h0 c3 c4
  · rw [gtZ_bad h0]; exact gdo_bad o w h hG h0
end Go.Proofs.YtlkdclifcmohlaaDoor
