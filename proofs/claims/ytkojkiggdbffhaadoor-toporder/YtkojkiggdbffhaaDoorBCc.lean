/- The function that a queue's All hands out goes over all that are found, also while it goes; it ends when none is left. What Count keeps in memory while it goes over the cuts that are found. No walk. How many whole cuts there are (package cut, Count), at whatever trace; what lay in memory lies as it lay. -/
import Derived.Test.YtkojkiggdbffhaaDoorQue2
import Derived.Test.YtkojkiggdbffhaaDoorBCb
namespace Go.Proofs.YtkojkiggdbffhaaDoor
open Go.RowKit Go.Shelf
attribute [local go_sem] Oper.semAt_some
set_option maxRecDepth 100000 in
set_option maxHeartbeats 2000000 in
theorem qit_ok (n l Q B base Bx : Nat) (It : List (List Nat) → List (List Nat) → World → Prop)
    (hIt : ∀ pre L W, It pre L W → (∃ v, QV W Q B base v L) ∧ pre <+: L ∧ L.length ≤ 16777216 ∧ (∀ c, c ∈ L → c.length = 5) ∧ W.cell? ⟨Bx, 0, none⟩ = some (.pointer (some ⟨Q, 0, none⟩)))
    (J : List (List Nat) → World → Prop) (hJ : ∀ pre W, J pre W → ∃ L, It pre L W)
    (hY : ∀ pre x W, J pre W → (∃ L, It pre L W ∧ L[pre.length]? = some x) → YieldAt Fence.wide (n - 1) Tryd.prog l #[cuV x] W fun e W' => e = .returned (.bool true) ∧ J (pre ++ [x]) W')
    (W : World) (h0 : J [] W) :
    CallsIn Fence.wide n Tryd.prog 47 #[.func (.yield l) #[] #[], .pointer (some ⟨Bx, 0, none⟩)] W fun e W' => (∃ v, e = .returned v) ∧ ∃ xs, J xs W' ∧ It xs xs W' := by
  refine callsIn_of_wp Tryd.func47 rfl trivial ?_ rfl
  simp only [Tryd.ntmps47, List.size_toArray, List.length_cons, List.length_nil, Nat.reduceAdd, Nat.reduceSub, Array.replicate_succ, Array.replicate_zero, List.push_toArray, List.append_toArray, List.nil_append, List.cons_append]
  gi_wp2
  gi_loopw [3] (fun r wr => ∃ pre : List (List Nat), r = .int .i64 (pre.length : Nat) ∧ J pre wr) (fun r _ => 16777217 - (intOf r).toNat)
  case atStart => exact ⟨[], rfl, h0⟩
  case round =>
    obtain ⟨pre, rfl, hj⟩ := hrel
    obtain ⟨L, hi⟩ := hJ pre wr hj
    obtain ⟨⟨v, hq⟩, hpre, hlen, h5, hbx⟩ := hIt pre L wr hi
    have hpl := hpre.length_le
    obtain ⟨q0, cq, rfl⟩ := owns_slice hq.row
    have hk0 := hq.blk.cell 0
    by_cases hlt : pre.length < L.length
    · obtain ⟨x, hx⟩ : ∃ x, L[pre.length]? = some x := ⟨_, List.getElem?_eq_getElem hlt⟩
      obtain ⟨fn, tmps, assign, body, hy, hR⟩ := hY pre x wr hj ⟨L, hi, hx⟩
      rcases hq.row.2 with ⟨_, hz⟩ | ⟨g, cap, cur, hv, _⟩
      · omega
      · cases hv
        have hc : ∀ k, k < 5 → wr.cell? ⟨g, pre.length * 5 + k, none⟩ = some (.int .i64 (M.row x k : Nat)) := fun k hk => by
          rw [hq.row.cellAt (pre.length * 5 + k) (by omega)]
          exact qcells_get h5 hx hk
        have c0 := hc 0 (by omega)
        have c1 := hc 1 (by omega)
        have c2 := hc 2 (by omega)
        have c3 := hc 3 (by omega)
        have c4 := hc 4 (by omega)
        clear hc hi hpre hj
        obtain ⟨m, hm⟩ : ∃ m, pre.length = m := ⟨_, rfl⟩
        have HM : Hid (pre.length = m) := hm
        rw [hm] at c0 c1 c2 c3 c4 hlt hpl ⊢
        clear hx hm
        have hlt' : (m : Int) < (L.length : Int) := by omega
        rw [Nat.add_zero] at c0
        gi_wp2_with fail
        refine ⟨(fun h => by cases h), hR.mono ?_⟩
        rintro e W3 ⟨rfl, hJ3⟩
        gi_wp2
        go_roundw
        case rel => exact ⟨pre ++ [x], by rw [List.length_append, HM.out]; rfl, hJ3⟩
        case measure => simp [intOf]; omega
    · have hle : L.length ≤ pre.length := by omega
      have e : pre = L := hpre.eq_of_length_le hle
      have HI : Hid (It pre pre wr) := by show It pre pre wr; rw [← e] at hi; exact hi
      clear hi hpre hJ hIt hY
      obtain ⟨m, hm⟩ : ∃ m, pre.length = m := ⟨_, rfl⟩
      rw [hm] at hle hlt hpl ⊢
      clear hm
      gi_wp2
      go_end0
      exact ⟨⟨_, rfl⟩, pre, hj, HI.out⟩
end Go.Proofs.YtkojkiggdbffhaaDoor
namespace Go.Proofs.YtkojkiggdbffhaaDoor
open Go.RowKit Go.Shelf
theorem QV.frame {W W' : World} {Q B base : Nat} {v : Value} {L : List (List Nat)} {R : Nat → Prop} (h : QV W Q B base v L) (hf : Fr W W' R) (hQ : ¬ R Q) (hB : ¬ R B) (hv : ∀ k, v.ownBlock = some k → ¬ R k) : QV W' Q B base v L :=
  ⟨(hf.block Q h.blk.lt hQ).trans h.blk, owns_at h.row (fun g e => hf.block g (h.row.lt g e).2 (hv g e)), h.kn.at_ (hf.block B h.kn.lt hB)⟩
structure M7 (w : World) (P : Nat) (p : Option Addr) (n cap : Nat) (T : List (Int × Int)) (a2 f5 Q : Nat) (W : World) : Prop where
  tb : Blk W w.heap.size #[.int .i64 (P : Nat), .slice p n cap] 24
  ab : RowAt 59 W a2 (M.evl T n)
  fb : Boxed W f5 61 (.pointer (some ⟨Q, 0, none⟩))
  cb : Boxed W (f5 + 1) 61 (.pointer (some ⟨Q, 0, none⟩))
  bel : Below w.heap.size w W
theorem M7.frame {w W W' : World} {P : Nat} {p : Option Addr} {n cap : Nat} {T : List (Int × Int)} {a2 f5 Q : Nat} {R : Nat → Prop} (h : M7 w P p n cap T a2 f5 Q W) (hf : Fr W W' R) (h0 : ∀ k, k ≤ w.heap.size → ¬ R k) (h1 : ¬ R a2) (h2 : ¬ R f5) (h3 : ¬ R (f5 + 1)) : M7 w P p n cap T a2 f5 Q W' :=
  ⟨(hf.block _ h.tb.lt (h0 _ (Nat.le_refl _))).trans h.tb, (hf.block _ h.ab.lt h1).trans h.ab, (hf.block _ h.fb.lt h2).trans h.fb, (hf.block _ h.cb.lt h3).trans h.cb,
    h.bel.trans (hf.below h.bel.size (fun k hk => h0 k (Nat.le_of_lt hk)))⟩
theorem M7.later {w W W' : World} {P : Nat} {p : Option Addr} {n cap : Nat} {T : List (Int × Int)} {a2 f5 Q : Nat} (h : M7 w P p n cap T a2 f5 Q W) (hb : Below W.heap.size W W') : M7 w P p n cap T a2 f5 Q W' :=
  ⟨h.tb.below hb h.tb.lt, h.ab.below hb h.ab.lt, boxed_below h.fb hb h.fb.lt, boxed_below h.cb hb h.cb.lt, bel_on h.bel hb⟩
theorem fr_put (W : World) (k : Nat) (o : Obj) : Fr W (W.putObj k o) (fun j => j = k) :=
  ⟨rfl, rfl, rfl, by simp [World.putObj], fun j _ hj => World.putObj_heap_other hj⟩
theorem QV.ne_box {W : World} {Q B base : Nat} {v : Value} {L : List (List Nat)} (h : QV W Q B base v L) {k : Nat} {t : TypeId} {cs : Array Value} (hk : W.heap[k]? = some (.cells cs t (0, 0))) (ht : t ≠ 59) : v.ownBlock ≠ some k := fun e => by
  obtain ⟨cs', hc⟩ := h.row_cells e
  rw [hk] at hc
  cases hc
  exact ht rfl
theorem QV.ne_loop {W : World} {Q B base : Nat} {v : Value} {L : List (List Nat)} (h : QV W Q B base v L) {k : Nat} {r : Loop} (hk : W.heap[k]? = some (.loop r)) : v.ownBlock ≠ some k := fun e => by
  obtain ⟨cs', hc⟩ := h.row_cells e
  rw [hk] at hc
  cases hc
theorem QV.base_le {W : World} {Q B base : Nat} {v : Value} {L : List (List Nat)} (h : QV W Q B base v L) {k : Nat} (e : v.ownBlock = some k) : base ≤ k := (h.row.lt k e).1
/-- what a queue's Add leaves as it was -/
theorem M7.add {w W W' : World} {P : Nat} {p : Option Addr} {n cap : Nat} {T : List (Int × Int)} {a2 f5 Q B base : Nat} {v : Value} {L : List (List Nat)} (h : M7 w P p n cap T a2 f5 Q W) (hq : QV W Q B base v L) (hf : Fr W W' (fun k => k = Q ∨ k = B ∨ v.ownBlock = some k)) (hw : w.heap.size < base) (ha : a2 < base) (hQ : base ≤ Q) (hB : base ≤ B) (hQ5 : Q < f5) (hB5 : B < f5) : M7 w P p n cap T a2 f5 Q W' := by
  have hne : ∀ k, k < base → ¬ (k = Q ∨ k = B ∨ v.ownBlock = some k) := fun k hk h => by
    rcases h with h | h | h
    · omega
    · omega
    · have := hq.base_le h; omega
  have hnf : ∀ k, f5 ≤ k → v.ownBlock ≠ some k → ¬ (k = Q ∨ k = B ∨ v.ownBlock = some k) := fun k hk h1 h => by
    rcases h with h | h | h
    · omega
    · omega
    · exact h1 h
  exact h.frame hf (fun k hk => hne k (by omega)) (hne _ ha) (hnf _ (Nat.le_refl _) (hq.ne_box h.fb (by decide))) (hnf _ (by omega) (hq.ne_box h.cb (by decide)))
theorem keeps_add {W W' : World} {Q B base N : Nat} {v : Value} {L : List (List Nat)} (hq : QV W Q B base v L) (hf : Fr W W' (fun k => k = Q ∨ k = B ∨ v.ownBlock = some k)) (hQ : Q < N) (hB : B < N) : KeepsFrom N W W' :=
  ⟨hf.size, fun k o hk h0 ho => (hf.block k (Array.getElem?_eq_some_iff.1 h0).1 (fun h => by
    rcases h with h | h | h
    · omega
    · omega
    · obtain ⟨cs, hc⟩ := hq.row_cells h
      rw [h0] at hc
      cases hc
      cases ho)).trans h0⟩
theorem keeps_below {W W' : World} (N : Nat) (hb : Below W.heap.size W W') : KeepsFrom N W W' :=
  ⟨hb.size, fun k _ _ h0 _ => (hb.block k (Array.getElem?_eq_some_iff.1 h0).1).trans h0⟩
theorem KeepsFrom.trans' {N : Nat} {A B C : World} (h : KeepsFrom N A B) (k : KeepsFrom N B C) : KeepsFrom N A C :=
  ⟨Nat.le_trans h.size k.size, fun j o hj h0 ho => k.same j o hj (h.same j o hj h0 ho) ho⟩
/-- how far the cuts are found -/
structure Fnd (P : Nat) (T : List (Int × Int)) (pre L : List (List Nat)) : Prop where
  nod : L.Nodup
  gd : ∀ c, c ∈ L → M.Gd P T c
  z : M.zero5 ∈ L
  pfx : pre <+: L
  cl : ∀ c, c ∈ pre → ∀ q, q < P → M.Gd P T (M.nx c q) → M.nx c q ∈ L
theorem Fnd.add {P : Nat} {T : List (Int × Int)} {pre L : List (List Nat)} {y : List Nat} (h : Fnd P T pre L) (hy : y ∉ L) (hg : M.Gd P T y) : Fnd P T pre (L ++ [y]) := by
  refine ⟨List.nodup_append.2 ⟨h.nod, by simp, fun a ha b hb => ?_⟩, fun c hc => ?_, List.mem_append_left _ h.z, h.pfx.trans (List.prefix_append _ _), fun c hc q hq hgc => List.mem_append_left _ (h.cl c hc q hq hgc)⟩
  · obtain rfl := List.mem_singleton.1 hb
    exact fun e => hy (e ▸ ha)
  · rcases List.mem_append.1 hc with hc | hc
    · exact h.gd c hc
    · obtain rfl := List.mem_singleton.1 hc
      exact hg
end Go.Proofs.YtkojkiggdbffhaaDoor
namespace Go.Proofs.YtkojkiggdbffhaaDoor
open Go.RowKit Go.Shelf
attribute [local go_sem] Oper.semAt_some
set_option maxRecDepth 100000 in
set_option maxHeartbeats 2000000 in
theorem count_err (P : Int) (T : List (Int × Int)) (p : Option Addr) (n cap : Nat) (w : World) (hl : T.length = n) (hmax : n ≤ maxLen) (hc : HasE T p w) (c : Nat) (hcc : M.tcode P T = c) (hne : c ≠ 0) :
    Calls Tryd.prog 12 #[trV P p n cap] w fun e w' => e = .returned (.tuple #[.int .i64 0, .iface 49 (.int .i64 (c : Nat))]) ∧ Below w.heap.size w w' := by
  have hB0 : Below w.heap.size w (w.alloc (.cells #[.int .i64 P, .slice p n cap] 24)) := (Below.refl _ _).alloc (Nat.le_refl _) _
  refine callsIn_wide.1 (callsIn_of_wp_marks (n := 3) Tryd.func12 rfl trivial ?_ rfl)
  simp only [Tryd.ntmps12, List.size_toArray, List.length_cons, List.length_nil, Nat.reduceAdd, Nat.reduceSub, Array.replicate_succ, Array.replicate_zero, List.push_toArray, List.append_toArray, List.nil_append, List.cons_append]
  refine wpIn_wide.2 ?_
  go_wp2_with fail
  refine (check_tr P T p n cap _ hl hmax (hc.later hB0)).mono ?_
  rw [hcc, terr_ne hne]
  rintro e w1 ⟨rfl, hB1⟩
  have HB : Hid (Below _ _ _) := bel_on hB0 hB1
  clear hB0 hB1 hne
  go_wp2_with fail
  refine leaves_marks _ w1.heap.size w1 HB.out.size trivial (fun W' ht => ⟨_, results_tmp2 rfl _ _ _, rfl, HB.out.trans ht.below⟩)
set_option maxRecDepth 100000 in
set_option maxHeartbeats 4000000 in
theorem count_ok (P : Nat) (T : List (Int × Int)) (p : Option Addr) (n cap : Nat) (w : World) (hl : T.length = n) (he : Env w) (hmax : n ≤ maxLen) (hc : HasE T p w) (h1 : M.tcode (P : Nat) T = 0) :
    Calls Tryd.prog 12 #[trV (P : Nat) p n cap] w fun e w' => e = .returned (.tuple #[.int .i64 (M.cts T P [] : Nat), .nilIface]) ∧ Below w.heap.size w w' := by
  have hok := M.tcode_zero.1 h1
  have hn : n ≤ 24 := hl ▸ hok.len
  have hP5 : P ≤ 5 := by have := hok.p5; omega
  obtain ⟨wa, hwa⟩ : ∃ wa, w.alloc (.cells #[.int .i64 (P : Nat), .slice p n cap] 24) = wa := ⟨_, rfl⟩
  have ta : Blk wa w.heap.size #[.int .i64 (P : Nat), .slice p n cap] 24 := by rw [← hwa]; exact Blk.new _ _ _
  have hBa : Below w.heap.size w wa := by rw [← hwa]; exact bel_al (Below.refl _ _) _
  refine callsIn_wide.1 (callsIn_of_wp_marks (n := 3) Tryd.func12 rfl trivial ?_ rfl)
  simp only [Tryd.ntmps12, List.size_toArray, List.length_cons, List.length_nil, Nat.reduceAdd, Nat.reduceSub, Array.replicate_succ, Array.replicate_zero, List.push_toArray, List.append_toArray, List.nil_append, List.cons_append]
  refine wpIn_wide.2 ?_
  have k0 := ta.cell 0
  have k1 := ta.cell 1
  have kl := ta.lt
  go_wp2_with fail
  clear hwa k0 k1 kl
  refine (check_tr _ T p n cap _ hl hmax (hc.later hBa)).mono ?_
  rw [h1, terr_zero]
  rintro e w1 ⟨rfl, hB1⟩
  have t1 := ta.below hB1 ta.lt
  have hC1 := bel_on hBa hB1
  have k0 := t1.cell 0
  have k1 := t1.cell 1
  have kl := t1.lt
  clear hBa hB1 ta
  go_wp2_with fail
  refine (allOf_ok _ T p n cap _ hl (hc.later hC1) h1).mono ?_
  rintro e w2 ⟨rfl, hB2⟩
  have t2 := t1.below hB2 t1.lt
  have hC2 := bel_on hC1 hB2
  clear k0 k1 kl t1 hB2 hC1
  obtain ⟨w3, hw3⟩ : ∃ w3, w2.alloc (.cells #[.int .i64 (M.evn T 0 n : Nat), .int .i64 (M.evn T 1 n : Nat), .int .i64 (M.evn T 2 n : Nat), .int .i64 (M.evn T 3 n : Nat), .int .i64 (M.evn T 4 n : Nat)] 59) = w3 := ⟨_, rfl⟩
  obtain ⟨w4, hw4⟩ : ∃ w4, w3.alloc (.cells #[.int .i64 0, .int .i64 0, .int .i64 0, .int .i64 0, .int .i64 0] 59) = w4 := ⟨_, rfl⟩
  have s3 : w3.heap.size = w2.heap.size + 1 := by subst hw3; simp
  have e4 : RowAt 59 w4 w2.heap.size (M.evl T n) := by
    rw [← hw4]
    refine RowAt.alloc ?_ _
    subst hw3; unfold RowAt; rw [World.alloc_heap_new]; rfl
  have z4 : Blk w4 (w2.heap.size + 1) #[.int .i64 0, .int .i64 0, .int .i64 0, .int .i64 0, .int .i64 0] 59 := by rw [← hw4, ← s3]; exact Blk.new _ _ _
  have hb4 : Below w2.heap.size w2 w4 := by rw [← hw4, ← hw3]; exact bel_al (bel_al (Below.refl _ _) _) _
  have t4 := t2.below hb4 t2.lt
  have hC4 := bel_on hC2 hb4
  have sz2 : w.heap.size < w2.heap.size := t2.lt
  have sz4 : w2.heap.size + 1 < w4.heap.size := z4.lt
  go_wp2_with fail
  refine (qnew_ok (w2.heap.size + 1) _ z4).mono ?_
  rintro e w5 ⟨Q, B, v, rfl, hq5, hQ5, hB5, hbel5⟩
  have t5 := t4.below hbel5 t4.lt
  have e5 := e4.below hbel5 e4.lt
  have hC5 := bel_on hC4 hbel5
  have sz5 := hbel5.size
  clear t2 hC2 t4 hC4 e4 z4 hb4 hw3 hw4 s3 hbel5
  go_wp2_with fail
  refine (qall_ok Q _).mono ?_
  rintro e w6 ⟨rfl, hw6⟩
  go_wp2_with fail
  rename_i Q' K hK0
  obtain ⟨wx, hwx⟩ : ∃ wx, w5.alloc (.cells #[.pointer (some ⟨Q, 0, none⟩)] 61) = wx := ⟨_, rfl⟩
  rw [hwx] at hw6
  have sx : wx.heap.size = w5.heap.size + 1 := by rw [← hwx]; simp
  have s6 : w6.heap.size = w5.heap.size + 1 + 1 := by rw [← hw6]; simp [sx]
  have hb6 : Below w5.heap.size w5 w6 := by rw [← hw6, ← hwx]; exact bel_al (bel_al (Below.refl _ _) _) _
  have fb6 : Boxed w6 w5.heap.size 61 (.pointer (some ⟨Q, 0, none⟩)) := by rw [← hw6, ← hwx]; exact (Boxed.new w5 _ _).alloc _
  have cb6 : Boxed w6 (w5.heap.size + 1) 61 (.pointer (some ⟨Q, 0, none⟩)) := by rw [← hw6, ← sx]; exact Boxed.new wx _ _
  have m6 : M7 w P p n cap T w2.heap.size w5.heap.size Q w6 := ⟨t5.below hb6 t5.lt, e5.below hb6 e5.lt, fb6, cb6, bel_on hC5 hb6⟩
  have hq6 := hq5.below hb6
  have hQlt : Q < w5.heap.size := hq5.blk.lt
  have hBlt : B < w5.heap.size := hq5.kn.lt
  clear t5 e5 hC5 hb6 fb6 cb6 hq5 hw6 hwx sx
  refine (wpIn_wide (n := 3)).1 ?_
  refine range_grow (α := List Nat) (gf := 47) (lb := #[.pointer (some ⟨w5.heap.size + 1, 0, none⟩)]) rfl (enters_of Tryd.func47 (by kernel_rfl) rfl) (fun x => #[cuV x]) (fun _ => rfl)
    (fun pre W => ∃ L, (∃ v, QV W Q B w4.heap.size v L) ∧ M7 w P p n cap T w2.heap.size w5.heap.size Q W ∧ Fnd P T pre L)
    (fun xs W => (∃ v, QV W Q B w4.heap.size v xs) ∧ M7 w P p n cap T w2.heap.size w5.heap.size Q W ∧ Fnd P T xs xs)
    (fun pre x W => ∃ L, ((∃ v, QV W Q B w4.heap.size v L) ∧ M7 w P p n cap T w2.heap.size w5.heap.size Q W ∧ Fnd P T pre L) ∧ L[pre.length]? = some x) ?putI ?start ?iter ?round ?done
  case putI =>
    rintro pre W r o hr ⟨L, ⟨v, hq⟩, hm, hf⟩
    refine ⟨L, ⟨v, hq.frame (fr_put W _ o) (by omega) (by omega) (fun k e hk => hq.ne_loop hr (hk ▸ e))⟩, hm.frame (fr_put W _ o) (fun k hk => by omega) (by omega) (by omega) (by omega), hf⟩
  case start =>
    intro r
    have hb : Below w6.heap.size w6 ((w6.alloc (.deferred (some []))).alloc (.loop r)) := bel_al (bel_al (Below.refl _ _) _) _
    refine ⟨[[0, 0, 0, 0, 0]], ⟨v, hq6.below hb⟩, m6.later hb, ⟨by simp, fun c hc => ?_, by simp [M.zero5], by simp, fun c hc => by cases hc⟩⟩
    obtain rfl := List.mem_singleton.1 hc
    exact M.gd_zero P T
  case iter =>
    intro J hJ hY W hW
    refine qit_ok (3 - 1) (w6.heap.size + 1) Q B w4.heap.size (w5.heap.size + 1) (fun pre L W => (∃ v, QV W Q B w4.heap.size v L) ∧ M7 w P p n cap T w2.heap.size w5.heap.size Q W ∧ Fnd P T pre L) ?_ J hJ hY W hW
    rintro pre L W ⟨hv, hm, hf⟩
    refine ⟨hv, hf.pfx, ?_, fun c hc => (hf.gd c hc).len, hm.cb.cell⟩
    have h1 := M.found_le hok hf.nod hf.gd
    have h2 := M.cts_pow hok
    have h3 := pow_24 T.length (by omega)
    omega
  case done =>
    rintro xs W r ⟨⟨v, hq⟩, hm, hf⟩ _ hr o
    have hcount := M.found_all hok hf.nod hf.gd hf.z hf.cl
    have hm2 := hm.frame (fr_put W (w6.heap.size + 1) o) (fun k hk => by omega) (by omega) (by omega) (by omega)
    have hq2 := hq.frame (fr_put W (w6.heap.size + 1) o) (by omega) (by omega) (fun k e hk => hq.ne_loop hr.1 (hk ▸ e))
    have hd2 : (W.putObj (w6.heap.size + 1) o).heap[w6.heap.size]? = some (.deferred (some [])) := (World.putObj_heap_other (by omega)).trans hr.2
    obtain ⟨Wd, hWd⟩ : ∃ Wd, W.putObj (w6.heap.size + 1) o = Wd := ⟨_, rfl⟩
    rw [hWd] at hm2 hq2 hd2 ⊢
    have hDl := (Array.getElem?_eq_some_iff.1 hd2).1
    have kf := hm2.fb.cell
    have HB : Hid (Below w.heap.size w Wd) := hm2.bel
    have hl6 : w.heap.size ≤ w6.heap.size := by omega
    show K _ _
    refine hK0 _ _ ?_
    clear hm hq hm2 hf hr s6
    go_wp2_with (go_at_call 34; refine (qlen_ok Q B _ _ _ _ hq2).mono ?_; rintro e w' ⟨rfl, rfl⟩)
    refine leaves_marks _ (w6.heap.size + 1) Wd HB.out.size ⟨w6.heap.size, by omega, by omega, rfl, hd2, trivial⟩ (fun W' ht => ⟨_, results_tmp2 rfl _ _ _, ?_, HB.out.trans ht.below⟩)
    rw [← hcount]; rfl
  case round =>
    rintro pre x W r - ⟨L, ⟨⟨v, hq⟩, hm, hf⟩, hx⟩ hr
    have hxL : x ∈ L := List.mem_of_getElem? hx
    have hgx := hf.gd x hxL
    obtain ⟨x0, x1, x2, x3, x4, rfl⟩ : ∃ x0 x1 x2 x3 x4, x = [x0, x1, x2, x3, x4] := by
      have := hgx.len
      match x, this with
      | [a, b, c, d, e], _ => exact ⟨a, b, c, d, e, rfl⟩
    have hpx : pre ++ [[x0, x1, x2, x3, x4]] <+: L := by
      obtain ⟨s, rfl⟩ := hf.pfx
      rw [List.getElem?_append_right (Nat.le_refl _), Nat.sub_self] at hx
      cases s with
      | nil => simp at hx
      | cons a s =>
        simp at hx
        subst hx
        exact ⟨s, by simp⟩
    gi_wp2
    obtain ⟨Wn, hWn⟩ : ∃ Wn, W.alloc (.cells #[.int .i64 (M.row [x0, x1, x2, x3, x4] 0 : Nat), .int .i64 (M.row [x0, x1, x2, x3, x4] 1 : Nat), .int .i64 (M.row [x0, x1, x2, x3, x4] 2 : Nat), .int .i64 (M.row [x0, x1, x2, x3, x4] 3 : Nat), .int .i64 (M.row [x0, x1, x2, x3, x4] 4 : Nat)] 59) = Wn := ⟨_, rfl⟩
    have hbn : Below W.heap.size W Wn := by rw [← hWn]; exact bel_al (Below.refl _ _) _
    have nn : RowAt 59 Wn W.heap.size [x0, x1, x2, x3, x4] := by subst hWn; unfold RowAt; rw [World.alloc_heap_new]; rfl
    rw [hWn]
    clear hWn
    refine ⟨keeps_below _ hbn, fun r' => ?_⟩
    have hrn := hr.later (keeps_below _ hbn)
    have frb := fr_put Wn (w6.heap.size + 1) (.loop r')
    have hW6 : w6.heap.size + 1 < W.heap.size := (Array.getElem?_eq_some_iff.1 hr.1).1
    have qb := (hq.below hbn).frame frb (by omega) (by omega) (fun k e hk => (hq.below hbn).ne_loop hrn.1 (hk ▸ e))
    have mb := (hm.later hbn).frame frb (fun k hk => by omega) (by omega) (by omega) (by omega)
    have nb : RowAt 59 (Wn.putObj (w6.heap.size + 1) (.loop r')) W.heap.size [x0, x1, x2, x3, x4] := (World.putObj_heap_other (by omega)).trans nn
    have hvn : v.ownBlock ≠ some W.heap.size := fun e => by have := (hq.row.lt _ e).2; omega
    obtain ⟨Wb, hWb⟩ : ∃ Wb, Wn.putObj (w6.heap.size + 1) (.loop r') = Wb := ⟨_, rfl⟩
    rw [hWb] at qb mb nb ⊢
    clear hWb frb nn hbn hrn hr hq hm
    have HL : Hid (pre ++ [[x0, x1, x2, x3, x4]] <+: L) := hpx
    have HG : Hid (M.Gd P T [x0, x1, x2, x3, x4]) := hgx
    have k0 := mb.tb.cell 0
    have hW6' : w6.heap.size < W.heap.size := by omega
    clear hxL hx hpx hgx hK0 hq6 m6
    have hw65 : w5.heap.size ≤ w6.heap.size := by omega
    clear s6
    gi_wp2
    gi_loopw [25] (fun t wr => ∃ (i : Nat) (L : List (List Nat)) (v : Value), t = .int .i64 i ∧ i ≤ P ∧ QV wr Q B w4.heap.size v L ∧ M7 w P p n cap T w2.heap.size w5.heap.size Q wr ∧ RowAt 59 wr W.heap.size [x0, x1, x2, x3, x4] ∧ Hid (v.ownBlock ≠ some W.heap.size) ∧ Fnd P T pre L ∧ Hid (pre ++ [[x0, x1, x2, x3, x4]] <+: L) ∧ Hid (∀ q, q < i → M.Gd P T (M.nx [x0, x1, x2, x3, x4] q) → M.nx [x0, x1, x2, x3, x4] q ∈ L) ∧ KeepsFrom w6.heap.size Wb wr) (fun t _ => P - (intOf t).toNat)
    case atStart => exact ⟨0, L, v, rfl, Nat.zero_le _, qb, mb, nb, hvn, hf, HL, show ∀ q, q < 0 → _ from fun q hq => absurd hq (Nat.not_lt_zero _), KeepsFrom.refl _ _⟩
    case round =>
      clear k0 qb mb nb hvn hf HL
      obtain ⟨i, L, v, rfl, hi, hq, hm, hnb, hvn, hf, HL, HQ, hkp⟩ := hrel
      have hnl := hnb.lt
      by_cases hlt : i < P
      · have hi5 : i < 5 := by omega
        have n0 : wr.cell? ⟨W.heap.size, 0, none⟩ = some (.int .i64 (x0 : Nat)) := hnb.cell (k := 0) (by simp)
        have n1 : wr.cell? ⟨W.heap.size, 1, none⟩ = some (.int .i64 (x1 : Nat)) := hnb.cell (k := 1) (by simp)
        have n2 : wr.cell? ⟨W.heap.size, 2, none⟩ = some (.int .i64 (x2 : Nat)) := hnb.cell (k := 2) (by simp)
        have n3 : wr.cell? ⟨W.heap.size, 3, none⟩ = some (.int .i64 (x3 : Nat)) := hnb.cell (k := 3) (by simp)
        have n4 : wr.cell? ⟨W.heap.size, 4, none⟩ = some (.int .i64 (x4 : Nat)) := hnb.cell (k := 4) (by simp)
        obtain ⟨w7, hw7⟩ : ∃ w7, wr.alloc (.cells #[.int .i64 (x0 : Nat), .int .i64 (x1 : Nat), .int .i64 (x2 : Nat), .int .i64 (x3 : Nat), .int .i64 (x4 : Nat)] 59) = w7 := ⟨_, rfl⟩
        have r7 : RowAt 59 w7 wr.heap.size [x0, x1, x2, x3, x4] := by subst hw7; unfold RowAt; rw [World.alloc_heap_new]; rfl
        have hb7 : Below wr.heap.size wr w7 := by rw [← hw7]; exact bel_al (Below.refl _ _) _
        have hzr := HG.out.rng i hlt
        have hev := M.evn_le T i T.length
        have c7 := r7.cell (k := i) hi5
        have f7 := r7.frozen i
        have l7 := r7.lt
        have hset := r7.set i (M.row [x0, x1, x2, x3, x4] i + 1)
        obtain ⟨y0, y1, y2, y3, y4, hy⟩ : ∃ y0 y1 y2 y3 y4, [x0, x1, x2, x3, x4].set i (M.row [x0, x1, x2, x3, x4] i + 1) = [y0, y1, y2, y3, y4] := by
          have h5 : ([x0, x1, x2, x3, x4].set i (M.row [x0, x1, x2, x3, x4] i + 1)).length = 5 := by simp
          match [x0, x1, x2, x3, x4].set i (M.row [x0, x1, x2, x3, x4] i + 1), h5 with
          | [a, b, c, d, e], _ => exact ⟨a, b, c, d, e, rfl⟩
        have HY : Hid (M.nx [x0, x1, x2, x3, x4] i = [y0, y1, y2, y3, y4]) := hy
        have hyr := M.nx_row (x := [x0, x1, x2, x3, x4]) (p := i) (k := i) hi5
        rw [if_pos rfl, show M.nx [x0, x1, x2, x3, x4] i = [y0, y1, y2, y3, y4] from hy] at hyr
        rw [hy] at hset
        obtain ⟨z, hz⟩ : ∃ z, M.row [x0, x1, x2, x3, x4] i = z := ⟨_, rfl⟩
        rw [hz] at c7 hzr hset hyr
        obtain ⟨z1, hz1⟩ : ∃ z1, z + 1 = z1 := ⟨_, rfl⟩
        rw [hz1] at hset hyr
        have hzi : (z : Int) + 1 = (z1 : Int) := by omega
        have HZ : Hid (z + 1 = z1) := hz1
        clear hz hy hz1
        have hby : Below wr.heap.size wr (w7.setCell ⟨wr.heap.size, i, none⟩ (.int .i64 (z1 : Nat))) := hb7.setCell (p := ⟨wr.heap.size, i, none⟩) (Nat.le_refl _) _
        have hi5' : (i : Int) < 5 := by omega
        have hiP : (i : Int) < (P : Int) := by omega
        gi_wp2
        obtain ⟨Wy, hWy⟩ : ∃ Wy, w7.setCell ⟨wr.heap.size, i, none⟩ (.int .i64 (z1 : Nat)) = Wy := ⟨_, rfl⟩
        rw [hWy] at hby hset ⊢
        clear hw7 r7 c7 f7 l7 hb7 n0 n1 n2 n3 n4 hWy
        have qy := hq.below hby
        have my := hm.later hby
        have ny := hnb.below hby hnb.lt
        have ky := KeepsFrom.trans' hkp (keeps_below w6.heap.size hby)
        have ay := my.ab.cell (k := i) hi5
        rw [M.evl_row T n hi5] at ay
        have al := my.ab.lt
        have yc := hset.cell (k := i) hi5
        rw [hyr] at yc
        have yl := hset.lt
        rw [hl] at hzr hev
        obtain ⟨ev, hevv⟩ : ∃ ev, M.evn T i n = ev := ⟨_, rfl⟩
        have HE : Hid (M.evn T i T.length = ev) := by show _ = _; rw [hl]; exact hevv
        rw [hevv] at ay hzr hev
        clear hevv hq hm hnb hkp
        by_cases hle : z1 ≤ ev
        · have hd : decide ((z1 : Int) ≤ (ev : Int)) = true := decide_eq_true (by omega)
          have hd' : decide (z1 ≤ ev) = true := decide_eq_true hle
          have t0 := my.tb.cell 0
          have t1 := my.tb.cell 1
          have tl := my.tb.lt
          have q0 : Wy.cell? ⟨wr.heap.size, 0, none⟩ = some (.int .i64 (y0 : Nat)) := hset.cell (k := 0) (by simp)
          have q1 : Wy.cell? ⟨wr.heap.size, 1, none⟩ = some (.int .i64 (y1 : Nat)) := hset.cell (k := 1) (by simp)
          have q2 : Wy.cell? ⟨wr.heap.size, 2, none⟩ = some (.int .i64 (y2 : Nat)) := hset.cell (k := 2) (by simp)
          have q3 : Wy.cell? ⟨wr.heap.size, 3, none⟩ = some (.int .i64 (y3 : Nat)) := hset.cell (k := 3) (by simp)
          have q4 : Wy.cell? ⟨wr.heap.size, 4, none⟩ = some (.int .i64 (y4 : Nat)) := hset.cell (k := 4) (by simp)
          refine wpIn_region_still_tail 10 (by kernel_rfl) (by kernel_rfl) (fun _ _ h => by cases (And.left h : Exit.outgrown = Exit.normal)) (by kernel_rfl) ?_
          simp only [List.take_succ_cons, List.take_zero, List.drop_succ_cons, List.drop_zero]
          repeat still_step
          refine wpStill_nil ?_
          go_wp2_with fail
          refine (isWhole_ok (P : Nat) T p n cap y0 y1 y2 y3 y4 _ hl (he.later my.bel.drew) (hc.later my.bel.drew) h1).mono ?_
          clear t0 t1 tl q0 q1 q2 q3 q4 ay al yc
          cases hwh : M.whB T [y0, y1, y2, y3, y4] with
          | false =>
            rintro e W8 ⟨rfl, hB8⟩
            have hB9 : Below Wy.heap.size Wy W8 := bel_on ((Below.refl _ Wy).drew) hB8
            have q8 := qy.below hB9
            have m8 := my.later hB9
            have n8 := ny.below hB9 ny.lt
            have k8 := KeepsFrom.trans' ky (keeps_below w6.heap.size hB9)
            have HQ2 : Hid (∀ q, q < i + 1 → M.Gd P T (M.nx [x0, x1, x2, x3, x4] q) → M.nx [x0, x1, x2, x3, x4] q ∈ L) := fun q hqi hg => by
              by_cases e : q = i
              · subst e
                have := hg.wh
                rw [HY.out, hwh] at this
                cases this
              · exact HQ.out q (by omega) hg
            clear HQ qy my ny ky hB8 hB9 hwh hset
            go_wp2
            gi_wp2
            go_roundw
            case rel => exact ⟨i + 1, L, v, by go_num, by omega, q8, m8, n8, hvn, hf, HL, HQ2, k8⟩
            case measure => simp [intOf]; omega
          | true =>
            rintro e W8 ⟨rfl, hB8⟩
            have hB9 : Below Wy.heap.size Wy W8 := bel_on ((Below.refl _ Wy).drew) hB8
            have q8 := qy.below hB9
            have m8 := my.later hB9
            have n8 := ny.below hB9 ny.lt
            have k8 := KeepsFrom.trans' ky (keeps_below w6.heap.size hB9)
            have y8 := hset.below hB9 hset.lt
            have hgy : M.Gd P T [y0, y1, y2, y3, y4] := by
              rw [← show M.nx [x0, x1, x2, x3, x4] i = [y0, y1, y2, y3, y4] from HY.out]
              refine ⟨by rw [M.nx_length]; rfl, fun q hqP => ?_, fun q hqP => ?_, by rw [show M.nx [x0, x1, x2, x3, x4] i = [y0, y1, y2, y3, y4] from HY.out]; exact hwh⟩
              · by_cases e : i = q
                · subst e
                  rw [show M.nx [x0, x1, x2, x3, x4] i = [y0, y1, y2, y3, y4] from HY.out, hyr, HE.out]
                  exact hle
                · rw [M.nx_row hi5, if_neg e]
                  exact HG.out.rng q hqP
              · rw [M.nx_row hi5, if_neg (by omega)]
                exact HG.out.out q hqP
            have hsm : ∀ q, q < 5 → M.row [y0, y1, y2, y3, y4] q ≤ 24 := fun q hq5 => by
              by_cases hqP : q < P
              · have h1 := hgy.rng q hqP
                have h2 := M.evn_le T q T.length
                omega
              · rw [hgy.out q (by omega)]; omega
            have s0 : y0 ≤ 24 := hsm 0 (by omega)
            have s1 : y1 ≤ 24 := hsm 1 (by omega)
            have s2 : y2 ≤ 24 := hsm 2 (by omega)
            have s3 : y3 ≤ 24 := hsm 3 (by omega)
            have s4 : y4 ≤ 24 := hsm 4 (by omega)
            have fc := m8.fb.cell
            have fl := m8.fb.lt
            have r0 : W8.cell? ⟨wr.heap.size, 0, none⟩ = some (.int .i64 (y0 : Nat)) := y8.cell (k := 0) (by simp)
            have r1 : W8.cell? ⟨wr.heap.size, 1, none⟩ = some (.int .i64 (y1 : Nat)) := y8.cell (k := 1) (by simp)
            have r2 : W8.cell? ⟨wr.heap.size, 2, none⟩ = some (.int .i64 (y2 : Nat)) := y8.cell (k := 2) (by simp)
            have r3 : W8.cell? ⟨wr.heap.size, 3, none⟩ = some (.int .i64 (y3 : Nat)) := y8.cell (k := 3) (by simp)
            have r4 : W8.cell? ⟨wr.heap.size, 4, none⟩ = some (.int .i64 (y4 : Nat)) := y8.cell (k := 4) (by simp)
            have y8l := y8.lt
            clear hsm qy my ny ky hB8 hB9 hwh hset y8
            have HGY : Hid (M.Gd P T [y0, y1, y2, y3, y4]) := hgy
            clear hgy hyr
            go_wp2
            gi_wp2_with fail
            refine ⟨trivial, ?_⟩
            clear fc r0 r1 r2 r3 r4 y8l
            by_cases hin : [y0, y1, y2, y3, y4] ∈ L
            · refine (CallsIn.inRound (w6.heap.size + 1) (callsIn_wide.2 (add_old Q B w4.heap.size v L y0 y1 y2 y3 y4 _ q8 hin (by omega) (by omega) (by omega) (by omega) (by omega)))).mono ?_
              rintro e W9 ⟨⟨u, rfl⟩, hB9⟩
              have q9 := q8.below hB9
              have m9 := m8.later hB9
              have n9 := n8.below hB9 n8.lt
              have k9 := KeepsFrom.trans' k8 (keeps_below w6.heap.size hB9)
              have HQ2 : Hid (∀ q, q < i + 1 → M.Gd P T (M.nx [x0, x1, x2, x3, x4] q) → M.nx [x0, x1, x2, x3, x4] q ∈ L) := fun q hqi hg => by
                by_cases e : q = i
                · subst e; rw [HY.out]; exact hin
                · exact HQ.out q (by omega) hg
              clear HQ q8 m8 n8 k8 hB9 hin
              gi_wp2
              go_roundw
              case rel => exact ⟨i + 1, L, v, by go_num, by omega, q9, m9, n9, hvn, hf, HL, HQ2, k9⟩
              case measure => simp [intOf]; omega
            · have hLle : L.length ≤ 16777216 := by
                have h1 := M.found_le hok hf.nod hf.gd
                have h2 := M.cts_pow hok
                have h3 := pow_24 T.length (by omega)
                omega
              refine (CallsIn.inRound (w6.heap.size + 1) (callsIn_wide.2 (add_new Q B w4.heap.size v L y0 y1 y2 y3 y4 _ q8 hin hLle (by omega) (by omega) (by omega) (by omega) (by omega) (by omega)))).mono ?_
              rintro e W9 ⟨⟨u, rfl⟩, v', q9, hvv, hf9⟩
              have m9 := m8.add q8 hf9 (by omega) (by omega) hQ5 hB5 hQlt hBlt
              have hn9 : ¬ (W.heap.size = Q ∨ W.heap.size = B ∨ v.ownBlock = some W.heap.size) := fun h => by
                rcases h with h | h | h
                · omega
                · omega
                · exact hvn.out h
              have n9 : RowAt 59 W9 W.heap.size [x0, x1, x2, x3, x4] := (hf9.block _ n8.lt hn9).trans n8
              have k9 := KeepsFrom.trans' k8 (keeps_add q8 hf9 (N := w6.heap.size) (by omega) (by omega))
              have hv9 : Hid (v'.ownBlock ≠ some W.heap.size) := fun e => by
                rcases hvv with h | ⟨g, h, hg⟩
                · exact hvn.out (h ▸ e)
                · have : g = W.heap.size := Option.some.inj (h.symm.trans e)
                  have := n8.lt
                  omega
              have hf2 := hf.add hin HGY.out
              have HL2 : Hid (pre ++ [[x0, x1, x2, x3, x4]] <+: L ++ [[y0, y1, y2, y3, y4]]) := HL.out.trans (List.prefix_append _ _)
              have HQ2 : Hid (∀ q, q < i + 1 → M.Gd P T (M.nx [x0, x1, x2, x3, x4] q) → M.nx [x0, x1, x2, x3, x4] q ∈ L ++ [[y0, y1, y2, y3, y4]]) := fun q hqi hg => by
                by_cases e : q = i
                · subst e; rw [HY.out]; exact List.mem_append_right _ (List.mem_singleton.2 rfl)
                · exact List.mem_append_left _ (HQ.out q (by omega) hg)
              clear HQ HL hf q8 m8 n8 k8 hf9 hin hvv hvn hn9
              gi_wp2
              go_roundw
              case rel => exact ⟨i + 1, _, v', by go_num, by omega, q9, m9, n9, hv9, hf2, HL2, HQ2, k9⟩
              case measure => simp [intOf]; omega
        · have hd : decide ((z1 : Int) ≤ (ev : Int)) = false := decide_eq_false (by omega)
          have hd' : decide (z1 ≤ ev) = false := decide_eq_false hle
          refine wpIn_region_still_tail 10 (by kernel_rfl) (by kernel_rfl) (fun _ _ h => by cases (And.left h : Exit.outgrown = Exit.normal)) (by kernel_rfl) ?_
          simp only [List.take_succ_cons, List.take_zero, List.drop_succ_cons, List.drop_zero]
          repeat still_step
          refine wpStill_nil ?_
          have qd : QV Wy.drew Q B w4.heap.size v L := qy.below ((Below.refl _ Wy).drew)
          have md := my.later ((Below.refl _ Wy).drew)
          have nd := ny.below ((Below.refl _ Wy).drew) ny.lt
          have kd := KeepsFrom.trans' ky (keeps_below w6.heap.size ((Below.refl _ Wy).drew))
          have HQ2 : Hid (∀ q, q < i + 1 → M.Gd P T (M.nx [x0, x1, x2, x3, x4] q) → M.nx [x0, x1, x2, x3, x4] q ∈ L) := fun q hqi hg => by
            by_cases e : q = i
            · subst e
              have h9 := hg.rng q hlt
              rw [HY.out, hyr, HE.out] at h9
              exact absurd h9 hle
            · exact HQ.out q (by omega) hg
          clear HQ qy my ny ky hset hle ay al yc
          go_wp2
          gi_wp2
          go_roundw
          case rel => exact ⟨i + 1, L, v, by go_num, by omega, qd, md, nd, hvn, hf, HL, HQ2, kd⟩
          case measure => simp [intOf]; omega
      · obtain rfl : P = i := by omega
        have HF : Hid (Fnd P T (pre ++ [[x0, x1, x2, x3, x4]]) L) := by
          refine ⟨hf.nod, hf.gd, hf.z, HL.out, fun c hc q hqP hg => ?_⟩
          rcases List.mem_append.1 hc with hc | hc
          · exact hf.cl c hc q hqP hg
          · obtain rfl := List.mem_singleton.1 hc
            exact HQ.out q hqP hg
        clear hf HL HQ HG
        gi_wp2
        exact ⟨L, ⟨v, hq⟩, HF.out⟩
end Go.Proofs.YtkojkiggdbffhaaDoor
