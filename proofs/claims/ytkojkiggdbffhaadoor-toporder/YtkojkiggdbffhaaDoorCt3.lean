/- Whether a cut is whole (package cut, isWhole), at whatever five numbers; what lay in memory lies as it lay. -/
import Derived.Test.YtkojkiggdbffhaaDoorBCa
import Derived.Test.YtkojkiggdbffhaaDoorItB
import Derived.Test.YtkojkiggdbffhaaDoorBSw
namespace Go.Proofs.YtkojkiggdbffhaaDoor
open Go.RowKit Go.Shelf
attribute [local go_sem] Oper.semAt_some

/-- Block A holds the cells cs, none frozen. -/
def Blk (W : World) (A : Nat) (cs : Array Value) (t : TypeId) : Prop := W.heap[A]? = some (.cells cs t (0, 0))
theorem Blk.lt {W : World} {A : Nat} {cs : Array Value} {t : TypeId} (h : Blk W A cs t) : A < W.heap.size := (Array.getElem?_eq_some_iff.1 h).1
theorem Blk.new (W : World) (cs : Array Value) (t : TypeId) : Blk (W.alloc (.cells cs t)) W.heap.size cs t := World.alloc_heap_new W _
theorem Blk.alloc {W : World} {A : Nat} {cs : Array Value} {t : TypeId} (h : Blk W A cs t) (o : Obj) : Blk (W.alloc o) A cs t := ((World.grownBy_alloc W o none).block A h.lt (by simp)).trans h
theorem Blk.below {W W' : World} {A N : Nat} {cs : Array Value} {t : TypeId} (h : Blk W A cs t) (hb : Below N W W') (hA : A < N) : Blk W' A cs t := (hb.block A hA).trans h
theorem Blk.other {W : World} {A : Nat} {cs : Array Value} {t : TypeId} (h : Blk W A cs t) {a : Addr} (ha : A ≠ a.block) (v : Value) : Blk (W.setCell a v) A cs t := (Below.heap_setCell W a v A ha).trans h
theorem Blk.cell {W : World} {A : Nat} {cs : Array Value} {t : TypeId} (h : Blk W A cs t) (k : Nat) : W.cell? ⟨A, k, none⟩ = cs[k]? := by
  simp [World.cell?, show W.heap[A]? = _ from h]
theorem Blk.frozen {W : World} {A : Nat} {cs : Array Value} {t : TypeId} (h : Blk W A cs t) (k : Nat) : W.frozen? ⟨A, k, none⟩ = false := by
  simp [World.frozen?, show W.heap[A]? = _ from h]
theorem Blk.own {β : Type} (A : Nat) (f : β → Array Value) (t : TypeId) : Own (fun s W => Blk W A (f s) t) := fun s X Y row hs hg hrow =>
  (hg.block A hs.lt (fun e' => by obtain ⟨o, ho, hc⟩ := hrow A e'.symm; rw [show X.heap[A]? = _ from hs] at ho; cases ho; cases hc)).trans hs
theorem Blk.tbox {W : World} {A : Nat} {P : Int} {p : Option Addr} {n cap : Nat} {t : TypeId} (h : Blk W A #[.int .i64 P, .slice p n cap] t) : TBox W A P p n cap :=
  ⟨h.lt, h.cell 0, h.cell 1⟩
namespace M
theorem wh_true {P : Int} {T : List (Int × Int)} {c : List Nat} (hk : TOk P T) (h : ∀ x, x ∈ bitsB (cset T c T.length) → 0 ≤ fm T x → (cset T c T.length).testBit (fm T x).toNat = true) : whB T c = true := by
  unfold whB
  rw [whTo_iff]
  intro i hi hc hf
  have := h i (mem_bitsB.2 ⟨by have := hk.len; omega, by rw [cset_bit, hc]; simp [hi]⟩) hf
  rw [cset_bit, Bool.and_eq_true] at this
  exact this.2
theorem wh_false {P : Int} {T : List (Int × Int)} {c : List Nat} {x : Nat} (hk : TOk P T) (hx : x ∈ bitsB (cset T c T.length)) (hf : 0 ≤ fm T x) (h : (cset T c T.length).testBit (fm T x).toNat = false) : whB T c = false := by
  have hb := (mem_bitsB.1 hx).2
  rw [cset_bit, Bool.and_eq_true, decide_eq_true_eq] at hb
  refine whTo_not hb.1 hb.2 hf ?_
  have hlt := hk.fmI x hb.1
  rw [cset_bit, decide_eq_true (by omega), Bool.true_and] at h
  exact h
end M
set_option maxRecDepth 100000 in
set_option maxHeartbeats 4000000 in
theorem isWhole_of (P : Int) (T : List (Int × Int)) (p : Option Addr) (n cap : Nat) (x0 x1 x2 x3 x4 : Nat) (c : List Nat) (hcc : [x0, x1, x2, x3, x4] = c) (w : World) (hl : T.length = n) (he : Env w) (hc : HasE T p w) (h0 : M.tcode P T = 0) :
    Calls Tryd.prog 32 #[trV P p n cap, nuV x0 x1 x2 x3 x4] w fun e w' => e = .returned (.bool (M.whB T c)) ∧ Below w.heap.size w w' := by
  have hok := M.tcode_zero.1 h0
  have hn : n ≤ 24 := hl ▸ hok.len
  refine callsIn_wide.1 (callsIn_of_wp_marks (n := 3) Tryd.func32 rfl trivial ?_ rfl)
  simp only [Tryd.ntmps32, List.size_toArray, List.length_cons, List.length_nil, Nat.reduceAdd, Nat.reduceSub, Array.replicate_succ, Array.replicate_zero, List.push_toArray, List.append_toArray, List.nil_append, List.cons_append]
  refine wpIn_wide.2 ?_
  obtain ⟨Wa, hWa⟩ : ∃ Wa, ((w.alloc (.cells #[.int .i64 P, .slice p n cap] 24)).alloc (.cells #[.int .i64 (x0 : Nat), .int .i64 (x1 : Nat), .int .i64 (x2 : Nat), .int .i64 (x3 : Nat), .int .i64 (x4 : Nat)] 59)).alloc (.cells #[.bool false] 4) = Wa := ⟨_, rfl⟩
  have hsz : Wa.heap.size = w.heap.size + 3 := by rw [← hWa]; simp
  have hb1 : Blk Wa w.heap.size #[.int .i64 P, .slice p n cap] 24 := by rw [← hWa]; exact ((Blk.new w _ _).alloc _).alloc _
  have hb2 : Blk Wa (w.heap.size + 1) #[.int .i64 (x0 : Nat), .int .i64 (x1 : Nat), .int .i64 (x2 : Nat), .int .i64 (x3 : Nat), .int .i64 (x4 : Nat)] 59 := by
    rw [← hWa]
    have h := Blk.new (w.alloc (.cells #[.int .i64 P, .slice p n cap] 24)) #[.int .i64 (x0 : Nat), .int .i64 (x1 : Nat), .int .i64 (x2 : Nat), .int .i64 (x3 : Nat), .int .i64 (x4 : Nat)] 59
    rw [World.size_alloc] at h; exact h.alloc _
  have hb3 : Boxed Wa (w.heap.size + 2) 4 (.bool false) := by
    rw [← hWa]
    have h := Boxed.new ((w.alloc (.cells #[.int .i64 P, .slice p n cap] 24)).alloc (.cells #[.int .i64 (x0 : Nat), .int .i64 (x1 : Nat), .int .i64 (x2 : Nat), .int .i64 (x3 : Nat), .int .i64 (x4 : Nat)] 59)) 4 (.bool false)
    rw [World.size_alloc, World.size_alloc] at h; exact h
  have hB0 : Below w.heap.size w Wa := by rw [← hWa]; exact bel_al (bel_al (bel_al (Below.refl _ w) _) _) _
  have k0 := hb1.cell 0
  have k1 := hb1.cell 1
  have j0 := hb2.cell 0
  have j1 := hb2.cell 1
  have j2 := hb2.cell 2
  have j3 := hb2.cell 3
  have j4 := hb2.cell 4
  have hbl := hb1.lt
  have hbl2 := hb2.lt
  go_wp2_with fail
  refine (events_ok P T p n cap x0 x1 x2 x3 x4 _ hl (hc.later hB0) h0).mono ?_
  rintro e w1 ⟨rfl, hB1⟩
  clear k0 k1 j0 j1 j2 j3 j4 hbl hbl2 hWa
  rw [hcc]
  have hset := M.cset_lt T c n
  obtain ⟨s, hs⟩ : ∃ s, M.cset T c n = s := ⟨_, rfl⟩
  rw [hs]
  rw [hs] at hset
  have hs24 : s < 16777216 := by have := pow_24 n hn; omega
  have g1 := hb1.below hB1 hb1.lt
  have g3 : Boxed w1 (w.heap.size + 2) 4 (.bool false) := boxed_below hb3 hB1 hb3.lt
  have hB1' : Below w.heap.size w w1 := bel_on hB0 hB1
  have hw1s := hB1.size
  clear hb1 hb2 hb3 hB0 hB1
  go_wp2_with (go_at_call 28; refine (things_any _ _).mono ?_; rintro e w' ⟨rfl, rfl⟩)
  rename_i Q' K hK0
  have hWx : ∀ (o : Obj), Below w.heap.size w ((w1.alloc (.cells #[.int .i64 (s : Nat)] 3)).alloc o) := fun o => bel_al (bel_al hB1' _) o
  obtain ⟨Wx, hWx2⟩ : ∃ Wx, (w1.alloc (.cells #[.int .i64 (s : Nat)] 3)).alloc (.cells #[.int .i64 (s : Nat)] 3) = Wx := ⟨_, rfl⟩
  have hxs : Wx.heap.size = w1.heap.size + 2 := by rw [← hWx2]; simp
  have y1 : Blk Wx w.heap.size #[.int .i64 P, .slice p n cap] 24 := by rw [← hWx2]; exact (g1.alloc _).alloc _
  have y3 : Boxed Wx (w.heap.size + 1 + 1) 4 (.bool false) := by rw [← hWx2]; exact (g3.alloc _).alloc _
  have y4 : Boxed Wx w1.heap.size 3 (.int .i64 (s : Nat)) := by rw [← hWx2]; exact (Boxed.new w1 _ _).alloc _
  have y5 : Boxed Wx (w1.heap.size + 1) 3 (.int .i64 (s : Nat)) := by
    rw [← hWx2]
    have h := Boxed.new (w1.alloc (.cells #[.int .i64 (s : Nat)] 3)) 3 (.int .i64 (s : Nat))
    rw [World.size_alloc] at h; exact h
  have hBx : Below w.heap.size w Wx := by rw [← hWx2]; exact hWx _
  rw [hWx2]
  clear g1 g3 hWx
  have hT2 := he.tab.below hBx he.two
  have htw := he.two
  refine (wpIn_wide (n := 3)).1 ?_
  refine wpIn_rangeFunc_ownG rfl (by omega) (gf := 45) (lb := #[.pointer (some ⟨w1.heap.size + 1, 0, none⟩)]) rfl trivial (enters_of Tryd.func45 (by kernel_rfl) rfl)
    (things_big (3 - 1) (w1.heap.size + 1) w.heap.size n s hn hset he.two _ (by omega) (by omega) hT2 y5.cell) belowK_t (belowK_b (by omega)) (Below.refl _ _) (fun _ => rfl)
    (fun (pre : List (Fin n)) W' => (∀ x, x ∈ pre.map (fun x : Fin n => x.1) → 0 ≤ M.fm T x → s.testBit (M.fm T x).toNat = true) ∧ Blk W' w.heap.size #[.int .i64 P, .slice p n cap] 24 ∧ Boxed W' w1.heap.size 3 (.int .i64 (s : Nat)) ∧ Boxed W' (w.heap.size + 1 + 1) 4 (.bool false) ∧ Below w.heap.size w W')
    (fun cc (pre : List (Fin n)) W' => cc = .ret ∧ (∃ x, x ∈ pre.map (fun x : Fin n => x.1) ∧ 0 ≤ M.fm T x ∧ s.testBit (M.fm T x).toNat = false) ∧ Boxed W' (w.heap.size + 1 + 1) 4 (.bool false) ∧ Below w.heap.size w W')
    (OwnFrom.and (fun _ _ _ _ h _ _ => h) (OwnFrom.and (Own.from (Blk.own _ (fun _ => #[.int .i64 P, .slice p n cap]) _) _) (OwnFrom.and (Own.from (boxed_own _ _ fun _ => .int .i64 (s : Nat)) _) (OwnFrom.and (Own.from (boxed_own _ _ fun _ => .bool false) _) (ownFrom_below (Nat.le_refl _) (by omega))))))
    (fun _ => OwnFrom.and (fun _ _ _ _ h _ _ => h) (OwnFrom.and (fun _ _ _ _ h _ _ => h) (OwnFrom.and (Own.from (boxed_own _ _ fun _ => .bool false) _) (ownFrom_below (Nat.le_refl _) (by omega)))))
    ⟨fun x hx => (by simp at hx), y1, y4, y3, hBx⟩
    (fun x => { tmps := #[trV P p n cap, nuV x0 x1 x2 x3 x4, .pointer (some ⟨w.heap.size, 0, none⟩), .pointer (some ⟨w.heap.size + 1, 0, none⟩), .pointer (some ⟨w.heap.size + 1 + 1, 0, none⟩), .pointer (some ⟨w1.heap.size, 0, none⟩), .int .i64 (x.1 : Nat), undef, trV P p n cap, nuV x0 x1 x2 x3 x4, .int .i64 (s : Nat), .int .i64 (s : Nat), .func (.func 45) #[] #[.pointer (some ⟨w1.heap.size + 1, 0, none⟩)], .int .i64 (x.1 : Nat), undef, undef, undef, undef, undef, undef, undef, undef, undef, undef, undef, undef, undef, undef], defers := [] }) ?assign ?body ?done ?stop
  case assign =>
    intro l x W K hK
    gi_wp2
    exact hK
  case body =>
    rintro l pre x Wb ⟨hpre, hx1, hx2, hx3, hB⟩ _
    have hx := x.2
    have hc1 := hx1.cell 1
    have hc2 := hx2.cell
    have hc3 := hx3.cell
    have hf3 := hx3.frozen
    have l1 := hx1.lt
    have l2 := hx2.lt
    have l3 := hx3.lt
    obtain ⟨b, off, hp, hbb, hcp, hcf⟩ := (hc.later hB) x.1 (by omega)
    subst hp
    have hT : x.1 < T.length := by omega
    have hf0 := hok.fm0 x.1 hT
    have hfI := hok.fmI x.1 hT
    obtain ⟨a, ha⟩ : ∃ a, M.pr T x.1 = a := ⟨_, rfl⟩
    rw [ha] at hcp
    obtain ⟨f, hf⟩ : ∃ f, M.fm T x.1 = f := ⟨_, rfl⟩
    have HF : Hid (M.fm T x.1 = f) := hf
    rw [hf] at hcf hf0 hfI
    clear hf ha
    have hal : Below Wb.heap.size Wb (Wb.alloc (.cells #[.int .i64 a, .int .i64 f] 53)) := bel_al (Below.refl _ _) _
    have hev : Blk (Wb.alloc (.cells #[.int .i64 a, .int .i64 f] 53)) Wb.heap.size #[.int .i64 a, .int .i64 f] 53 := Blk.new _ _ _
    have kal : KeepsOthers Wb (Wb.alloc (.cells #[.int .i64 a, .int .i64 f] 53)) := KeepsOthers.alloc _ _
    by_cases hfm : f = -1
    · subst hfm
      gi_wp2_with fail
      refine ⟨trivial, ?_⟩
      refine (CallsIn.inRound l (callsIn_wide.2 (heard_no _ _ _ rfl))).mono ?_
      rintro e W9 ⟨rfl, hW9⟩
      have hB9 : Below Wb.heap.size Wb W9 := by rw [← hW9]; exact bel_al hal _
      have kk : KeepsOthers Wb W9 := by rw [← hW9]; exact kal.trans (KeepsOthers.alloc _ _)
      have v1 := hx1.below hB9 hx1.lt
      have v2 : Boxed W9 w1.heap.size 3 (.int .i64 (s : Nat)) := boxed_below hx2 hB9 hx2.lt
      have v3 : Boxed W9 (w.heap.size + 1 + 1) 4 (.bool false) := boxed_below hx3 hB9 hx3.lt
      have u1 := hev.cell 0
      have u2 := hev.cell 1
      clear hW9
      gi_wp2
      refine ⟨trivial, ?_⟩
      gi_wp2
      refine ⟨kk.from _, hB9.mono hB.size, fun y hy h2 => ?_, v1, v2, v3, bel_on hB hB9⟩
      rw [List.map_append, List.map_cons, List.map_nil] at hy
      rcases List.mem_append.1 hy with hy | hy
      · exact hpre y hy h2
      · obtain rfl := List.mem_singleton.1 hy
        rw [HF.out] at h2; omega
    · obtain ⟨j, rfl⟩ : ∃ j : Nat, f = j := ⟨f.toNat, by omega⟩
      have e2 : (((j : Nat) : Int) != -1) = true := by simp
      have hj : j < 24 := by omega
      clear hfm hf0
      gi_wp2_with fail
      refine ⟨trivial, ?_⟩
      refine (CallsIn.inRound l (callsIn_wide.2 (heard_yes _ _ _ e2))).mono ?_
      rintro e W9 ⟨rfl, hW9⟩
      have hB9 : Below Wb.heap.size Wb W9 := by rw [← hW9]; exact bel_al hal _
      have kk : KeepsOthers Wb W9 := by rw [← hW9]; exact kal.trans (KeepsOthers.alloc _ _)
      have v1 := hx1.below hB9 hx1.lt
      have v2 : Boxed W9 w1.heap.size 3 (.int .i64 (s : Nat)) := boxed_below hx2 hB9 hx2.lt
      have v3 : Boxed W9 (w.heap.size + 1 + 1) 4 (.bool false) := boxed_below hx3 hB9 hx3.lt
      have v4 : Blk W9 Wb.heap.size #[.int .i64 a, .int .i64 (j : Nat)] 53 := by rw [← hW9]; exact hev.alloc _
      have u0 := v2.cell
      have u1 := v4.cell 0
      have u2 := v4.cell 1
      have u3 := v3.cell
      have u4 := v3.frozen
      clear hW9
      gi_wp2_with fail
      refine ⟨trivial, ?_⟩
      refine (CallsIn.inRound l (callsIn_wide.2 (has_big s j _ hs24 hj))).mono ?_
      cases hbit : s.testBit j with
      | true =>
        rintro e w' ⟨rfl, rfl⟩
        gi_wp2
        refine ⟨kk.from _, hB9.mono hB.size, fun y hy h2 => ?_, v1, v2, v3, bel_on hB hB9⟩
        rw [List.map_append, List.map_cons, List.map_nil] at hy
        rcases List.mem_append.1 hy with hy | hy
        · exact hpre y hy h2
        · obtain rfl := List.mem_singleton.1 hy
          rw [HF.out, Int.toNat_natCast]; exact hbit
      | false =>
        rintro e w' ⟨rfl, rfl⟩
        gi_wp2
        refine ⟨(kk.trans (KeepsOthers.setCell _ _ _)).from _, rfl, ⟨x.1, by simp, by rw [HF.out]; omega, by rw [HF.out, Int.toNat_natCast]; exact hbit⟩, v3.set _, (bel_on hB hB9).setCell (p := ⟨w.heap.size + 1 + 1, 0, none⟩) (by simp; omega) _⟩
  case done =>
    rintro D ys Wd hD hys ⟨hpre, hx1, hx2, hx3, hB⟩ hK
    have hDl := (Array.getElem?_eq_some_iff.1 hK).1
    rw [hys] at hpre
    have hst : M.whB T c = true := M.wh_true hok (by rw [hl, hs]; exact hpre)
    show K _ _
    refine hK0 _ _ ?_
    have hc3 := hx3.cell
    have hf3 := hx3.frozen
    go_wp2_with fail
    have hx4 := hx3.set (.bool true)
    refine leaves_marks _ (D + 1) (Wd.setCell ⟨w.heap.size + 1 + 1, 0, none⟩ (.bool true)) (by have := hB.size; simpa using this) ⟨D, by omega, by omega, rfl, ?_, trivial⟩ (fun W' ht => ⟨_, results_cell rfl _ _ _ (.bool true) rfl ?_, ?_, ?_⟩)
    · rw [Below.heap_setCell _ _ _ _ (by simp; omega)]; exact hK
    · exact (show Boxed W' _ _ _ from ht.cells _ _ hx4 rfl).cell
    · rw [hst]
    · exact (hB.setCell (p := ⟨w.heap.size + 1 + 1, 0, none⟩) (by simp; omega) _).trans ht.below
  case stop =>
    rintro D cc pre W hD ⟨rr, hrr⟩ ⟨rfl, ⟨x, hxm, hxf, hxn⟩, hx3, hB⟩ hK
    have hsf : M.whB T c = false := M.wh_false hok (x := x) (by rw [hl, hs, hrr]; exact List.mem_append_left _ hxm) hxf (by rw [hl, hs]; exact hxn)
    have hDl := (Array.getElem?_eq_some_iff.1 hK).1
    gi_wp2
    refine leaves_marks _ (D + 1) W hB.size ⟨D, by omega, by omega, rfl, hK, trivial⟩ (fun W' ht => ⟨_, results_cell rfl _ _ _ (.bool false) rfl ?_, ?_, ?_⟩)
    · exact (show Boxed W' _ _ _ from ht.cells _ _ hx3 rfl).cell
    · rw [hsf]
    · exact hB.trans ht.below
theorem isWhole_ok (P : Int) (T : List (Int × Int)) (p : Option Addr) (n cap : Nat) (x0 x1 x2 x3 x4 : Nat) (w : World) (hl : T.length = n) (he : Env w) (hc : HasE T p w) (h0 : M.tcode P T = 0) :
    Calls Tryd.prog 32 #[trV P p n cap, nuV x0 x1 x2 x3 x4] w fun e w' => e = .returned (.bool (M.whB T [x0, x1, x2, x3, x4])) ∧ Below w.heap.size w w' := isWhole_of P T p n cap x0 x1 x2 x3 x4 _ rfl w hl he hc h0
end Go.Proofs.YtkojkiggdbffhaaDoor
