/- What was noted (package snap, Noted). -/
import Derived.Test.YtplplgpfglaajaaDoorBk10
namespace Go.Proofs.YtplplgpfglaajaaDoor
open Go.RowKit
namespace M
def nol (n : Nat) (b : Bk) : List Int := (List.range n).map b.no
def cal (n : Nat) (b : Bk) (i : Nat) : List Int := (List.range n).map (b.ca i)
theorem nol_length (n : Nat) (b : Bk) : (nol n b).length = n := by simp [nol]
theorem cal_length (n : Nat) (b : Bk) (i : Nat) : (cal n b i).length = n := by simp [cal]
theorem nol_at {n : Nat} (b : Bk) {i : Nat} (h : i < n) : (nol n b)[i]?.getD 0 = b.no i := by simp [nol, h]
theorem cal_at {n : Nat} (b : Bk) (k : Nat) {i : Nat} (h : i < n) : (cal n b k)[i]?.getD 0 = b.ca k i := by simp [cal, h]
theorem nol_succ (n : Nat) (b : Bk) : nol (n + 1) b = nol n b ++ [b.no n] := by simp [nol, List.range_succ]
end M
/-- The slice's address p leads to n lists of numbers. -/
def HasRZ (R : Nat → List Int) (n : Nat) (p : Option Addr) (w : World) : Prop := ∀ j, j < n → ∃ b off q c, p = some ⟨b, off, none⟩ ∧ b < w.heap.size ∧ w.cell? ⟨b, off + j, none⟩ = some (.slice q (R j).length c) ∧ HasI (R j) q w
theorem HasRZ.later {R : Nat → List Int} {n : Nat} {p : Option Addr} {w w' : World} (h : HasRZ R n p w) (hb : Below w.heap.size w w') : HasRZ R n p w' := fun j hj => by
  obtain ⟨b, off, q, c, h1, h2, h3, h4⟩ := h j hj
  exact ⟨b, off, q, c, h1, by have := hb.size; omega, (hb.cell (p := ⟨b, off + j, none⟩) h2).trans h3, h4.later hb⟩
/-- Rows as cells. -/
def rcl (A : Nat → Nat) (n k : Nat) : List Value := (List.range k).map fun j => .slice (some ⟨A j, 0, none⟩) n n
theorem rcl_length (A : Nat → Nat) (n k : Nat) : (rcl A n k).length = k := by simp [rcl]
theorem rcl_succ (A : Nat → Nat) (n k a : Nat) : rcl (M.upd1 A k a) n (k + 1) = rcl A n k ++ [.slice (some ⟨a, 0, none⟩) n n] := by
  unfold rcl
  rw [List.range_succ, List.map_append, List.map_singleton, M.upd1_same]
  congr 1
  apply List.map_congr_left
  intro j hj
  rw [M.upd1_other _ _ (by have := List.mem_range.1 hj; omega)]
/-- The first k processes are told. -/
structure NI (N : Nat) (w : World) (n : Nat) (b : M.Bk) (k : Nat) (mv wv : Value) (A : Nat → Nat) : Prop where
  mon : w.ownsRow N 3 1 mv k (zc (M.nol k b))
  way : w.ownsRow N 22 1 wv k (rcl A n k)
  row : ∀ j, j < k → w.rowIs (A j) 3 n (fun i => .int .i64 (b.ca j i)) ∧ mv.ownBlock ≠ some (A j)
theorem NI.below {N : Nat} {w w' : World} {n : Nat} {b : M.Bk} {k : Nat} {mv wv : Value} {A : Nat → Nat} (h : NI N w n b k mv wv A) (hb : Below w.heap.size w w') : NI N w' n b k mv wv A :=
  ⟨owns_below h.mon hb, owns_below h.way hb, fun j hj => ⟨(h.row j hj).1.of_block (hb.block _ (h.row j hj).1.lt), (h.row j hj).2⟩⟩
theorem owns_apart {w : World} {b1 b2 n1 n2 : Nat} {t1 t2 : TypeId} {v1 v2 : Value} {x1 x2 : List Value} (h1 : w.ownsRow b1 t1 1 v1 n1 x1) (h2 : w.ownsRow b2 t2 1 v2 n2 x2) (e : t1 ≠ t2) {g : Nat} (hg : v1.ownBlock = some g) : v2.ownBlock ≠ some g := fun hg2 => by
  obtain ⟨c1, hc1⟩ := owns_cells h1 hg
  obtain ⟨c2, hc2⟩ := owns_cells h2 hg2
  rw [hc1] at hc2
  cases hc2
  exact e rfl
/-- one more is told -/
theorem NI.step {N : Nat} {w w4 w5 : World} {n : Nat} {b : M.Bk} {k : Nat} {mv wv : Value} {A : Nat → Nat} {g1 c1 g2 c2 a : Nat} {o1 o2 : Obj} (h : NI N w n b k mv wv A) (ha : w.rowIs a 3 n (fun i => .int .i64 (b.ca k i))) (hna : mv.ownBlock ≠ some a)
    (own1 : w4.ownsRow N 3 1 (.slice (some ⟨g1, 0, none⟩) (k + 1) c1) (k + 1) (zc (M.nol k b) ++ [.int .i64 (b.no k)])) (gr1 : (w.alloc o1).grownBy w4 mv.ownBlock) (at1 : mv.ownBlock = some g1 ∨ g1 = w.heap.size + 1) (lt1 : g1 < w4.heap.size)
    (own2 : w5.ownsRow N 22 1 (.slice (some ⟨g2, 0, none⟩) (k + 1) c2) (k + 1) (rcl A n k ++ [.slice (some ⟨a, 0, none⟩) n n])) (gr2 : (w4.alloc o2).grownBy w5 wv.ownBlock) :
    NI N w5 n b (k + 1) (.slice (some ⟨g1, 0, none⟩) (k + 1) c1) (.slice (some ⟨g2, 0, none⟩) (k + 1) c2) (M.upd1 A k a) := by
  have hway4 : w4.ownsRow N 22 1 wv k (rcl A n k) := by
    refine owns_blk h.way (fun g hg => ?_)
    have hl := (h.way.lt g hg).2
    refine (gr1.block g (Nat.lt_of_lt_of_le hl (by simp)) (fun e => owns_apart h.way h.mon (by decide) hg e.symm)).trans (Below.heap_alloc w _ g hl)
  have keep : ∀ x, x < w.heap.size → mv.ownBlock ≠ some x → wv.ownBlock ≠ some x → w5.heap[x]? = w.heap[x]? := fun x hx e1 e2 => by
    have hx1 : x < (w.alloc o1).heap.size := Nat.lt_of_lt_of_le hx (by simp)
    have hx4 : x < w4.heap.size := Nat.lt_of_lt_of_le hx1 gr1.size
    exact (gr2.block x (Nat.lt_of_lt_of_le hx4 (by simp)) (Ne.symm e2)).trans ((Below.heap_alloc w4 _ x hx4).trans ((gr1.block x hx1 (Ne.symm e1)).trans (Below.heap_alloc w _ x hx)))
  have rowk : ∀ x f, w.rowIs x 3 n f → mv.ownBlock ≠ some x → w5.rowIs x 3 n f ∧ (Value.slice (some ⟨g1, 0, none⟩) (k + 1) c1).ownBlock ≠ some x := fun x f hx e => by
    refine ⟨hx.of_block (keep x hx.lt e (rowIs_owns hx h.way (by decide))), fun e2 => ?_⟩
    obtain rfl : g1 = x := by simpa [Value.ownBlock] using e2
    rcases at1 with y | y
    · exact e y
    · have := hx.lt; omega
  refine ⟨?_, by rw [rcl_succ]; exact own2, fun j hj => ?_⟩
  · rw [M.nol_succ, zc_snoc]
    refine owns_blk own1 (fun g hg => ?_)
    obtain rfl : g1 = g := by simpa [Value.ownBlock] using hg
    exact (gr2.block g1 (Nat.lt_of_lt_of_le lt1 (by simp)) (fun e => owns_apart own1 hway4 (by decide) hg e.symm)).trans (Below.heap_alloc w4 _ g1 lt1)
  · by_cases e : j = k
    · subst e; rw [M.upd1_same]; exact rowk a _ ha hna
    · rw [M.upd1_other _ _ e]
      obtain ⟨r1, r2⟩ := h.row j (by omega)
      exact rowk (A j) _ r1 r2
theorem NI.end_ {N : Nat} {w : World} {n : Nat} {b : M.Bk} {p1 p2 : Option Addr} {c1 c2 : Nat} {A : Nat → Nat} (h : NI N w n b n (.slice p1 n c1) (.slice p2 n c2) A) : HasI (M.nol n b) p1 w ∧ HasRZ (M.cal n b) n p2 w := by
  refine ⟨owns_hasI (M.nol_length n b) h.mon, fun j hj => ?_⟩
  rcases h.way.2 with ⟨_, e⟩ | ⟨g, cap, cur, e, hb, hg, h1, h2, h3, h4⟩
  · omega
  · cases e
    have hc := h.way.cellAt j (by omega)
    refine ⟨g, 0, _, n, rfl, (Array.getElem?_eq_some_iff.1 hg).1, ?_, rowIs_hasI (h.row j hj).1 (M.cal_length n b j) (fun i hi => by rw [M.cal_at b j hi])⟩
    rw [Nat.zero_add, hc, M.cal_length]
    simp [rcl, hj]
theorem bel_al' {N : Nat} {w : World} {o : Obj} (h : N ≤ w.heap.size) : Below N w (w.alloc o) := (Below.refl N w).alloc h o
theorem infoRw : (Tryd.prog.info? 22).map (fun i => (i.zero, i.size, i.bytes)) = some (some (.slice none 0 0), 1, 24) := by kernel_rfl
set_option maxRecDepth 100000 in
set_option maxHeartbeats 1000000 in
theorem noted_no {O : Nat → Prop} {S n : Nat} {b : M.Bk} (w : World) (h : BV O S n b w) (hn5 : n ≤ 5) (hx : ¬ M.AllN n b) :
    Calls Tryd.prog 11 #[.pointer (some ⟨S, 0, none⟩)] w fun e w' => e = .returned (.tuple #[.slice none 0 0, .slice none 0 0, .bool false]) ∧ Below w.heap.size w w' := by
  have HX : Hid (¬ M.AllN n b) := hx
  clear hx
  go_enter Tryd.func11, Tryd.ntmps11
  go_wp2_with fail
  refine (allNoted_ok w h hn5 false ⟨fun e => absurd e Bool.noConfusion, fun e => absurd e HX.out⟩).mono ?_
  rintro e w1 ⟨rfl, hB⟩
  go_wp2_with fail
  go_ret3
  exact ⟨rfl, hB⟩
set_option maxRecDepth 100000 in
set_option maxHeartbeats 2000000 in
theorem noted_yes {O : Nat → Prop} {S n : Nat} {b : M.Bk} (w : World) (h : BV O S n b w) (hn5 : n ≤ 5) (hx : M.AllN n b) :
    Calls Tryd.prog 11 #[.pointer (some ⟨S, 0, none⟩)] w fun e w' => ∃ p1 c1 p2 c2, e = .returned (.tuple #[.slice p1 n c1, .slice p2 n c2, .bool true]) ∧ HasI (M.nol n b) p1 w' ∧ HasRZ (M.cal n b) n p2 w' ∧ Below w.heap.size w w' := by
  have HX : Hid (M.AllN n b) := hx
  clear hx
  obtain ⟨i0, hi0, hz0, hz1, hz2⟩ := info_parts infoIn
  obtain ⟨i1, hi1, hy0, hy1, hy2⟩ := info_parts infoRw
  have hmk := run_make_row' (P := Tryd.prog) 22 3 (.int .i64 0) 8 Tryd.underlying22 infoIn rfl .i64 .i64 n (by omega) (by omega)
  go_enter Tryd.func11, Tryd.ntmps11
  go_wp2_with fail
  refine (allNoted_ok w h hn5 true ⟨fun _ => HX.out, fun _ => rfl⟩).mono ?_
  rintro e w1 ⟨rfl, hB1⟩
  obtain ⟨Pb, v, h1, _⟩ := h
  have hr1 := h1.below hB1
  have hc1 := hr1.procs
  have H1 : Hid (BVr w1 S Pb v n b) := hr1
  have HB1 : Hid (Below w.heap.size w w1) := hB1
  clear h1 hr1 hB1
  go_wp2_with fail
  go_loopw [2, 3, 17] (fun mv wv v wr => ∃ (k : Nat) (A : Nat → Nat), v = .int .i64 k ∧ k ≤ n ∧ Hid (NI w1.heap.size wr n b k mv wv A) ∧ Below w1.heap.size w1 wr) (fun _ _ v _ => n - (intOf v).toNat)
  case atStart => exact ⟨0, fun _ => 0, rfl, Nat.zero_le _, (⟨World.ownsRow_nil _ _ _ _, World.ownsRow_nil _ _ _ _, fun j hj => absurd hj (Nat.not_lt_zero _)⟩ : NI _ _ _ _ _ _ _ _), Below.refl _ _⟩
  case round =>
    clear hc1
    obtain ⟨k, A, rfl, hk, hN, hB⟩ := hrel
    by_cases hlt : k < n
    · have hr := H1.out.below hB
      have c0 := hr.mo hlt
      have c1 := hr.no hlt
      have c2 := hr.had hlt
      have hP := hr.ltP
      have hS := hr.ltS
      have hpr := hr.procs
      have hki : (k : Int) < n := by omega
      have hno : (if 0 ≤ b.no k then b.no k else 0) = b.no k := if_pos (HX.out.1 k hlt)
      rw [hno] at c2
      obtain ⟨z0, hzz0⟩ : ∃ z, b.mo k = z := ⟨_, rfl⟩
      obtain ⟨z1, hzz1⟩ : ∃ z, decide (0 ≤ b.no k) = z := ⟨_, rfl⟩
      obtain ⟨no, hno'⟩ : ∃ z, b.no k = z := ⟨_, rfl⟩
      rw [hzz0] at c0
      rw [hzz1] at c1
      rw [hno'] at c2
      have HNO : Hid (b.no k = no) := hno'
      clear hr hzz0 hzz1 hno hno'
      obtain ⟨wo, hwo⟩ : ∃ wo, wo = wr := ⟨_, rfl⟩
      subst hwo
      have hsz := hB.size
      have HB : Hid (Below w1.heap.size w1 wo) := hB
      obtain ⟨q1, d1, rfl⟩ := owns_slice hN.out.mon
      obtain ⟨q2, d2, rfl⟩ := owns_slice hN.out.way
      clear hB
      go_wp2_with fail
      obtain ⟨wa, hwa⟩ : ∃ wa, (wo.alloc (.cells #[.int .i64 z0, .bool z1, .int .i64 no] 52)).alloc (.cells (madeCells #[.int .i64 0] n) 3) = wa := ⟨_, rfl⟩
      rw [hwa]
      have hBa : Below wo.heap.size wo wa := by rw [← hwa]; exact bel_al (bel_al (Below.refl _ _) _) _
      have hsa : wa.heap.size = wo.heap.size + 1 + 1 := by rw [← hwa]; simp
      have hRa : wa.rowIs (wo.heap.size + 1) 3 n (fun i => .int .i64 (if i < 0 then b.ca k i else 0)) := by
        rw [← hwa]
        have := World.rowIs_made (wo.alloc (.cells #[.int .i64 z0, .bool z1, .int .i64 no] 52)) (.int .i64 0) n 3
        rw [show (wo.alloc (.cells #[.int .i64 z0, .bool z1, .int .i64 no] 52)).heap.size = wo.heap.size + 1 by simp] at this
        exact this
      have hpa : wa.cell? ⟨wo.heap.size, 2, none⟩ = some (.int .i64 no) := by rw [← hwa]; simp
      clear hwa hpr c0 c1 c2
      go_loopw [33] (fun v wr => ∃ j : Nat, v = .int .i64 j ∧ j ≤ n ∧ wr.rowIs (wo.heap.size + 1) 3 n (fun i => .int .i64 (if i < j then b.ca k i else 0)) ∧ Below (wo.heap.size + 1) wa wr) (fun v _ => n - (intOf v).toNat)
      case atStart => exact ⟨0, rfl, Nat.zero_le _, hRa, Below.refl _ _⟩
      case round =>
        clear hRa hmk
        obtain ⟨j, rfl, hj, hR, hBi⟩ := hrel
        have hBo : Below wo.heap.size wo wr := hBa.trans (hBi.mono (by omega))
        by_cases hltj : j < n
        · have hji : (j : Int) < n := by omega
          have hk5 : (k : Int) < 5 := by omega
          have hj5 : (j : Int) < 5 := by omega
          have hc := ((H1.out.below HB.out).below hBo).came (q := k) (p := j) (by omega) (by omega)
          have hcr := hR.cell (i := j) hltj
          have hfr := hR.frozen j
          have hlr := hR.lt
          have FIN : Hid ((wr.setCell ⟨wo.heap.size + 1, j, none⟩ (.int .i64 (b.ca k j))).rowIs (wo.heap.size + 1) 3 n (fun i => .int .i64 (if i < j + 1 then b.ca k i else 0)) ∧ Below (wo.heap.size + 1) wa (wr.setCell ⟨wo.heap.size + 1, j, none⟩ (.int .i64 (b.ca k j)))) := by
            refine ⟨(hR.set j _).congr (fun i _ => ?_), hBi.setCell (p := ⟨wo.heap.size + 1, j, none⟩) (Nat.le_refl _) _⟩
            by_cases e : i = j
            · subst e; rw [if_pos rfl, if_pos (by omega)]
            · rw [if_neg e]
              by_cases e1 : i < j
              · rw [if_pos e1, if_pos (by omega)]
              · rw [if_neg e1, if_neg (by omega)]
          obtain ⟨ca, hca⟩ : ∃ ca, b.ca k j = ca := ⟨_, rfl⟩
          obtain ⟨old, hold⟩ : ∃ x, (if j < j then b.ca k j else 0) = x := ⟨_, rfl⟩
          rw [hca] at hc FIN
          rw [hold] at hcr
          clear hca hold hR hBi hBo hBa
          go_wp2_with fail
          go_roundw
          case rel => exact ⟨j + 1, by go_num, by omega, FIN.out⟩
          case measure => simp [intOf]; omega
        · obtain rfl : n = j := by omega
          have hpi : wr.cell? ⟨wo.heap.size, 2, none⟩ = some (.int .i64 no) := (hBi.cell (p := ⟨wo.heap.size, 2, none⟩) (show wo.heap.size < wo.heap.size + 1 by omega)).trans hpa
          have hNi : NI w1.heap.size wr n b k (.slice q1 k d1) (.slice q2 k d2) A := hN.out.below hBo
          have hRi : wr.rowIs (wo.heap.size + 1) 3 n (fun i => .int .i64 (b.ca k i)) := hR.congr (fun i hi => by rw [if_pos hi])
          have hna : (Value.slice q1 k d1).ownBlock ≠ some (wo.heap.size + 1) := fun e => by have := (hN.out.mon.lt _ e).2; omega
          have hgw : w1.heap.size ≤ wr.heap.size := by have := hBo.size; omega
          have HN : Hid (NI w1.heap.size wr n b k (.slice q1 k d1) (.slice q2 k d2) A) := hNi
          have HRI : Hid (wr.rowIs (wo.heap.size + 1) 3 n (fun i => .int .i64 (b.ca k i))) := hRi
          have HNA : Hid ((Value.slice q1 k d1).ownBlock ≠ some (wo.heap.size + 1)) := hna
          have HBR : Hid (Below w1.heap.size w1 wr) := bel_on HB.out hBo
          have hlo : wo.heap.size < wr.heap.size := by have := hBi.size; omega
          clear hpa hBi hBo hBa hR hNi hRi hna hN HB
          go_wp2_with (at_builtin; refine wpList_append_lies _ rfl _ _ 22 rfl w1.heap.size 3 i0 (.int .i64 0) 1 8 Tryd.underlying22 hi0 hz0 hz1 hz2 rfl (by decide) (.slice q1 k d1) k (zc (M.nol k b)) rfl (HN.out.mon.alloc _) ⟨wr.heap.size, 0, none⟩ 1 1 [.int .i64 no] rfl rfl (World.news_of_block (cs := #[.int .i64 no]) (t := 3) (fr := (0, 0)) (heap_alloc_new wr _)) (by simp [Value.oneCell']) (by omega) (by unfold maxLen; omega) (by omega) (Nat.le_trans hgw (by simp)) (wr.heap.size + 1) (by simp) ?_)
          intro g1 e1 w4 own1 gr1 at1 lt1
          have hway4 : w4.ownsRow w1.heap.size 22 1 (.slice q2 k d2) k (rcl A n k) := by
            refine owns_blk HN.out.way (fun g hg => ?_)
            have hl := (HN.out.way.lt g hg).2
            exact (gr1.block g (Nat.lt_of_lt_of_le hl (by simp)) (fun e => owns_apart HN.out.way HN.out.mon (by decide) hg e.symm)).trans (Below.heap_alloc wr _ g hl)
          have hg4 : w1.heap.size ≤ w4.heap.size := Nat.le_trans (Nat.le_trans hgw (by simp)) gr1.size
          have OWN1 : Hid _ := own1
          have GR1 : Hid _ := gr1
          have AT1 : Hid _ := at1
          clear own1 gr1 at1 hpi
          go_wp2_with (at_builtin; refine wpList_append_lies _ rfl _ _ 24 rfl w1.heap.size 22 i1 (.slice none 0 0) 1 24 Tryd.underlying24 hi1 hy0 hy1 hy2 rfl (by decide) (.slice q2 k d2) k (rcl A n k) rfl (hway4.alloc _) ⟨w4.heap.size, 0, none⟩ 1 1 [.slice (some ⟨wo.heap.size + 1, 0, none⟩) n n] rfl rfl (World.news_of_block (cs := #[.slice (some ⟨wo.heap.size + 1, 0, none⟩) n n]) (t := 22) (fr := (0, 0)) (heap_alloc_new w4 _)) (by simp [Value.oneCell']) (by omega) (by unfold maxLen; omega) (by omega) (Nat.le_trans hg4 (by simp)) (w4.heap.size + 1) (by simp) ?_)
          intro g2 e2 w5 own2 gr2 at2 lt2
          have G1 : Hid (NI w1.heap.size w5 n b (k + 1) (.slice (some ⟨g1, 0, none⟩) (k + 1) e1) (.slice (some ⟨g2, 0, none⟩) (k + 1) e2) (M.upd1 A k (wo.heap.size + 1))) := HN.out.step HRI.out HNA.out (by rw [HNO.out]; exact OWN1.out) GR1.out AT1.out lt1 own2 gr2
          have G2 : Hid (Below w1.heap.size w1 w5) := ((bel_al HBR.out _).grown GR1.out (Nat.le_trans hgw (by simp)) (fun g e => (HN.out.mon.lt g e).1)).trans ((bel_al' hg4).grown gr2 (Nat.le_trans hg4 (by simp)) (fun g e => (HN.out.way.lt g e).1))
          clear own2 gr2 at2 hway4
          go_wp2_with fail
          go_roundw
          case rel => exact ⟨k + 1, _, by go_num, by omega, G1, G2.out⟩
          case measure => simp [intOf]; omega
    · obtain rfl : n = k := by omega
      obtain ⟨q1, d1, rfl⟩ := owns_slice hN.out.mon
      obtain ⟨q2, d2, rfl⟩ := owns_slice hN.out.way
      obtain ⟨e1, e2⟩ := hN.out.end_
      have G1 : Hid (HasI (M.nol n b) q1 wr) := e1
      have G2 : Hid (HasRZ (M.cal n b) n q2 wr) := e2
      have G3 : Hid (Below w.heap.size w wr) := bel_on HB1.out hB
      clear e1 e2 hN hB
      go_wp2_with fail
      go_ret3
      exact ⟨q1, d1, q2, d2, rfl, G1.out, G2.out, G3.out⟩
end Go.Proofs.YtplplgpfglaajaaDoor
