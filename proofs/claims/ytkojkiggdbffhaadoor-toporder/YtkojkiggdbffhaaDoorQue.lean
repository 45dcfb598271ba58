/- Cuts that were found, each once, in the order in which they were (package queue, at cut.numbers): Add. -/
import Derived.Test.YtkojkiggdbffhaaDoorQky
import Derived.Test.YtkojkiggdbffhaaDoorCt3
import Derived.Test.YtkojkiggdbffhaaDoorBOi
import Derived.Deep.RegionHeldLaw
import Derived.Deep.RegionLaw
import Derived.Deep.AppendLies
import Derived.StillTailTactics
import Derived.Deep.CutRange
namespace Go.Proofs.YtkojkiggdbffhaaDoor
open Go.RowKit

def qcells (L : List (List Nat)) : List Value := L.flatMap icells
theorem qcells_snoc (L : List (List Nat)) (x : List Nat) : qcells (L ++ [x]) = qcells L ++ icells x := by simp [qcells]
/-- Block Q is a queue: the cuts L stand in the row v, and in the set in block B. -/
structure QV (w : World) (Q B base : Nat) (v : Value) (L : List (List Nat)) : Prop where
  blk : Blk w Q #[v, .map (some B)] 81
  row : w.ownsRow base 59 5 v L.length (qcells L)
  kn : Kn L B w
theorem QV.neQB {w : World} {Q B base : Nat} {v : Value} {L : List (List Nat)} (h : QV w Q B base v L) : Q ≠ B := by
  obtain ⟨es, cl, hb⟩ := h.kn.map
  rintro rfl
  have := h.blk
  unfold Blk at this
  rw [hb] at this
  cases this
theorem QV.row_cells {w : World} {Q B base : Nat} {v : Value} {L : List (List Nat)} (h : QV w Q B base v L) {k : Nat} (hk : v.ownBlock = some k) : ∃ cs, w.heap[k]? = some (.cells cs 59 (0, 0)) := by
  rcases h.row.2 with ⟨rfl, _⟩ | ⟨g, cap, cur, rfl, _, hg, _⟩
  · cases hk
  · obtain rfl : g = k := by simpa [Value.ownBlock] using hk
    exact ⟨cur, hg⟩
theorem QV.neQ {w : World} {Q B base : Nat} {v : Value} {L : List (List Nat)} (h : QV w Q B base v L) : v.ownBlock ≠ some Q := fun e => by
  obtain ⟨cs, hc⟩ := h.row_cells e
  have := h.blk
  unfold Blk at this
  rw [hc] at this
  cases this
theorem QV.neB {w : World} {Q B base : Nat} {v : Value} {L : List (List Nat)} (h : QV w Q B base v L) : v.ownBlock ≠ some B := fun e => by
  obtain ⟨cs, hc⟩ := h.row_cells e
  obtain ⟨es, cl, hb⟩ := h.kn.map
  rw [hc] at hb
  cases hb
theorem QV.below {w w' : World} {Q B base : Nat} {v : Value} {L : List (List Nat)} (h : QV w Q B base v L) (hb : Below w.heap.size w w') : QV w' Q B base v L :=
  ⟨h.blk.below hb h.blk.lt, owns_below h.row hb, h.kn.at_ (hb.block _ h.kn.lt)⟩
theorem owns_at {w w' : World} {base n size : Nat} {e : TypeId} {v : Value} {xs : List Value} (h : w.ownsRow base e size v n xs) (hb : ∀ g, v.ownBlock = some g → w'.heap[g]? = w.heap[g]?) : w'.ownsRow base e size v n xs := by
  refine ⟨h.1, ?_⟩
  rcases h.2 with h2 | ⟨g, cap, cur, rfl, h2, h3, h4⟩
  · exact .inl h2
  · exact .inr ⟨g, cap, cur, rfl, h2, (hb g rfl).trans h3, h4⟩
theorem Blk.set0 {W : World} {A : Nat} {a b : Value} {t : TypeId} (h : Blk W A #[a, b] t) (c : Value) : Blk (W.setCell ⟨A, 0, none⟩ c) A #[c, b] t := by
  obtain ⟨hlt, hk⟩ := Array.getElem?_eq_some_iff.1 h
  show (W.heap.modify A _)[A]? = _
  rw [Array.getElem?_eq_getElem (by rw [Array.size_modify]; exact hlt), Array.getElem_modify_self, hk]
  rfl
theorem infoNu : (Tryd.prog.info? 59).map (fun i => (i.zero, i.size, i.bytes)) = some (some (.agg #[.int .i64 0, .int .i64 0, .int .i64 0, .int .i64 0, .int .i64 0]), 5, 40) := by kernel_rfl
/-- All is as it was but for the blocks of R, and new ones. -/
structure Fr (w w' : World) (R : Nat → Prop) : Prop where
  os : w'.os = w.os
  tape : w'.tape = w.tape
  output : w'.output = w.output
  size : w.heap.size ≤ w'.heap.size
  block : ∀ k, k < w.heap.size → ¬ R k → w'.heap[k]? = w.heap[k]?
theorem Fr.below {w w' : World} {R : Nat → Prop} {N : Nat} (h : Fr w w' R) (hN : N ≤ w.heap.size) (hR : ∀ k, k < N → ¬ R k) : Below N w w' :=
  ⟨h.os, h.tape, h.output, h.size, fun k hk => h.block k (by omega) (hR k hk)⟩
theorem bel_put {w w' : World} (h : Below w.heap.size w w') : Below w.heap.size w w'.drew := h.drew
set_option maxRecDepth 100000 in
set_option maxHeartbeats 2000000 in
theorem add_old (Q B base : Nat) (v : Value) (L : List (List Nat)) (x0 x1 x2 x3 x4 : Nat) (w : World) (hq : QV w Q B base v L) (hx : [x0, x1, x2, x3, x4] ∈ L) (h0 : x0 < 4611686018427387904) (h1 : x1 < 4611686018427387904) (h2 : x2 < 4611686018427387904) (h3 : x3 < 4611686018427387904) (h4 : x4 < 4611686018427387904) :
    Calls Tryd.prog 33 #[.pointer (some ⟨Q, 0, none⟩), nuV x0 x1 x2 x3 x4] w fun e w' => (∃ u, e = .returned u) ∧ Below w.heap.size w w' := by
  obtain ⟨w1, hw1⟩ : ∃ w1, w.alloc (.cells #[.int .i64 (x0 : Nat), .int .i64 (x1 : Nat), .int .i64 (x2 : Nat), .int .i64 (x3 : Nat), .int .i64 (x4 : Nat)] 59) = w1 := ⟨_, rfl⟩
  have hb1 : Below w.heap.size w w1 := by rw [← hw1]; exact bel_al (Below.refl _ _) _
  have bx : Blk w1 w.heap.size #[.int .i64 (x0 : Nat), .int .i64 (x1 : Nat), .int .i64 (x2 : Nat), .int .i64 (x3 : Nat), .int .i64 (x4 : Nat)] 59 := by rw [← hw1]; exact Blk.new _ _ _
  have hq1 := hq.below hb1
  have hmk : ∀ x, Below w1.heap.size w1 x → x.cell? ⟨Q, 1, none⟩ = some (.map (some B)) ∧ x.cell? ⟨w.heap.size, 0, none⟩ = some (.int .i64 (x0 : Nat)) ∧ x.cell? ⟨w.heap.size, 1, none⟩ = some (.int .i64 (x1 : Nat)) ∧ x.cell? ⟨w.heap.size, 2, none⟩ = some (.int .i64 (x2 : Nat)) ∧ x.cell? ⟨w.heap.size, 3, none⟩ = some (.int .i64 (x3 : Nat)) ∧ x.cell? ⟨w.heap.size, 4, none⟩ = some (.int .i64 (x4 : Nat)) ∧ (Instr.lookup 79 (.map (some B)) (nuV x0 x1 x2 x3 x4) true).run Tryd.prog x = .ok (.tuple #[.agg #[], .bool true]) x := fun x hbx => by
    have hb2 := bx.below hbx bx.lt
    have hl := kn_look ((hq1.below hbx).kn) h0 h1 h2 h3 h4
    rw [decide_eq_true hx] at hl
    exact ⟨(hq1.below hbx).blk.cell 1, hb2.cell 0, hb2.cell 1, hb2.cell 2, hb2.cell 3, hb2.cell 4, hl⟩
  go_enter Tryd.func33, Tryd.ntmps33
  go_wp2_with fail
  go_region_held3 (fun x => x.cell? ⟨Q, 1, none⟩ = some (.map (some B)) ∧ x.cell? ⟨w.heap.size, 0, none⟩ = some (.int .i64 (x0 : Nat)) ∧ x.cell? ⟨w.heap.size, 1, none⟩ = some (.int .i64 (x1 : Nat)) ∧ x.cell? ⟨w.heap.size, 2, none⟩ = some (.int .i64 (x2 : Nat)) ∧ x.cell? ⟨w.heap.size, 3, none⟩ = some (.int .i64 (x3 : Nat)) ∧ x.cell? ⟨w.heap.size, 4, none⟩ = some (.int .i64 (x4 : Nat)) ∧ (Instr.lookup 79 (.map (some B)) (nuV x0 x1 x2 x3 x4) true).run Tryd.prog x = .ok (.tuple #[.agg #[], .bool true]) x) (exact hmk _ (by repeat first | exact Below.refl _ _ | apply bel_al | apply Below.drew)) (fail)
  all_goals go_wp2_with fail
  all_goals exact bodyPost_ret (results_none rfl _ _ _) rfl ⟨⟨_, rfl⟩, bel_on hb1 ((bel_al (Below.refl _ w1) _).drew)⟩
set_option maxRecDepth 100000 in
set_option maxHeartbeats 2000000 in
theorem add_new (Q B base : Nat) (v : Value) (L : List (List Nat)) (x0 x1 x2 x3 x4 : Nat) (w : World) (hq : QV w Q B base v L) (hx : [x0, x1, x2, x3, x4] ∉ L) (hL : L.length ≤ 16777216) (hbase : base ≤ w.heap.size) (h0 : x0 < 4611686018427387904) (h1 : x1 < 4611686018427387904) (h2 : x2 < 4611686018427387904) (h3 : x3 < 4611686018427387904) (h4 : x4 < 4611686018427387904) :
    Calls Tryd.prog 33 #[.pointer (some ⟨Q, 0, none⟩), nuV x0 x1 x2 x3 x4] w fun e w' => (∃ u, e = .returned u) ∧ ∃ v', QV w' Q B base v' (L ++ [[x0, x1, x2, x3, x4]]) ∧ (v'.ownBlock = v.ownBlock ∨ ∃ g, v'.ownBlock = some g ∧ w.heap.size ≤ g) ∧
      Fr w w' (fun k => k = Q ∨ k = B ∨ v.ownBlock = some k) := by
  obtain ⟨w1, hw1⟩ : ∃ w1, w.alloc (.cells #[.int .i64 (x0 : Nat), .int .i64 (x1 : Nat), .int .i64 (x2 : Nat), .int .i64 (x3 : Nat), .int .i64 (x4 : Nat)] 59) = w1 := ⟨_, rfl⟩
  have hb1 : Below w.heap.size w w1 := by rw [← hw1]; exact bel_al (Below.refl _ _) _
  have bx : Blk w1 w.heap.size #[.int .i64 (x0 : Nat), .int .i64 (x1 : Nat), .int .i64 (x2 : Nat), .int .i64 (x3 : Nat), .int .i64 (x4 : Nat)] 59 := by rw [← hw1]; exact Blk.new _ _ _
  have hq1 := hq.below hb1
  have hmk : ∀ x, Below w1.heap.size w1 x → x.cell? ⟨Q, 1, none⟩ = some (.map (some B)) ∧ x.cell? ⟨w.heap.size, 0, none⟩ = some (.int .i64 (x0 : Nat)) ∧ x.cell? ⟨w.heap.size, 1, none⟩ = some (.int .i64 (x1 : Nat)) ∧ x.cell? ⟨w.heap.size, 2, none⟩ = some (.int .i64 (x2 : Nat)) ∧ x.cell? ⟨w.heap.size, 3, none⟩ = some (.int .i64 (x3 : Nat)) ∧ x.cell? ⟨w.heap.size, 4, none⟩ = some (.int .i64 (x4 : Nat)) ∧ (Instr.lookup 79 (.map (some B)) (nuV x0 x1 x2 x3 x4) true).run Tryd.prog x = .ok (.tuple #[.agg #[], .bool false]) x := fun x hbx => by
    have hb2 := bx.below hbx bx.lt
    have hl := kn_look ((hq1.below hbx).kn) h0 h1 h2 h3 h4
    rw [decide_eq_false hx] at hl
    exact ⟨(hq1.below hbx).blk.cell 1, hb2.cell 0, hb2.cell 1, hb2.cell 2, hb2.cell 3, hb2.cell 4, hl⟩
  go_enter Tryd.func33, Tryd.ntmps33
  go_wp2_with fail
  go_cut [4, 5] from 6 to 14 (fun _ u w' => u = .bool false ∧ Below w1.heap.size w1 w')
  case first =>
    go_region_held3 (fun x => x.cell? ⟨Q, 1, none⟩ = some (.map (some B)) ∧ x.cell? ⟨w.heap.size, 0, none⟩ = some (.int .i64 (x0 : Nat)) ∧ x.cell? ⟨w.heap.size, 1, none⟩ = some (.int .i64 (x1 : Nat)) ∧ x.cell? ⟨w.heap.size, 2, none⟩ = some (.int .i64 (x2 : Nat)) ∧ x.cell? ⟨w.heap.size, 3, none⟩ = some (.int .i64 (x3 : Nat)) ∧ x.cell? ⟨w.heap.size, 4, none⟩ = some (.int .i64 (x4 : Nat)) ∧ (Instr.lookup 79 (.map (some B)) (nuV x0 x1 x2 x3 x4) true).run Tryd.prog x = .ok (.tuple #[.agg #[], .bool false]) x) (exact hmk _ (by repeat first | exact Below.refl _ _ | apply bel_al | apply Below.drew)) (fail)
    all_goals (go_wp2_with fail; go_meet; all_goals exact ⟨rfl, (bel_al (Below.refl _ w1) _).drew⟩)
  case rest =>
    obtain ⟨rfl, hBc⟩ := hcut
    clear hmk
    have hqc := hq1.below hBc
    have bc := bx.below hBc bx.lt
    have q1 := hqc.blk.cell 1
    have c0 := bc.cell 0
    have c1 := bc.cell 1
    have c2 := bc.cell 2
    have c3 := bc.cell 3
    have c4 := bc.cell 4
    have hkd : Kn L B wc.drew := hqc.kn
    obtain ⟨w2, hst, hk2, hg2⟩ := kn_store hkd (by unfold maxLen; omega) h0 h1 h2 h3 h4
    go_wp2_with fail
    go_still_tail 6, (by kernel_rfl)
    have bq2 : Blk w2 Q #[v, .map (some B)] 81 := (hg2.block Q hqc.blk.lt (fun e => hqc.neQB (Option.some.inj e))).trans hqc.blk
    have bx2 : Blk w2 w.heap.size #[.int .i64 (x0 : Nat), .int .i64 (x1 : Nat), .int .i64 (x2 : Nat), .int .i64 (x3 : Nat), .int .i64 (x4 : Nat)] 59 := (hg2.block w.heap.size bc.lt (fun e => by have := hq.kn.lt; have := Option.some.inj e; omega)).trans bc
    have hr2 : w2.ownsRow base 59 5 v L.length (qcells L) := owns_at hqc.row (fun g e => hg2.block g (Nat.lt_of_lt_of_le (hqc.row.lt g e).2 (Nat.le_refl _)) (fun e2 => hqc.neB (e.trans e2)))
    have sz1 : w.heap.size < w1.heap.size := bx.lt
    have sz2 := hBc.size
    have sz3 : wc.heap.size ≤ w2.heap.size := hg2.size
    have hneQ := hqc.neQ
    have hneB := hqc.neB
    have hQB := hqc.neQB
    obtain ⟨i0, hi0, hz0, hz1, hz2⟩ := info_parts infoNu
    go_wp2_with fail
    clear q1 c0 c1 c2 c3 c4
    have q0 := bq2.cell 0
    have q1 := bq2.cell 1
    have ql := bq2.lt
    have c0 := bx2.cell 0
    have c1 := bx2.cell 1
    have c2 := bx2.cell 2
    have c3 := bx2.cell 3
    have c4 := bx2.cell 4
    have cl := bx2.lt
    have FIN : Hid (∀ g cap w5, w5.ownsRow base 59 5 (.slice (some ⟨g, 0, none⟩) (L.length + 1) cap) (L.length + 1) (qcells L ++ [.int .i64 (x0 : Nat), .int .i64 (x1 : Nat), .int .i64 (x2 : Nat), .int .i64 (x3 : Nat), .int .i64 (x4 : Nat)]) → (w2.alloc (.cells #[.int .i64 (x0 : Nat), .int .i64 (x1 : Nat), .int .i64 (x2 : Nat), .int .i64 (x3 : Nat), .int .i64 (x4 : Nat)] 59)).drew.grownBy w5 v.ownBlock → (v.ownBlock = some g ∨ g = w2.heap.size + 1) → g < w5.heap.size → Blk w5 Q #[v, .map (some B)] 81 →
        ∃ v', QV (w5.setCell ⟨Q, 0, none⟩ (.slice (some ⟨g, 0, none⟩) (L.length + 1) cap)) Q B base v' (L ++ [[x0, x1, x2, x3, x4]]) ∧ (v'.ownBlock = v.ownBlock ∨ ∃ g, v'.ownBlock = some g ∧ w.heap.size ≤ g) ∧
        Fr w (w5.setCell ⟨Q, 0, none⟩ (.slice (some ⟨g, 0, none⟩) (L.length + 1) cap)) (fun k => k = Q ∨ k = B ∨ v.ownBlock = some k)) := by
      intro g cap w5 hown hgrow hat hlt bq5
      have hsz : w2.heap.size < w5.heap.size := Nat.lt_of_lt_of_le (by simp) hgrow.size
      have hk : ∀ k, k < w2.heap.size → v.ownBlock ≠ some k → w5.heap[k]? = w2.heap[k]? := fun k hk hne =>
        (hgrow.block k (Nat.lt_of_lt_of_le hk (by simp)) (Ne.symm hne)).trans (Below.heap_alloc w2 _ k hk)
      have hgQ : g ≠ Q := fun e => by
        rcases hat with h | h
        · exact hneQ (by rw [h, e])
        · have := bq2.lt; omega
      refine ⟨_, ⟨bq5.set0 _, ?_, ?_⟩, ?_, hgrow.os.trans (hg2.os.trans (hBc.os.trans hb1.os)), hgrow.tape.trans (hg2.tape.trans (hBc.tape.trans hb1.tape)), hgrow.output.trans (hg2.output.trans (hBc.output.trans hb1.output)), ?_, ?_⟩
      · rw [qcells_snoc, List.length_append]
        exact owns_at hown (fun g' e => Below.heap_setCell _ _ _ _ (by obtain rfl : g = g' := by simpa [Value.ownBlock] using e
                                                                       exact hgQ))
      · exact hk2.at_ ((Below.heap_setCell _ _ _ _ (Ne.symm hQB)).trans (hk B hk2.lt hneB))
      · rcases hat with h | h
        · exact .inl h.symm
        · exact .inr ⟨g, rfl, by omega⟩
      · rw [World.size_setCell]; omega
      · intro k hkw hkR
        have hkQ : k ≠ Q := fun e => hkR (.inl e)
        have hkB : k ≠ B := fun e => hkR (.inr (.inl e))
        have hkv : v.ownBlock ≠ some k := fun e => hkR (.inr (.inr e))
        refine (Below.heap_setCell _ _ _ _ hkQ).trans ((hk k (by omega) hkv).trans ((hg2.block k (by show k < wc.heap.size; omega) (fun e => hkB (Option.some.inj e))).trans ?_))
        exact (hBc.block k (by omega)).trans (hb1.block k hkw)
    clear hst
    go_region_law (refine step_append_lies _ (by rfl) _ _ _ (by rfl) base 59 i0 _ 5 40 Tryd.underlying78 hi0 hz0 hz1 hz2 rfl (by omega) v L.length (qcells L) (by rfl) ((hr2.alloc _).drew) ⟨w2.heap.size, 0, none⟩ 1 1 [.int .i64 (x0 : Nat), .int .i64 (x1 : Nat), .int .i64 (x2 : Nat), .int .i64 (x3 : Nat), .int .i64 (x4 : Nat)] (by rfl) (by rfl) (World.news_of_block (cs := #[.int .i64 (x0 : Nat), .int .i64 (x1 : Nat), .int .i64 (x2 : Nat), .int .i64 (x3 : Nat), .int .i64 (x4 : Nat)]) (t := 59) (fr := (0, 0)) (heap_alloc_new w2 _)) (by simp [Value.oneCell']) (by omega) (by unfold maxLen; omega) (by omega) (by simp; omega) (w2.heap.size + 1) (by simp) ?_; intro g cap w5 hown5 hgrow5 hat5 hlt5; have bq5 : Blk w5 Q #[v, .map (some B)] 81 := (hgrow5.block Q (Nat.lt_of_lt_of_le ql (by simp)) (Ne.symm hneQ)).trans (bq2.alloc _); have q05 := bq5.cell 0; have f05 := bq5.frozen 0)
    all_goals go_end0
    all_goals exact ⟨⟨_, rfl⟩, FIN.out _ _ _ hown5 hgrow5 hat5 hlt5 bq5⟩
end Go.Proofs.YtkojkiggdbffhaaDoor
