/- A gate in memory (package prior, Gate): its one block, and that of what was done; what an act changes in it; what always holds of a gate. No walk. Did a greater one read or write an item (package prior, greaterDid; package slices, ContainsFunc, IndexFunc, at acts)? Does an act come too late, and what is wrong with it whatever others did (package prior, isTooLate, check)? -/
import Derived.Test.YtlkdclifcmohlaaDoorBWl
import Derived.Test.YtlkdclifcmohlaaDoorLo0
import Derived.Test.YtlkdclifcmohlaaDoorSc1
import Derived.WalkMore
import Derived.BigQuiet
namespace Go.Proofs.YtlkdclifcmohlaaDoor
open Go.RowKit
namespace M
/-- what always holds of a gate, and within which bounds -/
structure GG (s : Gt) : Prop where
  gi : GI s.ac
  dd : s.dead < 32
  len : s.ac.length ≤ 24
  acs : ∀ a, a ∈ s.ac → a.tx < 5 ∧ a.it < 4 ∧ a.wr < 2
theorem GG.zero : GG gt0 := ⟨GI.zero, by decide, Nat.zero_le _, fun _ h => absurd h (List.not_mem_nil)⟩
theorem GG.aok {s : Gt} (h : GG s) : AOk s.ac := aok_of h.len h.acs
/-! ### what an act leaves -/
def pStop (s : Gt) (t : Nat) : Gt := ⟨s.dead ||| 2 ^ t, s.ac⟩
def pDid (s : Gt) (a : SAct) : Gt := ⟨s.dead, s.ac ++ [a]⟩
/-- does an act come too late? -/
def lateB (sk : Bool) (s : Gt) (a : SAct) : Bool := (a.wr == 0 && grW s a.tx a.it) || (a.wr == 1 && grR s a.tx a.it) || (a.wr == 1 && grW s a.tx a.it && !sk)
theorem gt_dead {sk : Bool} {s : Gt} {a : SAct} (h : s.dead.testBit a.tx = true) : gtDo sk s a = (s, false, 7) := by unfold gtDo; rw [if_pos h]
theorem gt_full {sk : Bool} {s : Gt} {a : SAct} (h : s.dead.testBit a.tx = false) (hl : 24 ≤ s.ac.length) : gtDo sk s a = (s, false, 4) := by unfold gtDo; rw [if_neg (by rw [h]; simp), if_pos hl]
theorem gt_late {sk : Bool} {s : Gt} {a : SAct} (h : s.dead.testBit a.tx = false) (hl : ¬ 24 ≤ s.ac.length) (hb : lateB sk s a = true) : gtDo sk s a = (pStop s a.tx, false, 6) := by
  unfold gtDo; rw [if_neg (by rw [h]; simp), if_neg hl]
  exact if_pos hb
theorem gt_skip {sk : Bool} {s : Gt} {a : SAct} (h : s.dead.testBit a.tx = false) (hl : ¬ 24 ≤ s.ac.length) (hb : lateB sk s a = false) (hw : a.wr = 1) (hg : grW s a.tx a.it = true) : gtDo sk s a = (s, false, 0) := by
  unfold gtDo; rw [if_neg (by rw [h]; simp), if_neg hl]
  refine (if_neg (fun e => ?_)).trans (if_pos (by rw [hg, hw]; rfl))
  have e2 : lateB sk s a = true := e
  rw [hb] at e2; cases e2
theorem gt_did {sk : Bool} {s : Gt} {a : SAct} (h : s.dead.testBit a.tx = false) (hl : ¬ 24 ≤ s.ac.length) (hb : lateB sk s a = false) (hg : grW s a.tx a.it = false) : gtDo sk s a = (pDid s a, true, 0) := by
  unfold gtDo; rw [if_neg (by rw [h]; simp), if_neg hl]
  refine (if_neg (fun e => ?_)).trans (if_neg (by rw [hg]; simp))
  have e2 : lateB sk s a = true := e
  rw [hb] at e2; cases e2
theorem GG.stop {s : Gt} (h : GG s) {t : Nat} (ht : t < 5) : GG (pStop s t) := ⟨h.gi, Nat.or_lt_two_pow (n := 5) h.dd (Nat.pow_lt_pow_right (by omega) ht), h.len, h.acs⟩
theorem GG.step {s : Gt} (h : GG s) (sk : Bool) {a : SAct} (ha : a.tx < 5 ∧ a.it < 4 ∧ a.wr < 2) : GG (gtDo sk s a).1 := by
  have hg := h.gi.step sk (a := a) (by omega)
  cases c1 : s.dead.testBit a.tx with
  | true => rw [gt_dead c1]; exact h
  | false =>
  by_cases c2 : 24 ≤ s.ac.length
  · rw [gt_full c1 c2]; exact h
  cases c3 : lateB sk s a with
  | true => rw [gt_late c1 c2 c3]; exact h.stop ha.1
  | false =>
  cases c4 : grW s a.tx a.it with
  | false =>
    rw [gt_did c1 c2 c3 c4] at hg ⊢
    refine ⟨hg, h.dd, ?_, fun b hb => ?_⟩
    · show (s.ac ++ [a]).length ≤ 24
      rw [List.length_append, List.length_singleton]; omega
    · rcases List.mem_append.1 hb with e | e
      · exact h.acs b e
      · rw [List.mem_singleton.1 e]; exact ha
  | true =>
    have hw : a.wr = 1 := by
      have : a.wr = 0 ∨ a.wr = 1 := by omega
      rcases this with e | e
      · have h2 : lateB sk s a = true := by unfold lateB; rw [c4, e]; rfl
        rw [c3] at h2; cases h2
      · exact e
    rw [gt_skip c1 c2 c3 hw c4]; exact h
end M
/-- an act of whole numbers: the gate behind it, whether it was done, what is wrong -/
def gtZ (sk : Bool) (s : M.Gt) (o : Az) : M.Gt × Bool × Nat := if aIn o = true then M.gtDo sk s o.n else (s, false, 1)
theorem aIn_parts {o : Az} (h : aIn o = true) : o = azN o.n ∧ o.n.tx < 5 ∧ o.n.it < 4 ∧ o.n.wr < 2 := by
  unfold aIn thingZ at h
  simp only [Bool.and_eq_true, decide_eq_true_eq] at h
  obtain ⟨t, i, x⟩ := o
  unfold Az.n azN
  simp only at h ⊢
  refine ⟨?_, by omega, by omega, by omega⟩
  rw [Az.mk.injEq]
  omega
theorem M.GG.z {s : M.Gt} (h : M.GG s) (sk : Bool) (o : Az) : M.GG (gtZ sk s o).1 := by
  unfold gtZ
  by_cases e : aIn o = true
  · rw [if_pos e]; exact h.step sk (aIn_parts e).2
  · rw [if_neg e]; exact h
/-! ### in memory -/
/-- Cell k of a gate: does it skip; what was done; who was stopped. -/
def gcF (sk : Bool) (d : Nat) (v : Value) (k : Nat) : Value := if k = 0 then .bool sk else if k = 1 then v else .int .i64 (d : Nat)
structure GVr (w : World) (S : Nat) (sk : Bool) (s : M.Gt) (v : Value) : Prop where
  blk : w.rowIs S 56 3 (gcF sk s.dead v)
  act : w.ownsRow 0 31 3 v s.ac.length (acells s.ac)
/-- A gate, both of whose blocks are in O. -/
def GV (O : Nat → Prop) (S : Nat) (sk : Bool) (s : M.Gt) (w : World) : Prop := ∃ v, GVr w S sk s v ∧ O S ∧ ∀ g, v.ownBlock = some g → O g
section
variable {w w' : World} {S : Nat} {sk : Bool} {s : M.Gt} {v : Value}
theorem GVr.lt (h : GVr w S sk s v) : S < w.heap.size := h.blk.lt
theorem GVr.c0 (h : GVr w S sk s v) : w.cell? ⟨S, 0, none⟩ = some (.bool sk) := h.blk.cell (i := 0) (by omega)
theorem GVr.c1 (h : GVr w S sk s v) : w.cell? ⟨S, 1, none⟩ = some v := h.blk.cell (i := 1) (by omega)
theorem GVr.c2 (h : GVr w S sk s v) : w.cell? ⟨S, 2, none⟩ = some (.int .i64 (s.dead : Nat)) := h.blk.cell (i := 2) (by omega)
theorem GVr.neS (h : GVr w S sk s v) : v.ownBlock ≠ some S := rowIs_owns h.blk h.act (by decide)
theorem GVr.at_ (h : GVr w S sk s v) (hb : ∀ k, k < w.heap.size → (k = S ∨ v.ownBlock = some k) → w'.heap[k]? = w.heap[k]?) : GVr w' S sk s v :=
  ⟨h.blk.of_block (hb S h.lt (.inl rfl)), owns_blk h.act (fun g hg => hb g (h.act.lt g hg).2 (.inr hg))⟩
theorem GVr.below (h : GVr w S sk s v) (hb : Below w.heap.size w w') : GVr w' S sk s v := h.at_ (fun k hk _ => hb.block k hk)
/-- one more is stopped -/
theorem GVr.stop (h : GVr w S sk s v) (t : Nat) : GVr (w.setCell ⟨S, 2, none⟩ (.int .i64 (s.dead ||| 2 ^ t : Nat))) S sk (M.pStop s t) v := by
  refine ⟨(h.blk.set 2 _).congr (fun i hi => ?_), owns_blk h.act (fun g hg => Below.heap_setCell _ _ _ _ (fun x => h.neS (hg.trans (congrArg some x))))⟩
  have : i = 0 ∨ i = 1 ∨ i = 2 := by omega
  rcases this with rfl | rfl | rfl <;> rfl
/-- what was done is stored anew: it lies in its own block, or in a new one -/
theorem GVr.did {w1 : World} {s' : M.Gt} {u : Value} (h : GVr w S sk s v) (hd : s'.dead = s.dead) (hgr : ∀ k, k < w.heap.size → v.ownBlock ≠ some k → w1.heap[k]? = w.heap[k]?) (hown : w1.ownsRow 0 31 3 u s'.ac.length (acells s'.ac)) : GVr (w1.setCell ⟨S, 1, none⟩ u) S sk s' u := by
  have hb1 := h.blk.of_block (w' := w1) (hgr S h.lt h.neS)
  have hu : u.ownBlock ≠ some S := rowIs_owns hb1 hown (by decide)
  refine ⟨(World.rowIs.set hb1 _ _).congr fun i hi => ?_, owns_blk hown (fun g hg => Below.heap_setCell _ _ _ _ (fun x => hu (hg.trans (congrArg some x))))⟩
  rw [hd]
  have : i = 0 ∨ i = 1 ∨ i = 2 := by omega
  rcases this with rfl | rfl | rfl <;> rfl
variable {O : Nat → Prop}
theorem GV.below (h : GV O S sk s w) (hb : Below w.heap.size w w') : GV O S sk s w' := by
  obtain ⟨v, h1, h2⟩ := h
  exact ⟨v, h1.below hb, h2⟩
theorem GV.mono {O' : Nat → Prop} (h : GV O S sk s w) (e : ∀ k, k < w.heap.size → O k → O' k) : GV O' S sk s w := by
  obtain ⟨v, h1, h2, h3⟩ := h
  exact ⟨v, h1, e S h1.lt h2, fun g hg => e g (h1.act.lt g hg).2 (h3 g hg)⟩
theorem GV.frm {O' : Nat → Prop} (h : GV O S sk s w) (hf : Frm O' w w') (e : ∀ k, O k → ¬ O' k) : GV O S sk s w' := by
  obtain ⟨v, h1, h2, h3⟩ := h
  refine ⟨v, h1.at_ (fun k hk hh => hf.block k hk ?_), h2, h3⟩
  rcases hh with rfl | hh
  · exact e _ h2
  · exact e _ (h3 _ hh)
theorem GV.heap (h : GV O S sk s w) (e : w'.heap = w.heap) : GV O S sk s w' := by
  obtain ⟨v, h1, h2⟩ := h
  exact ⟨v, h1.at_ (fun k _ _ => by rw [e]), h2⟩
theorem GV.lt (h : GV O S sk s w) : S < w.heap.size := by obtain ⟨v, h1, _⟩ := h; exact h1.lt
theorem GV.own (h : GV O S sk s w) : O S := by obtain ⟨v, h1, h2, _⟩ := h; exact h2
end
theorem gv_new (w : World) (sk : Bool) : GVr (w.alloc (.cells #[.bool sk, .slice none 0 0, .int .i64 0] 56)) w.heap.size sk M.gt0 (.slice none 0 0) := by
  refine ⟨World.rowIs_alloc w #[.bool sk, .slice none 0 0, .int .i64 0] _ _ (fun i hi => ?_), World.ownsRow_nil _ _ _ _⟩
  have hi' : i < 3 := hi
  have : i = 0 ∨ i = 1 ∨ i = 2 := by omega
  rcases this with rfl | rfl | rfl <;> rfl
/-! ### a greater one, in whole numbers -/
def grZ (zs : List Az) (a : Az) (x : Int) : Bool := zs.any fun b => decide (a.tx < b.tx) && b.it == a.it && b.wt == x
theorem grZ_R (s : M.Gt) (a : M.SAct) : grZ (az s.ac) (azN a) 0 = M.grR s a.tx a.it := by
  rw [Bool.eq_iff_iff]
  unfold grZ M.grR
  rw [List.any_eq_true, List.any_eq_true]
  constructor
  · rintro ⟨b, hb, h⟩
    unfold az at hb
    obtain ⟨c, hc, rfl⟩ := List.mem_map.1 hb
    refine ⟨c, hc, ?_⟩
    unfold azN at h
    simp only [Bool.and_eq_true, decide_eq_true_eq, beq_iff_eq] at h ⊢
    omega
  · rintro ⟨c, hc, h⟩
    refine ⟨azN c, List.mem_map.2 ⟨c, hc, rfl⟩, ?_⟩
    unfold azN
    simp only [Bool.and_eq_true, decide_eq_true_eq, beq_iff_eq] at h ⊢
    omega
theorem grZ_W (s : M.Gt) (a : M.SAct) : grZ (az s.ac) (azN a) 1 = M.grW s a.tx a.it := by
  rw [Bool.eq_iff_iff]
  unfold grZ M.grW
  rw [List.any_eq_true, List.any_eq_true]
  constructor
  · rintro ⟨b, hb, h⟩
    unfold az at hb
    obtain ⟨c, hc, rfl⟩ := List.mem_map.1 hb
    refine ⟨c, hc, ?_⟩
    unfold azN at h
    simp only [Bool.and_eq_true, decide_eq_true_eq, beq_iff_eq] at h ⊢
    omega
  · rintro ⟨c, hc, h⟩
    refine ⟨azN c, List.mem_map.2 ⟨c, hc, rfl⟩, ?_⟩
    unfold azN
    simp only [Bool.and_eq_true, decide_eq_true_eq, beq_iff_eq] at h ⊢
    omega
end Go.Proofs.YtlkdclifcmohlaaDoor
namespace Go.Proofs.YtlkdclifcmohlaaDoor
open Go.RowKit
set_option maxRecDepth 100000 in
set_option maxHeartbeats 1000000 in
theorem gpred_ok (a b : Az) (x : Int) (A X : Nat) (w : World) (h0 : w.cell? ⟨A, 0, none⟩ = some (.int .i64 a.tx)) (h1 : w.cell? ⟨A, 1, none⟩ = some (.int .i64 a.it)) (h2 : w.cell? ⟨X, 0, none⟩ = some (.int .i64 x)) :
    Calls Tryd.prog 38 #[acV b, .pointer (some ⟨A, 0, none⟩), .pointer (some ⟨X, 0, none⟩)] w fun e w' => e = .returned (.bool (decide (a.tx < b.tx) && b.it == a.it && b.wt == x)) ∧ Below w.heap.size w w' := by
  have hB : Hid (Below w.heap.size w (w.alloc (.cells #[.int .i64 b.tx, .int .i64 b.it, .int .i64 b.wt] 31))) := bel_al (Below.refl _ _) _
  have lA := World.block_lt_of_cell? _ _ h0
  have lX := World.block_lt_of_cell? _ _ h2
  simp only at lA lX
  cases e1 : decide (a.tx < b.tx) with
  | false =>
    go_enter Tryd.func38, Tryd.ntmps38
    go_wp2_with fail
    go_ret
    exact ⟨rfl, hB.out⟩
  | true =>
  cases e2 : (b.it == a.it) with
  | false =>
    go_enter Tryd.func38, Tryd.ntmps38
    go_wp2_with fail
    go_ret
    exact ⟨rfl, hB.out⟩
  | true =>
  cases e3 : (b.wt == x) with
  | false =>
    go_enter Tryd.func38, Tryd.ntmps38
    go_wp2_with fail
    go_ret
    exact ⟨rfl, hB.out⟩
  | true =>
    go_enter Tryd.func38, Tryd.ntmps38
    go_wp2_with fail
    go_ret
    exact ⟨rfl, hB.out⟩
theorem grZ_hit {zs : List Az} {a : Az} {x : Int} {i : Nat} (hi : i < zs.length) (h : (decide (a.tx < (aAt zs i).tx) && (aAt zs i).it == a.it && (aAt zs i).wt == x) = true) : grZ zs a x = true := by
  unfold grZ
  rw [List.any_eq_true]
  refine ⟨_, List.getElem_mem hi, ?_⟩
  rwa [aAt_in hi] at h
theorem grZ_no {zs : List Az} {a : Az} {x : Int} (h : ∀ i, i < zs.length → (decide (a.tx < (aAt zs i).tx) && (aAt zs i).it == a.it && (aAt zs i).wt == x) = false) : grZ zs a x = false := by
  unfold grZ
  rw [List.any_eq_false]
  intro b hb
  obtain ⟨i, hi, rfl⟩ := List.getElem_of_mem hb
  have := h i hi
  rw [aAt_in hi] at this
  rw [this]; simp
set_option maxRecDepth 100000 in
set_option maxHeartbeats 1000000 in
theorem aindex_ok (zs : List Az) (a : Az) (x : Int) (A X : Nat) (p : Option Addr) (n cap : Nat) (w : World) (hl : zs.length = n) (hmax : n ≤ maxLen) (hc : HasAc zs p w) (h0 : w.cell? ⟨A, 0, none⟩ = some (.int .i64 a.tx)) (h1 : w.cell? ⟨A, 1, none⟩ = some (.int .i64 a.it)) (h2 : w.cell? ⟨X, 0, none⟩ = some (.int .i64 x)) :
    Calls Tryd.prog 47 #[.slice p n cap, .func (.func 38) #[] #[.pointer (some ⟨A, 0, none⟩), .pointer (some ⟨X, 0, none⟩)]] w fun e w' => ∃ z : Int, e = .returned (.int .i64 z) ∧ decide (0 ≤ z) = grZ zs a x ∧ Below w.heap.size w w' := by
  unfold maxLen at hmax
  have lA := World.block_lt_of_cell? _ _ h0
  have lX := World.block_lt_of_cell? _ _ h2
  simp only at lA lX
  have HP : Hid (∀ (b : Az) w', Below w.heap.size w w' → Calls Tryd.prog 38 #[acV b, .pointer (some ⟨A, 0, none⟩), .pointer (some ⟨X, 0, none⟩)] w' fun e w'' => e = .returned (.bool (decide (a.tx < b.tx) && b.it == a.it && b.wt == x)) ∧ Below w'.heap.size w' w'') := fun b w' hb =>
    gpred_ok a b x A X w' ((hb.cell (p := ⟨A, 0, none⟩) lA).trans h0) ((hb.cell (p := ⟨A, 1, none⟩) lA).trans h1) ((hb.cell (p := ⟨X, 0, none⟩) lX).trans h2)
  have HC : Hid (HasAc zs p w) := hc
  clear h0 h1 h2 hc
  go_enter Tryd.func47, Tryd.ntmps47
  go_wp2_with fail
  go_loopw [5, 8] (fun _ v wr => ∃ k : Nat, v = .int .i64 (k : Nat) ∧ k ≤ n ∧ Hid (∀ j, j < k → (decide (a.tx < (aAt zs j).tx) && (aAt zs j).it == a.it && (aAt zs j).wt == x) = false) ∧ Hid (Below w.heap.size w wr)) (fun _ v _ => n - (intOf v).toNat)
  case atStart => exact ⟨0, rfl, Nat.zero_le _, fun j h => absurd h (Nat.not_lt_zero _), Below.refl _ _⟩
  case round =>
    obtain ⟨k, rfl, hk, hz, hB⟩ := hrel
    by_cases hlt : k < n
    · obtain ⟨b, off, rfl, hop⟩ := (HC.out.later hB.out) k (by omega)
      obtain ⟨o, ho⟩ : ∃ o, aAt zs k = o := ⟨_, rfl⟩
      rw [ho] at hop
      have HO : Hid (aAt zs k = o) := ho
      obtain ⟨hb, k0, k1, k2⟩ := hop
      have hin : (k : Int) < (n : Int) := by omega
      have hcall := HP.out o wr hB.out
      have HE : Hid ((decide (a.tx < (aAt zs k).tx) && (aAt zs k).it == a.it && (aAt zs k).wt == x) = (decide (a.tx < o.tx) && o.it == a.it && o.wt == x)) := by show _ = _; rw [HO.out]
      obtain ⟨q, hq⟩ : ∃ q, (decide (a.tx < o.tx) && o.it == a.it && o.wt == x) = q := ⟨_, rfl⟩
      rw [hq] at hcall HE
      clear ho hq
      cases q with
      | true =>
        have HG : Hid (grZ zs a x = true) := grZ_hit (i := k) (by omega) HE.out
        go_wp2_with fail
        refine hcall.mono ?_
        rintro e w2 ⟨rfl, hB2⟩
        have hC : Hid (Below w.heap.size w w2) := bel_on hB.out hB2
        clear hcall hB2
        go_wp2_with fail
        go_ret
        exact ⟨k, rfl, by rw [HG.out, decide_eq_true_eq]; omega, hC.out⟩
      | false =>
        have HN : Hid (∀ j, j < k + 1 → (decide (a.tx < (aAt zs j).tx) && (aAt zs j).it == a.it && (aAt zs j).wt == x) = false) := fun j hj => by
          by_cases e : j = k
          · rw [e]; exact HE.out
          · exact hz.out j (by omega)
        go_wp2_with fail
        refine hcall.mono ?_
        rintro e w2 ⟨rfl, hB2⟩
        have hC : Hid (Below w.heap.size w w2) := bel_on hB.out hB2
        clear hcall hB2
        go_wp2_with fail
        go_roundw
        case rel => exact ⟨k + 1, by go_num, by omega, HN, hC⟩
        case measure => simp [intOf]; omega
    · obtain rfl : n = k := by omega
      have HG : Hid (grZ zs a x = false) := grZ_no (fun i hi => hz.out i (by omega))
      go_wp2_with fail
      go_ret
      exact ⟨-1, rfl, by rw [HG.out]; rfl, hB.out⟩
set_option maxRecDepth 100000 in
set_option maxHeartbeats 1000000 in
theorem acontains_ok (zs : List Az) (a : Az) (x : Int) (A X : Nat) (p : Option Addr) (n cap : Nat) (w : World) (hl : zs.length = n) (hmax : n ≤ maxLen) (hc : HasAc zs p w) (h0 : w.cell? ⟨A, 0, none⟩ = some (.int .i64 a.tx)) (h1 : w.cell? ⟨A, 1, none⟩ = some (.int .i64 a.it)) (h2 : w.cell? ⟨X, 0, none⟩ = some (.int .i64 x)) :
    Calls Tryd.prog 37 #[.slice p n cap, .func (.func 38) #[] #[.pointer (some ⟨A, 0, none⟩), .pointer (some ⟨X, 0, none⟩)]] w fun e w' => e = .returned (.bool (grZ zs a x)) ∧ Below w.heap.size w w' := by
  have hi := aindex_ok zs a x A X p n cap w hl hmax hc h0 h1 h2
  clear h0 h1 h2 hc hl
  go_enter Tryd.func37, Tryd.ntmps37
  go_wp2_with fail
  refine hi.mono ?_
  rintro e w2 ⟨z, rfl, hz, hB2⟩
  have HZ : Hid (decide (0 ≤ z) = grZ zs a x ∧ Below w.heap.size w w2) := ⟨hz, hB2⟩
  clear hi hz hB2
  go_wp2
  go_ret
  exact ⟨bool_ret HZ.out.1, HZ.out.2⟩
set_option maxRecDepth 100000 in
set_option maxHeartbeats 1000000 in
theorem greater_ok {S : Nat} {sk : Bool} {s : M.Gt} {v : Value} (a : Az) (x : Int) (w : World) (h : GVr w S sk s v) (hG : M.GG s) :
    Calls Tryd.prog 23 #[.pointer (some ⟨S, 0, none⟩), acV a, .int .i64 x] w fun e w' => e = .returned (.bool (grZ (az s.ac) a x)) ∧ Below w.heap.size w w' := by
  have c1 := h.c1
  obtain ⟨ad, c0, rfl, hcc⟩ := owns_capA h.act
  have hh := hasAc_of_owns rfl h.act
  have lS := h.lt
  have hl24 := hG.len
  have hcall := fun w' A X (hb : Below w.heap.size w w') => acontains_ok (az s.ac) a x A X ad s.ac.length c0 w' (az_len _) (by unfold maxLen; omega) (hh.later hb)
  obtain ⟨L, hL⟩ : ∃ L, s.ac.length = L := ⟨_, rfl⟩
  rw [hL] at hcall c1
  have B1 : Below w.heap.size w ((w.alloc (.cells #[.int .i64 a.tx, .int .i64 a.it, .int .i64 a.wt] 31)).alloc (.cells #[.int .i64 x] 3)) := bel_al (bel_al (Below.refl _ _) _) _
  have hca := hcall _ w.heap.size (w.heap.size + 1) B1 (by simp) (by simp) (by simp)
  have HB : Hid (Below w.heap.size w ((w.alloc (.cells #[.int .i64 a.tx, .int .i64 a.it, .int .i64 a.wt] 31)).alloc (.cells #[.int .i64 x] 3))) := B1
  clear hcall hh h hL B1 hl24
  go_enter Tryd.func23, Tryd.ntmps23
  go_wp2_with fail
  refine hca.mono ?_
  rintro e w2 ⟨rfl, hB2⟩
  have FB : Hid (Below w.heap.size w w2) := bel_on HB.out hB2
  clear hca hB2 HB
  go_wp2_with fail
  go_ret
  exact ⟨rfl, FB.out⟩
end Go.Proofs.YtlkdclifcmohlaaDoor
namespace Go.Proofs.YtlkdclifcmohlaaDoor
open Go.RowKit
set_option maxRecDepth 100000 in
set_option maxHeartbeats 2000000 in
theorem late_ok {S : Nat} {sk : Bool} {s : M.Gt} {v : Value} (t o x : Nat) (w : World) (h : GVr w S sk s v) (hG : M.GG s) (ha : x < 2) :
    Calls Tryd.prog 22 #[.pointer (some ⟨S, 0, none⟩), acV ⟨(t : Nat), (o : Nat), (x : Nat)⟩] w fun e w' => e = .returned (.bool (M.lateB sk s ⟨t, o, x⟩)) ∧ Below w.heap.size w w' := by
  have HV : Hid (GVr w S sk s v ∧ M.GG s) := ⟨h, hG⟩
  have hg1 := fun w' (hb : Below w.heap.size w w') => greater_ok (azN ⟨t, o, x⟩) 1 w' (HV.out.1.below hb) HV.out.2
  have hg0 := fun w' (hb : Below w.heap.size w w') => greater_ok (azN ⟨t, o, x⟩) 0 w' (HV.out.1.below hb) HV.out.2
  simp only [grZ_W] at hg1
  simp only [grZ_R] at hg0
  obtain ⟨w0, hw0⟩ : ∃ w0, w.alloc (.cells #[.int .i64 (t : Nat), .int .i64 (o : Nat), .int .i64 (x : Nat)] 31) = w0 := ⟨_, rfl⟩
  have B0 : Below w.heap.size w w0 := by rw [← hw0]; exact bel_al (Below.refl _ _) _
  have A0 : AcAt ⟨(t : Nat), (o : Nat), (x : Nat)⟩ w.heap.size 0 w0 := by rw [← hw0]; exact acAt_new w ⟨(t : Nat), (o : Nat), (x : Nat)⟩
  have q0 := A0.c0
  have q1 : w0.cell? ⟨w.heap.size, 1, none⟩ = some (.int .i64 (o : Nat)) := A0.c1
  have q2 : w0.cell? ⟨w.heap.size, 2, none⟩ = some (.int .i64 (x : Nat)) := A0.c2
  simp only at q0
  have L0 := A0.lt
  have HB0 : Hid (Below w.heap.size w w0) := B0
  clear A0 h hG B0
  have hxx : x = 0 ∨ x = 1 := by omega
  rcases hxx with rfl | rfl
  · have HE : Hid (M.lateB sk s ⟨t, o, 0⟩ = M.grW s t o) := by show _ = _; unfold M.lateB; cases M.grW s t o <;> rfl
    have hc := hg1 w0 HB0.out
    simp only [azN] at hc
    have i0 : ((0 : Nat) : Int) = 0 := rfl
    rw [i0] at hc q2 hw0
    rw [i0]
    clear i0
    obtain ⟨q, hq⟩ : ∃ q, M.grW s t o = q := ⟨_, rfl⟩
    rw [hq] at hc HE
    clear hg1 hg0 hq HV
    go_enter Tryd.func22, Tryd.ntmps22
    go_wp2_with fail
    refine hc.mono ?_
    rintro e w2 ⟨rfl, hB2⟩
    have FB : Hid (Below w.heap.size w w2) := bel_on HB0.out hB2
    clear hc hB2
    go_wp2_with fail
    go_ret
    exact ⟨by rw [HE.out]; rfl, FB.out⟩
  · have HE : Hid (M.lateB sk s ⟨t, o, 1⟩ = (M.grR s t o || M.grW s t o && !sk)) := by
      show _ = _; unfold M.lateB; cases M.grW s t o <;> cases M.grR s t o <;> cases sk <;> rfl
    have hc := hg0 w0 HB0.out
    have hc2 := fun w' (hb : Below w0.heap.size w0 w') => hg1 w' (bel_on HB0.out hb)
    simp only [azN] at hc hc2
    have i0 : ((1 : Nat) : Int) = 1 := rfl
    rw [i0] at hc q2 hw0
    simp only [i0] at hc2
    rw [i0]
    clear i0
    have HS : Hid (∀ w', Below w0.heap.size w0 w' → w'.cell? ⟨S, 0, none⟩ = some (.bool sk)) := fun w' hb => (HV.out.1.below (bel_on HB0.out hb)).c0
    have lS : S < w0.heap.size := (HV.out.1.below HB0.out).lt
    obtain ⟨r, hr⟩ : ∃ q, M.grR s t o = q := ⟨_, rfl⟩
    obtain ⟨q, hq⟩ : ∃ q, M.grW s t o = q := ⟨_, rfl⟩
    rw [hr] at hc HE
    rw [hq] at HE
    simp only [hq] at hc2
    have HQ : Hid (∀ w', Below w0.heap.size w0 w' → w'.cell? ⟨w.heap.size, 0, none⟩ = some (.int .i64 (t : Nat)) ∧ w'.cell? ⟨w.heap.size, 1, none⟩ = some (.int .i64 (o : Nat)) ∧ w'.cell? ⟨w.heap.size, 2, none⟩ = some (.int .i64 1)) := fun w' hb =>
      ⟨(hb.cell (p := ⟨w.heap.size, 0, none⟩) L0).trans q0, (hb.cell (p := ⟨w.heap.size, 1, none⟩) L0).trans q1, (hb.cell (p := ⟨w.heap.size, 2, none⟩) L0).trans q2⟩
    have HC2 : Hid _ := hc2
    clear hg1 hg0 hq hr HV hc2
    cases r with
    | true =>
      clear HC2
      go_enter Tryd.func22, Tryd.ntmps22
      go_wp2_with fail
      refine hc.mono ?_
      rintro e w2 ⟨rfl, hB2⟩
      have FB : Hid (Below w.heap.size w w2) := bel_on HB0.out hB2
      clear hc hB2
      go_wp2_with fail
      go_ret
      exact ⟨by rw [HE.out]; rfl, FB.out⟩
    | false =>
      cases sk with
      | true =>
        clear HC2
        go_enter Tryd.func22, Tryd.ntmps22
        go_wp2_with fail
        refine hc.mono ?_
        rintro e w2 ⟨rfl, hB2⟩
        have FB : Hid (Below w.heap.size w w2) := bel_on HB0.out hB2
        have cs := HS.out w2 hB2
        have l2 : S < w2.heap.size := Nat.lt_of_lt_of_le lS hB2.size
        clear hc hB2
        go_wp2_with fail
        go_ret
        exact ⟨by rw [HE.out]; cases q <;> rfl, FB.out⟩
      | false =>
        go_enter Tryd.func22, Tryd.ntmps22
        go_wp2_with fail
        refine hc.mono ?_
        rintro e w2 ⟨rfl, hB2⟩
        have FB : Hid (Below w.heap.size w w2) := bel_on HB0.out hB2
        have cs := HS.out w2 hB2
        have l2 : S < w2.heap.size := Nat.lt_of_lt_of_le lS hB2.size
        obtain ⟨z0, z1, z2⟩ := HQ.out w2 hB2
        have hcw := HC2.out w2 hB2
        have L2 : w.heap.size < w2.heap.size := Nat.lt_of_lt_of_le L0 hB2.size
        clear hc hB2 q0 q1 q2 HC2
        go_wp2_with fail
        refine hcw.mono ?_
        rintro e w3 ⟨rfl, hB3⟩
        have FB3 : Hid (Below w.heap.size w w3) := bel_on FB.out hB3
        clear hcw hB3
        go_wp2_with fail
        go_ret
        exact ⟨by rw [HE.out]; cases q <;> rfl, FB3.out⟩
/-- what is wrong with an act, whatever others did -/
def gchk (s : M.Gt) (o : Az) : Nat := if aIn o = true then (if s.dead.testBit o.n.tx = true then 7 else if 24 ≤ s.ac.length then 4 else 0) else 1
theorem acd_one (o : Az) : acd [o] = if aIn o = true then 0 else 1 := by
  unfold acd
  rw [if_neg (by simp)]
  simp
theorem one_has (w : World) (o : Az) : HasAc [o] (some ⟨w.heap.size, 0, none⟩) (w.alloc (.cells #[.int .i64 o.tx, .int .i64 o.it, .int .i64 o.wt] 31)) := fun j hj => by
  have : j = 0 := by simpa using hj
  subst this
  exact ⟨w.heap.size, 0, rfl, acAt_new w o⟩
set_option maxRecDepth 100000 in
set_option maxHeartbeats 2000000 in
theorem gcheck_ok {S : Nat} {sk : Bool} {s : M.Gt} {v : Value} (o : Az) (w : World) (h : GVr w S sk s v) (hG : M.GG s) :
    Calls Tryd.prog 21 #[.pointer (some ⟨S, 0, none⟩), acV o] w fun e w' => e = .returned (terr (gchk s o)) ∧ Below w.heap.size w w' := by
  have HV : Hid (GVr w S sk s v ∧ M.GG s) := ⟨h, hG⟩
  obtain ⟨ad, c0, rfl⟩ := owns_slice h.act
  have lS := h.lt
  clear h hG
  obtain ⟨w0, hw0⟩ : ∃ w0, w.alloc (.cells #[.int .i64 o.tx, .int .i64 o.it, .int .i64 o.wt] 31) = w0 := ⟨_, rfl⟩
  have B0 : Below w.heap.size w w0 := by rw [← hw0]; exact bel_al (Below.refl _ _) _
  have A0 : AcAt o w.heap.size 0 w0 := by rw [← hw0]; exact acAt_new w o
  have q0 := A0.c0
  have q1 := A0.c1
  have q2 := A0.c2
  rw [Nat.zero_add] at q1 q2
  have L0 := A0.lt
  obtain ⟨w1, hw1⟩ : ∃ w1, w0.alloc (.cells #[.int .i64 o.tx, .int .i64 o.it, .int .i64 o.wt] 31) = w1 := ⟨_, rfl⟩
  have B1 : Below w.heap.size w w1 := by rw [← hw1]; exact bel_al B0 _
  have hck := acheck_ok [o] (some ⟨w0.heap.size, 0, none⟩) 1 1 w1 rfl (by unfold maxLen; omega) (by rw [← hw1]; exact one_has w0 o)
  have HB1 : Hid (Below w.heap.size w w1) := B1
  have HA1 : Hid (∀ w', Below w1.heap.size w1 w' → w'.cell? ⟨w.heap.size, 0, none⟩ = some (.int .i64 o.tx) ∧ w.heap.size < w'.heap.size) := fun w' hb => by
    have a1 : AcAt o w.heap.size 0 w1 := by rw [← hw1]; exact A0.al _
    have a2 := a1.later hb a1.lt
    exact ⟨a2.c0, a2.lt⟩
  rw [acd_one] at hck
  clear A0 B0 B1
  cases e : aIn o with
  | false =>
    have HE : Hid (gchk s o = 1) := by show _ = _; unfold gchk; rw [e]; rfl
    rw [if_neg (by rw [e]; simp), terr_ne (by decide)] at hck
    clear e HA1 HV
    go_enter Tryd.func21, Tryd.ntmps21
    go_wp2_with fail
    refine hck.mono ?_
    rintro e w2 ⟨rfl, hB2⟩
    have FB : Hid (Below w.heap.size w w2) := bel_on HB1.out hB2
    clear hck hB2
    go_wp2_with fail
    go_ret
    exact ⟨by rw [HE.out]; rfl, FB.out⟩
  | true =>
    obtain ⟨ho, ht, _, _⟩ := aIn_parts e
    have HE : Hid (gchk s o = if s.dead.testBit o.n.tx = true then 7 else if 24 ≤ s.ac.length then 4 else 0) := by show _ = _; unfold gchk; rw [if_pos e]
    rw [if_pos e, terr_zero] at hck
    have htx : o.tx = ((o.n.tx : Nat) : Int) := by have := congrArg Az.tx ho; exact this
    rw [htx] at HA1
    obtain ⟨T, hT⟩ : ∃ T, o.n.tx = T := ⟨_, rfl⟩
    rw [hT] at HA1 HE ht
    have hh := fun w' => has_any s.dead T w' (by have := HV.out.2.dd; omega) (by omega)
    clear e ho htx hT
    have main : ∀ w2, Below w1.heap.size w1 w2 → Hid (GVr w2 S sk s (.slice ad s.ac.length c0) ∧ Below w.heap.size w w2) := fun w2 hb => ⟨HV.out.1.below (bel_on HB1.out hb), bel_on HB1.out hb⟩
    obtain ⟨q, hq⟩ : ∃ q, s.dead.testBit T = q := ⟨_, rfl⟩
    simp only [hq] at hh HE
    clear hq
    have c2g := fun w2 (h : Hid (GVr w2 S sk s (.slice ad s.ac.length c0) ∧ Below w.heap.size w w2)) => h.out.1.c2
    obtain ⟨D, hD⟩ : ∃ D, s.dead = D := ⟨_, rfl⟩
    simp only [hD] at hh c2g
    clear hD
    cases q with
    | true =>
      go_enter Tryd.func21, Tryd.ntmps21
      go_wp2_with fail
      refine hck.mono ?_
      rintro e w2 ⟨rfl, hB2⟩
      have M2 := main w2 hB2
      obtain ⟨k0, k1⟩ := HA1.out w2 hB2
      have d2 := c2g w2 M2
      have l2 := M2.out.1.lt
      clear hck hB2 main c2g HA1 q0 q1 q2 hw1
      go_wp2_with fail
      go_big_quiet ((go_at_call 36; exact Calls.quiet_of_same ((hh _).mono (fun e w' h => ⟨h.1, h.2.symm⟩))))
      go_wp2_with fail
      go_ret
      exact ⟨by rw [HE.out]; rfl, bel_drN M2.out.2 _⟩
    | false =>
      have c1g := fun w2 (h : Hid (GVr w2 S sk s (.slice ad s.ac.length c0) ∧ Below w.heap.size w w2)) => h.out.1.c1
      obtain ⟨L, hL⟩ : ∃ L, s.ac.length = L := ⟨_, rfl⟩
      have HL : Hid (s.ac.length = L) := hL
      rw [hL] at HE
      by_cases h24 : 24 ≤ L
      · have HE2 : Hid (gchk s o = 4) := by show _ = _; rw [HE.out]; rw [if_neg (by simp), if_pos h24]
        have hL24 : (24 : Int) ≤ (L : Int) := by omega
        clear HE hL
        go_enter Tryd.func21, Tryd.ntmps21
        go_wp2_with fail
        refine hck.mono ?_
        rintro e w2 ⟨rfl, hB2⟩
        have M2 := main w2 hB2
        obtain ⟨k0, k1⟩ := HA1.out w2 hB2
        have d2 := c2g w2 M2
        have d1 := c1g w2 M2
        rw [HL.out] at d1
        have l2 := M2.out.1.lt
        clear hck hB2 main c2g c1g HA1 q0 q1 q2 hw1
        go_wp2_with fail
        go_big_quiet ((go_at_call 36; exact Calls.quiet_of_same ((hh _).mono (fun e w' h => ⟨h.1, h.2.symm⟩))))
        go_wp2_with fail
        go_ret
        exact ⟨by rw [HE2.out]; rfl, bel_drN M2.out.2 _⟩
      · have HE2 : Hid (gchk s o = 0) := by show _ = _; rw [HE.out]; rw [if_neg (by simp), if_neg h24]
        have hL24 : (L : Int) < 24 := by omega
        clear HE hL h24
        go_enter Tryd.func21, Tryd.ntmps21
        go_wp2_with fail
        refine hck.mono ?_
        rintro e w2 ⟨rfl, hB2⟩
        have M2 := main w2 hB2
        obtain ⟨k0, k1⟩ := HA1.out w2 hB2
        have d2 := c2g w2 M2
        have d1 := c1g w2 M2
        rw [HL.out] at d1
        have l2 := M2.out.1.lt
        clear hck hB2 main c2g c1g HA1 q0 q1 q2 hw1
        go_wp2_with fail
        go_big_quiet ((go_at_call 36; exact Calls.quiet_of_same ((hh _).mono (fun e w' h => ⟨h.1, h.2.symm⟩))))
        go_wp2_with fail
        go_ret
        exact ⟨by rw [HE2.out]; rfl, bel_drN M2.out.2 _⟩
end Go.Proofs.YtlkdclifcmohlaaDoor
