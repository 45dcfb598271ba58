/- Who writes is alone (law LockApart): the law's own rows beside the program's table; what deeds do to what is held still or freed since. No walk. -/
import Derived.Test.YtcjodlgkmbmcgaaDoorLkf
import Derived.Test.YtcjodlgkmbmcgaaDoorRefT1
namespace Go.Proofs.YtcjodlgkmbmcgaaDoor
open Go.RowKit
namespace M
theorem sat_snoc (l : List SAct) (a : SAct) {j : Nat} (h : j < l.length) : sat (l ++ [a]) j = sat l j := by unfold sat; rw [List.getElem?_append_left h]
theorem LA.got {s : Lk} {fr : Nat → Nat → Int} {at_ : Nat → Int} (h : LA s fr at_) (hle : ∀ x y, s.hd x y ≤ 3) (t o k : Nat) (hk : k ≤ 1) : LA (sGot s t o k) fr at_ :=
  h.keep (s' := sGot s t o k) rfl (fun x y wr e => .inl (by
    show enough (up2 s.hd t o (wth (s.hd t o) k) x y) wr
    unfold up2
    by_cases c : x = t ∧ y = o
    · rw [if_pos c, ← c.1, ← c.2]; exact wth_enough _ _ _ (hle x y) hk e
    · rw [if_neg c]; exact e)) (fun _ _ => Int.le_refl _)
theorem LA.free {s : Lk} {fr : Nat → Int} {at_ : Nat → Int} (h : LA s (fun t o => fr (t * 4 + o)) at_) (t o : Nat) (i : Int) (h1 : ∀ j, fr j ≤ i) (h2 : ∀ k, k < s.ac.length → at_ k ≤ i) : LA (sFree s t o) (fun x y => upd1 fr (t * 4 + o) i (x * 4 + y)) at_ :=
  h.keep (s' := sFree s t o) rfl (fun x y wr e => by
    by_cases c : x = t ∧ y = o
    · right
      intro k hk
      rw [c.1, c.2]
      show at_ k ≤ upd1 fr (t * 4 + o) i (t * 4 + o)
      rw [upd1_same]; exact h2 k hk
    · left
      show enough (up2 s.hd t o 0 x y) wr
      unfold up2
      rw [if_neg c]; exact e) (fun x y => by
    unfold upd1
    by_cases c : x * 4 + y = t * 4 + o
    · rw [if_pos c]; exact h1 _
    · rw [if_neg c]; exact Int.le_refl _)
theorem LA.act {s : Lk} {fr : Nat → Nat → Int} {at_ : Nat → Int} (h : LA s fr at_) {t o wr : Nat} (he : ¬ (s.hd t o = 0 ∨ (s.hd t o = 1 ∧ wr = 1))) (i : Int) : LA (sAct s t o wr) fr (upd1 at_ s.ac.length i) :=
  h.add (a := ⟨t, o, wr⟩) ⟨fun e => he (.inl e), fun e => by
    show 2 ≤ s.hd t o
    have h0 : s.hd t o ≠ 0 := fun e => he (.inl e)
    have h1 : s.hd t o ≠ 1 := fun e2 => he (.inr ⟨e2, e⟩)
    omega⟩ (fun k hk => by rw [upd1_other _ _ (by omega)])
/-- what clashes is behind its freeing -/
theorem LA.ok {s : Lk} {fr : Nat → Int} {at_ : Nat → Int} (h : LA s (fun t o => fr (t * 4 + o)) at_) (hl : LI s) {t o wr : Nat} (ht : t < 5) (he : ¬ (s.hd t o = 0 ∨ (s.hd t o = 1 ∧ wr = 1))) {k : Nat} (hk : k < s.ac.length) (h1 : (sat s.ac k).tx ≠ t) (h2 : (sat s.ac k).it = o) (h3 : (sat s.ac k).wr = 1 ∨ wr = 1) : at_ k ≤ fr ((sat s.ac k).tx * 4 + o) :=
  h.behind hl (a := ⟨t, o, wr⟩) ht ⟨fun e => he (.inl e), fun e => by
    show 2 ≤ s.hd t o
    have h0 : s.hd t o ≠ 0 := fun e => he (.inl e)
    have h1 : s.hd t o ≠ 1 := fun e2 => he (.inr ⟨e2, e⟩)
    omega⟩ hk h1 h2 h3
end M
/-- The program's table in blocks of O, and the law's own rows elsewhere: when each lock was freed, what was done, and when. -/
structure AQ (N : Nat) (S : Nat) (O : Nat → Prop) (s : M.Lk) (ac : List M.SAct) (m : Nat) (fr at_ : Nat → Int) (vF vD vA : Value) (w0 wr : World) : Prop where
  tv : TV O S s wr
  fw : wr.ownsRow N 3 1 vF 20 (fcl (fun j => .int .i64 (fr j)) 20)
  dw : wr.ownsRow N 38 3 vD ac.length (acells ac)
  aw : wr.ownsRow N 3 1 vA m (fcl (fun j => .int .i64 (at_ j)) m)
  oF : ∀ g, vF.ownBlock = some g → ¬ O g
  oD : ∀ g, vD.ownBlock = some g → ¬ O g
  oA : ∀ g, vA.ownBlock = some g → ¬ O g
  fd : ∀ g, vF.ownBlock = some g → vD.ownBlock ≠ some g
  fa : ∀ g, vF.ownBlock = some g → vA.ownBlock ≠ some g
  da : ∀ g, vD.ownBlock = some g → vA.ownBlock ≠ some g
  bl : Below N w0 wr
  ns : N ≤ wr.heap.size
  ol : ∀ k, k < N → ¬ O k
  ob : ∀ k, O k → k < wr.heap.size
section
variable {N S : Nat} {O : Nat → Prop} {s s' : M.Lk} {ac : List M.SAct} {m : Nat} {fr at_ : Nat → Int} {vF vD vA : Value} {w0 wr w1 : World}
theorem AQ.later (h : AQ N S O s ac m fr at_ vF vD vA w0 wr) (hb : Below wr.heap.size wr w1) : AQ N S O s ac m fr at_ vF vD vA w0 w1 :=
  ⟨h.tv.below hb, owns_below h.fw hb, owns_below h.dw hb, owns_below h.aw hb, h.oF, h.oD, h.oA, h.fd, h.fa, h.da, h.bl.trans (hb.mono h.ns), by have := hb.size; have := h.ns; omega, h.ol, fun k hk => by have := h.ob k hk; have := hb.size; omega⟩
/-- what the table may write: its own blocks, and new ones -/
def nxO (O : Nat → Prop) (w : World) : Nat → Prop := fun j => O j ∨ w.heap.size ≤ j
theorem AQ.may (h : AQ N S O s ac m fr at_ vF vD vA w0 wr) : TV (nxO O wr) S s wr ∧ ∀ k, wr.heap.size ≤ k → nxO O wr k := ⟨h.tv.mono (fun _ _ hk => .inl hk), fun _ hk => .inr hk⟩
theorem AQ.did (h : AQ N S O s ac m fr at_ vF vD vA w0 wr) (hv : TV (nxO O wr) S s' w1) (hf : Frm (nxO O wr) wr w1) : AQ N S (fun j => nxO O wr j ∧ j < w1.heap.size) s' ac m fr at_ vF vD vA w0 w1 := by
  have no : ∀ g, g < wr.heap.size → ¬ O g → ¬ nxO O wr g := fun g h1 h2 h3 => by
    rcases h3 with h3 | h3
    · exact h2 h3
    · omega
  have lF := fun g e => (h.fw.lt g e).2
  have lD := fun g e => (h.dw.lt g e).2
  have lA := fun g e => (h.aw.lt g e).2
  refine ⟨hv.mono (fun k hk ho => ⟨ho, hk⟩), owns_blk h.fw (fun g e => hf.block g (lF g e) (no g (lF g e) (h.oF g e))), owns_blk h.dw (fun g e => hf.block g (lD g e) (no g (lD g e) (h.oD g e))), owns_blk h.aw (fun g e => hf.block g (lA g e) (no g (lA g e) (h.oA g e))),
    fun g e x => no g (lF g e) (h.oF g e) x.1, fun g e x => no g (lD g e) (h.oD g e) x.1, fun g e x => no g (lA g e) (h.oA g e) x.1, h.fd, h.fa, h.da, ?_, by have := hf.size; have := h.ns; omega, ?_, fun k hk => hk.2⟩
  · exact h.bl.trans (hf.below h.ns (fun k hk x => by
      rcases x with x | x
      · exact h.ol k hk x
      · have := h.ns; omega))
  · intro k hk x
    rcases x.1 with x | x
    · exact h.ol k hk x
    · have := h.ns; omega
/-- when a lock was freed is stored -/
theorem AQ.setF (h : AQ N S O s ac m fr at_ vF vD vA w0 wr) {g c i : Nat} {z : Int} (hv : vF = .slice (some ⟨g, 0, none⟩) 20 c) : AQ N S O s ac m (M.upd1 fr i z) at_ vF vD vA w0 (wr.setCell ⟨g, i, none⟩ (.int .i64 z)) := by
  have hg : vF.ownBlock = some g := by rw [hv]; rfl
  have hw := h.fw
  have lt := hw.lt g hg
  have key : (wr.setCell ⟨g, i, none⟩ (.int .i64 z)).ownsRow N 3 1 vF 20 (fcl (fun j => .int .i64 (M.upd1 fr i z j)) 20) := by
    rw [hv] at hw ⊢
    obtain ⟨st1, _⟩ := hw.stored i (.int .i64 z)
    rw [fcl_set] at st1
    have e : fcl (M.upd1 (fun j => Value.int .i64 (fr j)) i (.int .i64 z)) 20 = fcl (fun j => .int .i64 (M.upd1 fr i z j)) 20 := by
      unfold fcl
      refine List.map_congr_left (fun j _ => ?_)
      unfold M.upd1
      by_cases c : j = i
      · rw [if_pos c, if_pos c]
      · rw [if_neg c, if_neg c]
    rw [e] at st1
    exact st1
  have sz : (wr.setCell ⟨g, i, none⟩ (.int .i64 z)).heap.size = wr.heap.size := by simp [World.setCell]
  refine ⟨h.tv.frm (O' := fun k => k = g) ((Frm.refl (fun k => k = g) wr).set (p := ⟨g, i, none⟩) rfl _) (fun k ho e => h.oF g hg (e ▸ ho)), key, owns_blk h.dw (fun k e => Below.heap_setCell _ _ _ _ (fun x => h.fd g hg (by rw [e]; exact congrArg some x))),
    owns_blk h.aw (fun k e => Below.heap_setCell _ _ _ _ (fun x => h.fa g hg (by rw [e]; exact congrArg some x))), h.oF, h.oD, h.oA, h.fd, h.fa, h.da, h.bl.setCell (p := ⟨g, i, none⟩) lt.1 _, by rw [sz]; exact h.ns, h.ol, fun k hk => by rw [sz]; exact h.ob k hk⟩
/-- what is done is appended -/
theorem AQ.appD (h : AQ N S O s ac m fr at_ vF vD vA w0 wr) {x : Obj} {w5 : World} {g c : Nat} {a : M.SAct} (hown : w5.ownsRow N 38 3 (.slice (some ⟨g, 0, none⟩) (ac.length + 1) c) (ac.length + 1) (acells ac ++ [.int .i64 (a.tx : Nat), .int .i64 (a.it : Nat), .int .i64 (a.wr : Nat)]))
    (hg : (wr.alloc x).grownBy w5 vD.ownBlock) (hat : vD.ownBlock = some g ∨ g = wr.heap.size + 1) : AQ N S O s (ac ++ [a]) m fr at_ vF (.slice (some ⟨g, 0, none⟩) (ac.length + 1) c) vA w0 w5 := by
  have hk : ∀ k, k < wr.heap.size → vD.ownBlock ≠ some k → w5.heap[k]? = wr.heap[k]? := fun k hk hne => (hg.block k (Nat.lt_of_lt_of_le hk (by simp)) (Ne.symm hne)).trans (Below.heap_alloc wr _ k hk)
  have hs : wr.heap.size + 1 ≤ w5.heap.size := by have := hg.size; simpa using this
  have no : ∀ k, (Value.slice (some ⟨g, 0, none⟩) (ac.length + 1) c).ownBlock = some k → vD.ownBlock = some k ∨ k = wr.heap.size + 1 := fun k e => by
    obtain rfl : g = k := by simpa [Value.ownBlock] using e
    exact hat
  have lF := fun g e => (h.fw.lt g e).2
  have lA := fun g e => (h.aw.lt g e).2
  refine ⟨h.tv.frm (O' := fun k => vD.ownBlock = some k) ((((Frm.refl (fun k => vD.ownBlock = some k) wr).alloc x)).grown hg (fun k e => e)) (fun k ho e => h.oD k e ho), owns_blk h.fw (fun k e => hk k (lF k e) (fun e2 => h.fd k e e2)), ?_, owns_blk h.aw (fun k e => hk k (lA k e) (fun e2 => h.da k e2 e)), h.oF, fun k e ho => ?_, h.oA, fun k e e2 => ?_, h.fa, fun k e e2 => ?_, ?_, by have := h.ns; omega, h.ol, fun k e => by have := h.ob k e; omega⟩
  · rw [acells_snoc, List.length_append]; exact hown
  · rcases no k e with e3 | e3
    · exact h.oD k e3 ho
    · have := h.ob k ho; omega
  · rcases no k e2 with e3 | e3
    · exact h.fd k e e3
    · have := lF k e; omega
  · rcases no k e with e3 | e3
    · exact h.da k e3 e2
    · have := lA k e2; omega
  · exact (h.bl.alloc h.ns x).grown hg (by have := h.ns; simp; omega) (fun k e => (h.dw.lt k e).1)
/-- when it was done is appended -/
theorem AQ.appA (h : AQ N S O s ac m fr at_ vF vD vA w0 wr) {x : Obj} {w5 : World} {g c : Nat} {i : Int} (hown : w5.ownsRow N 3 1 (.slice (some ⟨g, 0, none⟩) (m + 1) c) (m + 1) (fcl (fun j => .int .i64 (at_ j)) m ++ [.int .i64 i]))
    (hg : (wr.alloc x).grownBy w5 vA.ownBlock) (hat : vA.ownBlock = some g ∨ g = wr.heap.size + 1) : AQ N S O s ac (m + 1) fr (M.upd1 at_ m i) vF vD (.slice (some ⟨g, 0, none⟩) (m + 1) c) w0 w5 := by
  have hk : ∀ k, k < wr.heap.size → vA.ownBlock ≠ some k → w5.heap[k]? = wr.heap[k]? := fun k hk hne => (hg.block k (Nat.lt_of_lt_of_le hk (by simp)) (Ne.symm hne)).trans (Below.heap_alloc wr _ k hk)
  have hs : wr.heap.size + 1 ≤ w5.heap.size := by have := hg.size; simpa using this
  have no : ∀ k, (Value.slice (some ⟨g, 0, none⟩) (m + 1) c).ownBlock = some k → vA.ownBlock = some k ∨ k = wr.heap.size + 1 := fun k e => by
    obtain rfl : g = k := by simpa [Value.ownBlock] using e
    exact hat
  have lF := fun g e => (h.fw.lt g e).2
  have lD := fun g e => (h.dw.lt g e).2
  have ex : fcl (fun j => Value.int .i64 (M.upd1 at_ m i j)) (m + 1) = fcl (fun j => .int .i64 (at_ j)) m ++ [.int .i64 i] := by
    unfold fcl
    rw [List.range_succ, List.map_append]
    congr 1
    · refine List.map_congr_left (fun j hj => ?_)
      have := List.mem_range.1 hj
      rw [M.upd1_other _ _ (by omega)]
    · simp [M.upd1_same]
  refine ⟨h.tv.frm (O' := fun k => vA.ownBlock = some k) ((((Frm.refl (fun k => vA.ownBlock = some k) wr).alloc x)).grown hg (fun k e => e)) (fun k ho e => h.oA k e ho), owns_blk h.fw (fun k e => hk k (lF k e) (fun e2 => h.fa k e e2)), owns_blk h.dw (fun k e => hk k (lD k e) (fun e2 => h.da k e e2)), by rw [ex]; exact hown, h.oF, h.oD, fun k e ho => ?_, h.fd, fun k e e2 => ?_, fun k e e2 => ?_, ?_, by have := h.ns; omega, h.ol, fun k e => by have := h.ob k e; omega⟩
  · rcases no k e with e3 | e3
    · exact h.oA k e3 ho
    · have := h.ob k ho; omega
  · rcases no k e2 with e3 | e3
    · exact h.fa k e e3
    · have := lF k e; omega
  · rcases no k e2 with e3 | e3
    · exact h.da k e e3
    · have := lD k e; omega
  · exact (h.bl.alloc h.ns x).grown hg (by have := h.ns; simp; omega) (fun k e => (h.aw.lt k e).1)
end
/-- what is refused changes nothing that is held or done -/
theorem lkz_bad {s : M.Lk} {k t o x : Int} (h : (lkZ s k t o x).2 ≠ 0) : (lkZ s k t o x).1.ac = s.ac ∧ (lkZ s k t o x).1.hd = s.hd := by
  unfold lkZ at h ⊢
  by_cases e : dIn k t o x = true
  · rw [if_pos e] at h ⊢
    unfold M.lkDo at h ⊢
    by_cases h1 : k.toNat ≤ 1
    · rw [if_pos h1] at h ⊢
      by_cases h2 : t.toNat ∈ s.fo
      · rw [if_pos h2]; exact ⟨rfl, rfl⟩
      · rw [if_neg h2] at h ⊢
        by_cases h3 : M.has5 (M.agB s t.toNat o.toNat k.toNat) = true
        · rw [if_pos h3]; exact ⟨rfl, rfl⟩
        · rw [if_neg h3] at h; exact absurd rfl h
    · rw [if_neg h1] at h ⊢
      by_cases h2 : k.toNat = 2
      · rw [if_pos h2] at h ⊢
        by_cases h3 : s.hd t.toNat o.toNat = 0
        · rw [if_pos h3]; exact ⟨rfl, rfl⟩
        · rw [if_neg h3] at h; exact absurd rfl h
      · rw [if_neg h2] at h ⊢
        by_cases h3 : s.hd t.toNat o.toNat = 0 ∨ (s.hd t.toNat o.toNat = 1 ∧ x.toNat = 1)
        · rw [if_pos h3]; exact ⟨rfl, rfl⟩
        · rw [if_neg h3] at h ⊢
          by_cases h4 : 24 ≤ s.ac.length
          · rw [if_pos h4]; exact ⟨rfl, rfl⟩
          · rw [if_neg h4] at h; exact absurd rfl h
  · rw [if_neg e]; exact ⟨rfl, rfl⟩
theorem lkz_zero {s : M.Lk} {k t o x : Int} (h : (lkZ s k t o x).2 = 0) : dIn k t o x = true ∧ ((k ≤ 1 ∧ (lkZ s k t o x).1 = M.sGot s t.toNat o.toNat k.toNat) ∨ (k = 2 ∧ (lkZ s k t o x).1 = M.sFree s t.toNat o.toNat) ∨
    (k = 3 ∧ ¬ (s.hd t.toNat o.toNat = 0 ∨ (s.hd t.toNat o.toNat = 1 ∧ x.toNat = 1)) ∧ (lkZ s k t o x).1 = M.sAct s t.toNat o.toNat x.toNat)) := by
  unfold lkZ at h ⊢
  by_cases e : dIn k t o x = true
  · refine ⟨e, ?_⟩
    have hk := (dIn_true e).1
    rw [if_pos e] at h ⊢
    unfold M.lkDo at h ⊢
    by_cases h1 : k.toNat ≤ 1
    · rw [if_pos h1] at h ⊢
      by_cases h2 : t.toNat ∈ s.fo
      · rw [if_pos h2] at h; cases h
      · rw [if_neg h2] at h ⊢
        by_cases h3 : M.has5 (M.agB s t.toNat o.toNat k.toNat) = true
        · rw [if_pos h3] at h; cases h
        · rw [if_neg h3]; exact .inl ⟨by omega, rfl⟩
    · rw [if_neg h1] at h ⊢
      by_cases h2 : k.toNat = 2
      · rw [if_pos h2] at h ⊢
        by_cases h3 : s.hd t.toNat o.toNat = 0
        · rw [if_pos h3] at h; cases h
        · rw [if_neg h3]; exact .inr (.inl ⟨by omega, rfl⟩)
      · rw [if_neg h2] at h ⊢
        by_cases h3 : s.hd t.toNat o.toNat = 0 ∨ (s.hd t.toNat o.toNat = 1 ∧ x.toNat = 1)
        · rw [if_pos h3] at h; cases h
        · rw [if_neg h3] at h ⊢
          by_cases h4 : 24 ≤ s.ac.length
          · rw [if_pos h4] at h; cases h
          · rw [if_neg h4]; exact .inr (.inr ⟨by omega, h3, rfl⟩)
  · rw [if_neg e] at h; cases h
theorem M.LA.same {s s' : M.Lk} {fr : Nat → Nat → Int} {at_ : Nat → Int} (h : M.LA s fr at_) (h1 : s'.ac = s.ac) (h2 : s'.hd = s.hd) : M.LA s' fr at_ :=
  h.keep h1 (fun _ _ _ e => .inl (by rw [h2]; exact e)) (fun _ _ => Int.le_refl _)
/-- the first row grows -/
theorem l1_step {w wr w5 : World} {N S : Nat} {v : Value} {j : Nat} {xs : List Value} {x : Obj} (h : TV (fun k => k = S) S M.lk0 wr) (ho : wr.ownsRow N 3 1 v j xs) (hb : Below N w wr) (hN : N ≤ wr.heap.size) (hg : (wr.alloc x).grownBy w5 v.ownBlock) : TV (fun k => k = S) S M.lk0 w5 ∧ Below N w w5 ∧ N ≤ w5.heap.size := by
  obtain ⟨u, h1, h2, h3⟩ := h
  have hne : v.ownBlock ≠ some S := rowIs_owns h1.blk ho (by decide)
  have hs : wr.heap.size + 1 ≤ w5.heap.size := by have := hg.size; simpa using this
  exact ⟨TV.frm (O' := fun k => v.ownBlock = some k) ⟨u, h1, h2, h3⟩ ((((Frm.refl (fun k => v.ownBlock = some k) wr).alloc x)).grown hg (fun k e => e)) (fun k ho e => hne (ho ▸ e)), (hb.alloc hN x).grown hg (by simp; omega) (fun k e => (ho.lt k e).1), by omega⟩
end Go.Proofs.YtcjodlgkmbmcgaaDoor
