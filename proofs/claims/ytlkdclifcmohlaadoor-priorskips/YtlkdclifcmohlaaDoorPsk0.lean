/- What is written too late would be gone (law PriorSkips): what the law keeps beside a gate, and what an act leaves of it. No walk. -/
import Derived.Test.YtlkdclifcmohlaaDoorPrf
namespace Go.Proofs.YtlkdclifcmohlaaDoor
open Go.RowKit
theorem M.Skp.read {l : List M.SAct} {m : Nat → Nat} (h : M.Skp l m) {a : M.SAct} (ha : a.wr ≠ 1) : M.Skp (l ++ [a]) m := by
  refine ⟨fun o => ?_, fun b hb hw => ?_⟩
  · rw [M.lw_snoc, if_neg (fun c => ha c.2)]; exact h.last o
  · rcases List.mem_append.1 hb with e | e
    · exact h.most b e hw
    · rw [List.mem_singleton.1 e] at hw; exact absurd hw ha
theorem gtZ_err {sk : Bool} {s : M.Gt} {o : Az} (h : (gtZ sk s o).2.2 ≠ 0) : (gtZ sk s o).2.1 = false ∧ (gtZ sk s o).1.ac = s.ac := by
  unfold gtZ at *
  by_cases c : aIn o = true
  · rw [if_pos c] at h ⊢
    have hd : (M.gtDo sk s o.n).2.1 = false := by
      unfold M.gtDo at h ⊢
      split
      · rfl
      · split
        · rfl
        · split
          · rfl
          · split
            · rfl
            · rename_i c1 c2 c3 c4
              rw [if_neg c1, if_neg c2, if_neg c3, if_neg c4] at h
              exact absurd rfl h
    refine ⟨hd, ?_⟩
    rw [M.gtDo_ac, hd]; rfl
  · rw [if_neg c]; exact ⟨rfl, rfl⟩
theorem gtZ_fine {sk : Bool} {s : M.Gt} {o : Az} (h : (gtZ sk s o).2.2 = 0) : aIn o = true ∧ gtZ sk s o = M.gtDo sk s o.n := by
  by_cases c : aIn o = true
  · exact ⟨c, if_pos c⟩
  · unfold gtZ at h; rw [if_neg c] at h; cases h
theorem gtDo_read {sk : Bool} {s : M.Gt} {a : M.SAct} (h : (M.gtDo sk s a).2.2 = 0) (ha : a.wr = 0) : (M.gtDo sk s a).2.1 = true := by
  unfold M.gtDo at h ⊢
  split
  · rename_i c; rw [if_pos c] at h; cases h
  · rename_i c
    rw [if_neg c] at h
    split
    · rename_i c2; rw [if_pos c2] at h; cases h
    · rename_i c2
      rw [if_neg c2] at h
      split
      · rename_i c3; rw [if_pos c3] at h; cases h
      · split
        · rename_i c4; rw [ha] at c4; cases c4
        · rfl
/-- The law's numbers, the last of each item: one less. -/
def mF (m : Nat → Nat) (k : Nat) : Value := .int .i64 ((m k : Int) - 1)
/-- the blocks of O, and new ones -/
def nx (O : Nat → Prop) (w : World) (j : Nat) : Prop := O j ∨ w.heap.size ≤ j
/-- How things stand: the gate, with blocks of O alone, and the law's own numbers, in block B: they speak of the acts l. -/
structure PS (w : World) (S B : Nat) (O : Nat → Prop) (s : M.Gt) (l : List M.SAct) (m : Nat → Nat) (wr : World) : Prop where
  gv : GV O S true s wr
  gg : M.GG s
  sk : M.Skp l m
  mo : wr.rowIs B 3 4 (mF m)
  nb : ¬ O B
  bl : Below w.heap.size w wr
  ol : ∀ k, k < w.heap.size → ¬ O k
  ob : ∀ k, O k → k < wr.heap.size
  gt : w.heap.size ≤ B
section
variable {w wr wa w3 : World} {S B : Nat} {O : Nat → Prop} {s s' : M.Gt} {l l' : List M.SAct} {m m' : Nat → Nat}
/-- what an act leaves: the gate is another one, the law's numbers lie as they lay -/
theorem PS.did (h : PS w S B O s l m wr) (ha : Below wr.heap.size wr wa) (h1 : GV (nx O wa) S true s' w3) (h2 : Frm (nx O wa) wa w3) (hg : M.GG s') : PS w S B (fun j => nx O wa j ∧ j < w3.heap.size) s' l m w3 := by
  have lB := h.mo.lt
  have sa := ha.size
  have nB : ¬ nx O wa B := fun e => by
    rcases e with e | e
    · exact h.nb e
    · omega
  have sw := h.bl.size
  have hmo := World.rowIs.of_block h.mo (ha.block B lB)
  refine ⟨h1.mono (fun k hk e => ⟨e, hk⟩), hg, h.sk, World.rowIs.of_block hmo (h2.block B hmo.lt nB), fun e => nB e.1, ?_, fun k hk e => ?_, fun k e => e.2, h.gt⟩
  · have hb := h.bl.trans (ha.mono sw)
    refine hb.trans (h2.below hb.size (fun k hk e => ?_))
    rcases e with e | e
    · exact h.ol k hk e
    · omega
  · rcases e.1 with e | e
    · exact h.ol k hk e
    · omega
theorem PS.up (h : PS w S B O s l m wr) (hs : M.Skp l' m) : PS w S B O s l' m wr := ⟨h.gv, h.gg, hs, h.mo, h.nb, h.bl, h.ol, h.ob, h.gt⟩
theorem PS.may (h : PS w S B O s l m wr) (ha : Below wr.heap.size wr wa) : GV (nx O wa) S true s wa ∧ ∀ k, wa.heap.size ≤ k → nx O wa k :=
  ⟨(h.gv.below ha).mono (fun _ _ e => .inl e), fun _ e => .inr e⟩
theorem PS.later (h : PS w S B O s l m wr) (ha : Below wr.heap.size wr wa) : PS w S B O s l m wa :=
  ⟨h.gv.below ha, h.gg, h.sk, World.rowIs.of_block h.mo (ha.block B h.mo.lt), h.nb, h.bl.trans (ha.mono h.bl.size), h.ol, fun k e => Nat.lt_of_lt_of_le (h.ob k e) ha.size, h.gt⟩
theorem mF_set {m : Nat → Nat} (h : w.rowIs B 3 4 (mF m)) (i t : Nat) (hm : m i ≤ t) : (w.setCell ⟨B, i, none⟩ (.int .i64 (t : Nat))).rowIs B 3 4 (mF (M.mst m i t)) :=
  (World.rowIs.set h i _).congr (fun k hk => by
    unfold mF M.mst
    by_cases e : k = i
    · subst e
      rw [if_pos rfl, if_pos rfl]
      congr 1
      omega
    · rw [if_neg e, if_neg e])
theorem PS.put (h : PS w S B O s l m wr) {i t : Nat} (hm : m i ≤ t) (hs : M.Skp l' (M.mst m i t)) : PS w S B O s l' (M.mst m i t) (wr.setCell ⟨B, i, none⟩ (.int .i64 (t : Nat))) :=
  ⟨h.gv.frm (O' := fun j => j = B) ((Frm.refl (fun j => j = B) wr).set (p := ⟨B, i, none⟩) rfl _) (fun k e e2 => h.nb (e2 ▸ e)), h.gg, hs, mF_set h.mo i t hm, h.nb, h.bl.setCell (p := ⟨B, i, none⟩) h.gt _, h.ol, fun k e => by have := h.ob k e; simpa [World.setCell] using this, h.gt⟩
theorem mF_new (w : World) : (w.alloc (.cells #[.int .i64 (-1), .int .i64 (-1), .int .i64 (-1), .int .i64 (-1)] 3)).rowIs w.heap.size 3 4 (mF fun _ => 0) := by
  refine World.rowIs_alloc w #[.int .i64 (-1), .int .i64 (-1), .int .i64 (-1), .int .i64 (-1)] _ _ (fun i hi => ?_)
  have hi' : i < 4 := hi
  rcases i with _ | _ | _ | _ | i
  · rfl
  · rfl
  · rfl
  · rfl
  · omega
end
theorem lw_take {l : List M.SAct} {k o : Nat} (hk : k < l.length) : M.lw (l.take (k + 1)) o = if (M.sat l k).it = o ∧ (M.sat l k).wr = 1 then some (M.sat l k).tx else M.lw (l.take k) o := by
  rw [List.take_add_one, List.getElem?_eq_getElem hk]
  show M.lw (l.take k ++ [l[k]]) o = _
  rw [M.lw_snoc]
  have e : M.sat l k = l[k] := by unfold M.sat; rw [List.getElem?_eq_getElem hk]; rfl
  rw [e]
theorem M.Skp.last_oI {l : List M.SAct} {m : Nat → Nat} (h : M.Skp l m) (o : Nat) : oI (M.lw l o) = (m o : Int) - 1 := by
  rw [h.last o]
  by_cases e : m o = 0
  · rw [if_pos e, e]; rfl
  · rw [if_neg e, oI_some]; omega
end Go.Proofs.YtlkdclifcmohlaaDoor
