/- Two gates side by side, each with blocks of its own (law TopSerial); the law's own schedules. No walk. -/
import Derived.Test.YtlkdclifcmohlaaDoorBPr
import Derived.Test.YtlkdclifcmohlaaDoorLxr
import Derived.Test.YtlkdclifcmohlaaDoorBLo
namespace Go.Proofs.YtlkdclifcmohlaaDoor
open Go.RowKit
/-- the blocks of O, and new ones -/
def nxT (O : Nat → Prop) (w : World) (j : Nat) : Prop := O j ∨ w.heap.size ≤ j
structure TW (w : World) (S1 S2 : Nat) (O1 O2 : Nat → Prop) (s1 s2 : M.Gt) (wr : World) : Prop where
  g1 : GV O1 S1 true s1 wr
  g2 : GV O2 S2 false s2 wr
  k1 : M.GG s1
  k2 : M.GG s2
  dj : ∀ k, O1 k → ¬ O2 k
  bl : Below w.heap.size w wr
  l1 : ∀ k, k < w.heap.size → ¬ O1 k
  l2 : ∀ k, k < w.heap.size → ¬ O2 k
  b1 : ∀ k, O1 k → k < wr.heap.size
  b2 : ∀ k, O2 k → k < wr.heap.size
section
variable {w wr wa w3 : World} {S1 S2 : Nat} {O1 O2 : Nat → Prop} {s1 s2 s' : M.Gt}
theorem TW.later (h : TW w S1 S2 O1 O2 s1 s2 wr) (ha : Below wr.heap.size wr wa) : TW w S1 S2 O1 O2 s1 s2 wa :=
  ⟨h.g1.below ha, h.g2.below ha, h.k1, h.k2, h.dj, h.bl.trans (ha.mono h.bl.size), h.l1, h.l2, fun k e => Nat.lt_of_lt_of_le (h.b1 k e) ha.size, fun k e => Nat.lt_of_lt_of_le (h.b2 k e) ha.size⟩
theorem TW.may1 (h : TW w S1 S2 O1 O2 s1 s2 wr) : GV (nxT O1 wr) S1 true s1 wr ∧ ∀ k, wr.heap.size ≤ k → nxT O1 wr k := ⟨h.g1.mono (fun _ _ e => .inl e), fun _ e => .inr e⟩
theorem TW.may2 (h : TW w S1 S2 O1 O2 s1 s2 wr) : GV (nxT O2 wr) S2 false s2 wr ∧ ∀ k, wr.heap.size ≤ k → nxT O2 wr k := ⟨h.g2.mono (fun _ _ e => .inl e), fun _ e => .inr e⟩
theorem TW.one (h : TW w S1 S2 O1 O2 s1 s2 wr) (h1 : GV (nxT O1 wr) S1 true s' w3) (h2 : Frm (nxT O1 wr) wr w3) (hg : M.GG s') : TW w S1 S2 (fun j => nxT O1 wr j ∧ j < w3.heap.size) O2 s' s2 w3 := by
  have sw := h.bl.size
  refine ⟨h1.mono (fun k hk e => ⟨e, hk⟩), h.g2.frm h2 (fun k e e2 => ?_), hg, h.k2, fun k e e2 => ?_, ?_, fun k hk e => ?_, h.l2, fun k e => e.2, fun k e => Nat.lt_of_lt_of_le (h.b2 k e) h2.size⟩
  · rcases e2 with e2 | e2
    · exact h.dj k e2 e
    · have := h.b2 k e; omega
  · rcases e.1 with e | e
    · exact h.dj k e e2
    · have := h.b2 k e2; omega
  · refine h.bl.trans (h2.below sw (fun k hk e => ?_))
    rcases e with e | e
    · exact h.l1 k hk e
    · omega
  · rcases e.1 with e | e
    · exact h.l1 k hk e
    · omega
theorem TW.two (h : TW w S1 S2 O1 O2 s1 s2 wr) (h1 : GV (nxT O2 wr) S2 false s' w3) (h2 : Frm (nxT O2 wr) wr w3) (hg : M.GG s') : TW w S1 S2 O1 (fun j => nxT O2 wr j ∧ j < w3.heap.size) s1 s' w3 := by
  have sw := h.bl.size
  refine ⟨h.g1.frm h2 (fun k e e2 => ?_), h1.mono (fun k hk e => ⟨e, hk⟩), h.k1, hg, fun k e e2 => ?_, ?_, h.l1, fun k hk e => ?_, fun k e => Nat.lt_of_lt_of_le (h.b1 k e) h2.size, fun k e => e.2⟩
  · rcases e2 with e2 | e2
    · exact h.dj k e e2
    · have := h.b1 k e; omega
  · rcases e2.1 with e2 | e2
    · exact h.dj k e e2
    · have := h.b1 k e; omega
  · refine h.bl.trans (h2.below sw (fun k hk e => ?_))
    rcases e with e | e
    · exact h.l2 k hk e
    · omega
  · rcases e.1 with e | e
    · exact h.l2 k hk e
    · omega
end
/-- what a gate let through is serial -/
theorem M.GG.ringT {s : M.Gt} (h : M.GG s) : ¬ M.Ring (M.edR s.ac) := M.rise_ring (fun t u e => h.gi.edge ((M.edR_bit s.ac t u).1 e).2.2)
/-- what two phases let through is serial -/
theorem M.LG.ringT {s : M.Lk} (h : M.LG s) : ¬ M.Ring (M.edR s.ac) := M.two_phases h.li (M.edR_ok s.ac) (fun t u h => ((M.edR_bit s.ac t u).1 h).2.2)
abbrev twoS : List M.SAct := [⟨0, 0, 1⟩, ⟨1, 0, 0⟩]
theorem twoT_aok : M.AOk twoS := aok_of (by decide) (by decide)
theorem twoT_has (w : World) : HasAc (az twoS) (some ⟨w.heap.size, 0, none⟩) (w.alloc (.cells #[.int .i64 0, .int .i64 0, .int .i64 1, .int .i64 1, .int .i64 0, .int .i64 0] 31)) := fun j hj => by
  rw [az_len] at hj
  have hj4 : j < 2 := hj
  refine ⟨w.heap.size, 0, rfl, ?_⟩
  rcases j with _ | _ | j
  · exact ⟨by simp, by simp [aAt_az, azN, M.sat], by simp [aAt_az, azN, M.sat], by simp [aAt_az, azN, M.sat]⟩
  · exact ⟨by simp, by simp [aAt_az, azN, M.sat], by simp [aAt_az, azN, M.sat], by simp [aAt_az, azN, M.sat]⟩
  · omega
theorem twoT_edges : M.edR twoS = [2, 0, 0, 0, 0] := by decide +kernel
end Go.Proofs.YtlkdclifcmohlaaDoor
