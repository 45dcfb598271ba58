/- The document's own locks: a list with a number set anew (whensteadref3.put), whether a number is within (in), who stands against a lock (Against). -/
import Derived.Test.YtlkdclifcmohlaaDoorBLo
import Derived.Test.YtlkdclifcmohlaaDoorRefT1
import Derived.Test.YtlkdclifcmohlaaDoorBRf
namespace Go.Proofs.YtlkdclifcmohlaaDoor
open Go.RowKit

/-- is a number within? -/
def inK (z lo hi : Int) : Bool := decide (lo ≤ z ∧ z ≤ hi)
set_option maxHeartbeats 400000 in
theorem ink_ok (z lo hi : Int) (w : World) :
    Calls Tryd.prog 42 #[.int .i64 z, .int .i64 lo, .int .i64 hi] w fun e w' => e = .returned (.bool (inK z lo hi)) ∧ w = w' := by
  by_cases h : lo ≤ z
  · have e : Hid (inK z lo hi = decide (z ≤ hi)) := by show _ = _; unfold inK; rw [Bool.eq_iff_iff]; simp [h]
    go_enter Tryd.func42, Tryd.ntmps42
    go_wp2
    go_ret
    exact ⟨bool_ret e.out.symm, rfl⟩
  · have h' : z < lo := by omega
    have e : Hid (inK z lo hi = false) := by show _ = _; unfold inK; rw [decide_eq_false]; omega
    clear h
    go_enter Tryd.func42, Tryd.ntmps42
    go_wp2
    go_ret
    exact ⟨bool_ret e.out.symm, rfl⟩
/-! ### the document's locks -/
/-- Where the lists of locks lie. -/
structure LV where
  ph : Option Addr
  ch : Nat
  pw : Option Addr
  cw : Nat
  pa : Option Addr
  ca : Nat
def lv0 : LV := ⟨none, 0, none, 0, none, 0⟩
/-- A row of acts, in a block of G. -/
structure RA (G : Nat → Prop) (l : List M.SAct) (p : Option Addr) (c : Nat) (w : World) : Prop where
  nil : p = none → l.length = 0 ∧ c = 0
  cap : l.length ≤ c ∧ c ≤ maxLen
  act : ∀ j, j < l.length → ∃ b off, p = some ⟨b, off, none⟩ ∧ G b ∧ AcAt (azN (M.sat l j)) b (off + j * 3) w
/-- The document's locks: what each holds, what each waits for (-1: nothing), what was done. -/
structure RL (G : Nat → Prop) (s : M.Lk) (v : LV) (w : World) : Prop where
  ho : FI G 20 (fun j => .int .i64 (s.hd (j / 4) (j % 4) : Nat)) v.ph w
  wa : FI G 5 (fun t => .int .i64 ((s.wa t : Int) - 1)) v.pw w
  ac : RA G s.ac v.pa v.ca w
section
variable {G : Nat → Prop} {s : M.Lk} {v : LV} {l : List M.SAct} {p : Option Addr} {c : Nat} {w w' : World}
theorem RA.later (h : RA G l p c w) (hb : Below w.heap.size w w') : RA G l p c w' := ⟨h.nil, h.cap, fun j hj => by
  obtain ⟨b, off, e, hg, ha⟩ := h.act j hj
  exact ⟨b, off, e, hg, ha.later hb ha.lt⟩⟩
theorem RA.mono {G' : Nat → Prop} (h : RA G l p c w) (e : ∀ k, k < w.heap.size → G k → G' k) : RA G' l p c w := ⟨h.nil, h.cap, fun j hj => by
  obtain ⟨b, off, e1, hg, ha⟩ := h.act j hj
  exact ⟨b, off, e1, e b ha.lt hg, ha⟩⟩
theorem RA.frm {O : Nat → Prop} (h : RA G l p c w) (hf : Frm O w w') (e : ∀ k, G k → ¬ O k) : RA G l p c w' := ⟨h.nil, h.cap, fun j hj => by
  obtain ⟨b, off, e1, hg, ha⟩ := h.act j hj
  have hb := hf.block b ha.lt (e b hg)
  exact ⟨b, off, e1, hg, ⟨by have := hf.size; have := ha.lt; omega, (World.cell?_of_block (a := ⟨b, off + j * 3, none⟩) hb).trans ha.c0, (World.cell?_of_block (a := ⟨b, off + j * 3 + 1, none⟩) hb).trans ha.c1, (World.cell?_of_block (a := ⟨b, off + j * 3 + 2, none⟩) hb).trans ha.c2⟩⟩⟩
theorem RA.has (h : RA G l p c w) : HasAc (az l) p w := fun j hj => by
  rw [az_len] at hj
  obtain ⟨b, off, e1, hg, ha⟩ := h.act j hj
  exact ⟨b, off, e1, by rw [aAt_az]; exact ha⟩
theorem RL.later (h : RL G s v w) (hb : Below w.heap.size w w') : RL G s v w' := ⟨h.ho.later hb, h.wa.later hb, h.ac.later hb⟩
theorem RL.mono {G' : Nat → Prop} (h : RL G s v w) (e : ∀ k, k < w.heap.size → G k → G' k) : RL G' s v w := ⟨h.ho.mono e, h.wa.mono e, h.ac.mono e⟩
theorem RL.frm {O : Nat → Prop} (h : RL G s v w) (hf : Frm O w w') (e : ∀ k, G k → ¬ O k) : RL G s v w' := ⟨h.ho.frm hf e, h.wa.frm hf e, h.ac.frm hf e⟩
end
/-- Locks as a value. -/
abbrev rlV (s : M.Lk) (v : LV) : Value := .agg #[.slice v.ph 20 v.ch, .slice v.pw 5 v.cw, .int .i64 (M.frS s : Nat), .slice v.pa s.ac.length v.ca]
theorem M.agK_hit {f : Nat → Bool} {k : Nat} (h : f k = true) : M.cnt01 (k + 1) f = M.cnt01 k f + 2 ^ k := by
  have e : M.cnt01 (k + 1) f = M.cnt01 k f ||| (if f k then 1 <<< k else 0) := rfl
  rw [e, if_pos h]
  refine (add_pow_or _ _ ?_).symm
  rw [M.cnt01_bit, decide_eq_false (Nat.lt_irrefl _)]; rfl
theorem M.agK_miss {f : Nat → Bool} {k : Nat} (h : f k = false) : M.cnt01 (k + 1) f = M.cnt01 k f := by
  have e : M.cnt01 (k + 1) f = M.cnt01 k f ||| (if f k then 1 <<< k else 0) := rfl
  rw [e, h]; simp
end Go.Proofs.YtlkdclifcmohlaaDoor
