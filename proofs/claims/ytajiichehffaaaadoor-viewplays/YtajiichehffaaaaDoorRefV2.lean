/- How things stand within a step of the document's own store of views (whensteadref3.View). No walk. -/
import Derived.Test.YtajiichehffaaaaDoorRefV1
namespace Go.Proofs.YtajiichehffaaaaDoor
open Go.RowKit
/-- is a number within? -/
def inK (z lo hi : Int) : Bool := decide (lo ≤ z ∧ z ≤ hi)
set_option maxHeartbeats 400000 in
theorem ink_ok (z lo hi : Int) (w : World) :
    Calls Tryd.prog 29 #[.int .i64 z, .int .i64 lo, .int .i64 hi] w fun e w' => e = .returned (.bool (inK z lo hi)) ∧ w = w' := by
  by_cases h : lo ≤ z
  · have e : Hid (inK z lo hi = decide (z ≤ hi)) := by show _ = _; unfold inK; rw [Bool.eq_iff_iff]; simp [h]
    go_enter Tryd.func29, Tryd.ntmps29
    go_wp2
    go_ret
    exact ⟨bool_ret e.out.symm, rfl⟩
  · have h' : z < lo := by omega
    have e : Hid (inK z lo hi = false) := by show _ = _; unfold inK; rw [decide_eq_false]; omega
    clear h
    go_enter Tryd.func29, Tryd.ntmps29
    go_wp2
    go_ret
    exact ⟨bool_ret e.out.symm, rfl⟩
/-- The store in block N, the deed in N + 1, what is handed back in N + 2; what was done lies elsewhere. -/
structure KV (N : Nat) (G : Nat → Prop) (o : Dz) (D : List Dz) (st : Nat) (p : Option Addr) (c : Nat) (w0 w : World) : Prop where
  rd : RD G D p c w
  rs : RS N st D.length p c w
  ab : DeAt o (N + 1) 0 w
  zb : RS (N + 2) 0 0 none 0 w
  bl : Below N w0 w
  nl : ¬ G N
  n1 : ¬ G (N + 1)
  nz : ¬ G (N + 2)
  fr : ∀ j, N + 2 < j → G j
theorem DeAt.setP {o : Dz} {b k : Nat} {w : World} (h : DeAt o b k w) {a : Addr} (ha : b ≠ a.block) (u : Value) : DeAt o b k (w.setCell a u) := by
  have hb := Below.heap_setCell w a u b ha
  exact ⟨by have := h.lt; simpa [World.setCell] using this, (World.cell?_of_block (a := ⟨b, k, none⟩) hb).trans h.c0, (World.cell?_of_block (a := ⟨b, k + 1, none⟩) hb).trans h.c1, (World.cell?_of_block (a := ⟨b, k + 2, none⟩) hb).trans h.c2, (World.cell?_of_block (a := ⟨b, k + 3, none⟩) hb).trans h.c3⟩
theorem kv_begin {G : Nat → Prop} {o : Dz} {D : List Dz} {st : Nat} {p : Option Addr} {c : Nat} {w : World} (hR : RD G D p c w) (hG : ∀ j, w.heap.size ≤ j → G j) : KV w.heap.size (fun j => G j ∧ j ≠ w.heap.size ∧ j ≠ w.heap.size + 1 ∧ j ≠ w.heap.size + 2) o D st p c w
    (((w.alloc (.cells #[.slice p D.length c, .int .i64 (st : Nat)] 41)).alloc (.cells #[.int .i64 o.k, .int .i64 o.t, .int .i64 o.i, .int .i64 o.x] 31)).alloc (.cells #[.slice none 0 0, .int .i64 0] 41)) := by
  have L1 := rs_alloc w st D.length p c
  obtain ⟨w1, hw1⟩ : ∃ w1, w.alloc (.cells #[.slice p D.length c, .int .i64 (st : Nat)] 41) = w1 := ⟨_, rfl⟩
  have s1 : w1.heap.size = w.heap.size + 1 := by subst hw1; simp
  have B1 : Below w.heap.size w w1 := by rw [← hw1]; exact bel_al (Below.refl _ _) _
  rw [hw1] at L1 ⊢
  have D2 := deAt_new w1 o
  obtain ⟨w2, hw2⟩ : ∃ w2, w1.alloc (.cells #[.int .i64 o.k, .int .i64 o.t, .int .i64 o.i, .int .i64 o.x] 31) = w2 := ⟨_, rfl⟩
  have s2 : w2.heap.size = w.heap.size + 2 := by subst hw2; simp; omega
  have B2 : Below w1.heap.size w1 w2 := by rw [← hw2]; exact bel_al (Below.refl _ _) _
  rw [hw2] at D2 ⊢
  have Z3 : RS w2.heap.size 0 0 none 0 (w2.alloc (.cells #[.slice none 0 0, .int .i64 0] 41)) := rs_alloc w2 0 0 none 0
  obtain ⟨w3, hw3⟩ : ∃ w3, w2.alloc (.cells #[.slice none 0 0, .int .i64 0] 41) = w3 := ⟨_, rfl⟩
  have B3 : Below w2.heap.size w2 w3 := by rw [← hw3]; exact bel_al (Below.refl _ _) _
  rw [hw3] at Z3 ⊢
  have B12 := bel_on B1 B2
  have B13 := bel_on B12 B3
  rw [s1] at D2
  rw [s2] at Z3
  exact ⟨(hR.mono (fun j hj hg => ⟨hg, by omega, by omega, by omega⟩)).later B13, (L1.below B2).below B3, D2.later B3 (by omega), Z3, B13, fun e => e.2.1 rfl, fun e => e.2.2.1 rfl, fun e => e.2.2.2 rfl, fun j hj => ⟨hG j (by omega), by omega, by omega, by omega⟩⟩
section
variable {N : Nat} {G G0 : Nat → Prop} {o : Dz} {D D' : List Dz} {st st' : Nat} {p : Option Addr} {c : Nat} {w0 w w' : World}
theorem KV.ret (h : KV N G o D st p c w0 w) (hG : ∀ j, G j → G0 j) : RS (N + 2) st D.length p c (cpyS w (N + 2) st D.length p c) ∧ RD G0 D p c (cpyS w (N + 2) st D.length p c) ∧ Below N w0 (cpyS w (N + 2) st D.length p c) :=
  ⟨h.zb.cpy _ _ _ _, (h.rd.cpyP h.nz _ _ _ _).mono (fun j _ hj => hG j hj), bel_cpyS h.bl (by omega) _ _ _ _⟩
theorem KV.sz (h : KV N G o D st p c w0 w) : N + 2 < w.heap.size := h.zb.lt
theorem KV.later (h : KV N G o D st p c w0 w) (hb : Below w.heap.size w w') : KV N G o D st p c w0 w' :=
  ⟨h.rd.later hb, h.rs.below hb, h.ab.later hb h.ab.lt, h.zb.below hb, h.bl.trans (hb.mono (by have := h.sz; omega)), h.nl, h.n1, h.nz, h.fr⟩
theorem KV.setT (h : KV N G o D st p c w0 w) (st' : Nat) : KV N G o D st' p c w0 (w.setCell ⟨N, 1, none⟩ (.int .i64 (st' : Nat))) :=
  ⟨h.rd.setP (a := ⟨N, 1, none⟩) h.nl _, h.rs.setT _, h.ab.setP (a := ⟨N, 1, none⟩) (show N + 1 ≠ N by omega) _, h.zb.other (x := ⟨N, 1, none⟩) (show N + 2 ≠ N by omega) _, h.bl.setCell (p := ⟨N, 1, none⟩) (Nat.le_refl _) _, h.nl, h.n1, h.nz, h.fr⟩
theorem KV.setA (h : KV N G o D st p c w0 w) {p' : Option Addr} {c' : Nat} (hf : RD G D' p' c' w) : KV N G o D' st p' c' w0 (w.setCell ⟨N, 0, none⟩ (.slice p' D'.length c')) :=
  ⟨hf.setP (a := ⟨N, 0, none⟩) h.nl _, h.rs.setA _ p' c', h.ab.setP (a := ⟨N, 0, none⟩) (show N + 1 ≠ N by omega) _, h.zb.other (x := ⟨N, 0, none⟩) (show N + 2 ≠ N by omega) _, h.bl.setCell (p := ⟨N, 0, none⟩) (Nat.le_refl _) _, h.nl, h.n1, h.nz, h.fr⟩
theorem KV.when (h : KV N G o D st p c w0 w) (t k : Int) : Calls Tryd.prog 30 #[.agg #[.slice p D.length c, .int .i64 (st : Nat)], .int .i64 t, .int .i64 k] w fun e w' => e = .returned (.int .i64 (whZ D t k)) ∧ Hid (KV N G o D st p c w0 w') := by
  refine (rwhen_ok st t k p c w h.rd).mono ?_
  rintro e w' ⟨rfl, hB⟩
  exact ⟨rfl, h.later hB⟩
theorem KV.wrote (h : KV N G o D st p c w0 w) (t i : Int) : Calls Tryd.prog 31 #[.agg #[.slice p D.length c, .int .i64 (st : Nat)], .int .i64 t, .int .i64 i] w fun e w' => e = .returned (.bool (wrZ D t i)) ∧ Hid (KV N G o D st p c w0 w') := by
  refine (rwrote_ok st t i p c w h.rd).mono ?_
  rintro e w' ⟨rfl, hB⟩
  exact ⟨rfl, h.later hB⟩
theorem KV.last (h : KV N G o D st p c w0 w) (i : Int) (m : Nat) (hm : m ≤ D.length) : Calls Tryd.prog 32 #[.agg #[.slice p D.length c, .int .i64 (st : Nat)], .int .i64 i, .int .i64 (m : Nat)] w fun e w' => e = .returned (.int .i64 (laZ D i m)) ∧ Hid (KV N G o D st p c w0 w') := by
  refine (rlastof_ok st i m p c w h.rd hm).mono ?_
  rintro e w' ⟨rfl, hB⟩
  exact ⟨rfl, h.later hB⟩
end
end Go.Proofs.YtajiichehffaaaaDoor
