/- A move of the document's own bank (package whensteadref2, Move): what is refused, and a mark. -/
import Derived.Test.YtplplgpfglaajaaDoorRefB3
namespace Go.Proofs.YtplplgpfglaajaaDoor
open Go.RowKit
theorem results_bank {fn : Func} {t t5 : Tmp} (h : fn.results = #[.cell t 27, .tmp t5]) (tmps : Array Value) (w : World) (B : Nat) (n : Nat) (be : Bool) (v : RV) (c : Int) (hp : tmps.getD t undef = .pointer (some ⟨B, 0, none⟩)) (hc : tmps.getD t5 undef = .int .i64 c) (hr : LB B n be v w) :
    (results fn tmps).run Tryd.prog w = .ok (.tuple #[rbV n be v, .int .i64 c]) w := by
  have hp' : tmps[t]?.getD undef = .pointer (some ⟨B, 0, none⟩) := by simpa using hp
  have hc' : tmps[t5]?.getD undef = .int .i64 c := by simpa using hc
  have h0 := hr.c0
  have h1 := hr.c1
  have h2 := hr.c2
  have h3 := hr.c3
  have h4 := hr.c4
  have h5 := hr.c5
  simp [results, h, go_sem, hp', hc', h0, h1, h2, h3, h4, h5]
/-- a bank's six cells are stored into block R -/
abbrev cpy (w : World) (R n N2 : Nat) (be : Bool) (pm : Option Addr) (cm : Nat) (pn : Option Addr) (cn : Nat) (pw : Option Addr) (cw : Nat) (ph : Option Addr) (ch : Nat) (pc : Option Addr) (cc : Nat) : World :=
  (((((w.setCell ⟨R, 0, none⟩ (.slice pm n cm)).setCell ⟨R, 1, none⟩ (.slice pn n cn)).setCell ⟨R, 2, none⟩ (.slice pw N2 cw)).setCell ⟨R, 3, none⟩ (.slice ph N2 ch)).setCell ⟨R, 4, none⟩ (.slice pc N2 cc)).setCell ⟨R, 5, none⟩ (.bool be)
theorem LB.cpy {R n0 n N2 : Nat} {be be0 : Bool} {v0 : RV} {w : World} (h : LB R n0 be0 v0 w) (hN : n * n = N2) (v : RV) : LB R n be v (cpy w R n N2 be v.pm v.cm v.pn v.cn v.pw v.cw v.ph v.ch v.pc v.cc) := by
  subst hN
  exact (World.rowIs.set (World.rowIs.set (World.rowIs.set (World.rowIs.set (World.rowIs.set (World.rowIs.set h 0 _) 1 _) 2 _) 3 _) 4 _) 5 _).congr (fun k hk => by
    have : k = 0 ∨ k = 1 ∨ k = 2 ∨ k = 3 ∨ k = 4 ∨ k = 5 := by omega
    rcases this with rfl | rfl | rfl | rfl | rfl | rfl <;> simp [rbF])
theorem bel_cpy {B : Nat} {a w : World} (h : Below B a w) {R : Nat} (hR : B ≤ R) (n N2 : Nat) (be : Bool) (pm : Option Addr) (cm : Nat) (pn : Option Addr) (cn : Nat) (pw : Option Addr) (cw : Nat) (ph : Option Addr) (ch : Nat) (pc : Option Addr) (cc : Nat) : Below B a (cpy w R n N2 be pm cm pn cn pw cw ph ch pc cc) :=
  (((((h.setCell (p := ⟨R, 0, none⟩) hR _).setCell (p := ⟨R, 1, none⟩) hR _).setCell (p := ⟨R, 2, none⟩) hR _).setCell (p := ⟨R, 3, none⟩) hR _).setCell (p := ⟨R, 4, none⟩) hR _).setCell (p := ⟨R, 5, none⟩) hR _
theorem RB.cpy {G : Nat → Prop} {n0 : Nat} {b : M.Bk} {v : RV} {w : World} (h : RB G n0 b v w) {R : Nat} (hR : ¬ G R) (n N2 : Nat) (be : Bool) (pm : Option Addr) (cm : Nat) (pn : Option Addr) (cn : Nat) (pw : Option Addr) (cw : Nat) (ph : Option Addr) (ch : Nat) (pc : Option Addr) (cc : Nat) : RB G n0 b v (cpy w R n N2 be pm cm pn cn pw cw ph ch pc cc) :=
  (((((h.set (a := ⟨R, 0, none⟩) hR _).set (a := ⟨R, 1, none⟩) hR _).set (a := ⟨R, 2, none⟩) hR _).set (a := ⟨R, 3, none⟩) hR _).set (a := ⟨R, 4, none⟩) hR _).set (a := ⟨R, 5, none⟩) hR _
/-- the move in block A -/
def MB (A : Nat) (k f t s : Int) (w : World) : Prop := w.rowIs A 38 4 (fun i => if i = 0 then .int .i64 k else if i = 1 then .int .i64 f else if i = 2 then .int .i64 t else .int .i64 s)
theorem mb_alloc (w : World) (k f t s : Int) : MB w.heap.size k f t s (w.alloc (.cells #[.int .i64 k, .int .i64 f, .int .i64 t, .int .i64 s] 38)) := by
  refine World.rowIs_alloc w #[.int .i64 k, .int .i64 f, .int .i64 t, .int .i64 s] _ _ (fun i hi => ?_)
  have hi' : i < 4 := hi
  rcases i with _ | _ | _ | _ | i
  · rfl
  · rfl
  · rfl
  · rfl
  · omega
section
variable {A : Nat} {k f t s : Int} {w w' : World}
theorem MB.below (h : MB A k f t s w) {N : Nat} (hb : Below N w w') (hN : A < N) : MB A k f t s w' := World.rowIs.of_block h (hb.block _ hN)
theorem MB.other (h : MB A k f t s w) {a : Addr} (ha : A ≠ a.block) (u : Value) : MB A k f t s (w.setCell a u) := World.rowIs.setOther h ha u
theorem MB.lt (h : MB A k f t s w) : A < w.heap.size := World.rowIs.lt h
theorem MB.c0 (h : MB A k f t s w) : w.cell? ⟨A, 0, none⟩ = some (.int .i64 k) := World.rowIs.cell h (i := 0) (by omega)
theorem MB.c1 (h : MB A k f t s w) : w.cell? ⟨A, 1, none⟩ = some (.int .i64 f) := World.rowIs.cell h (i := 1) (by omega)
theorem MB.c2 (h : MB A k f t s w) : w.cell? ⟨A, 2, none⟩ = some (.int .i64 t) := World.rowIs.cell h (i := 2) (by omega)
theorem MB.c3 (h : MB A k f t s w) : w.cell? ⟨A, 3, none⟩ = some (.int .i64 s) := World.rowIs.cell h (i := 3) (by omega)
end
/-- What a move of the document's bank begins with: the bank in block N, the move in block N + 1, what is handed back in block N + 2; the bank's lists lie elsewhere. -/
structure MS (N : Nat) (G : Nat → Prop) (n : Nat) (be : Bool) (b : M.Bk) (v : RV) (k f t s : Int) (w0 w : World) : Prop where
  rb : RB G n b v w
  lb : LB N n be v w
  mb : MB (N + 1) k f t s w
  zb : LB (N + 1 + 1) 0 false v0 w
  bl : Below N w0 w
  nl : ¬ G N
  nz : ¬ G (N + 1 + 1)
  fr : ∀ j, N + 1 + 1 < j → G j
theorem ms_begin {G : Nat → Prop} {n : Nat} {b : M.Bk} {v : RV} {w : World} (be : Bool) (k f t s : Int) (hR : RB G n b v w) (hG : ∀ k, w.heap.size ≤ k → G k) : MS w.heap.size (fun j => G j ∧ j ≠ w.heap.size ∧ j ≠ w.heap.size + 1 ∧ j ≠ w.heap.size + 1 + 1) n be b v k f t s w
    (((w.alloc (.cells #[.slice v.pm n v.cm, .slice v.pn n v.cn, .slice v.pw (n * n) v.cw, .slice v.ph (n * n) v.ch, .slice v.pc (n * n) v.cc, .bool be] 27)).alloc (.cells #[.int .i64 k, .int .i64 f, .int .i64 t, .int .i64 s] 38)).alloc (.cells #[.slice none 0 0, .slice none 0 0, .slice none 0 0, .slice none 0 0, .slice none 0 0, .bool false] 27)) := by
  obtain ⟨w1, hw1⟩ : ∃ w1, w.alloc (.cells #[.slice v.pm n v.cm, .slice v.pn n v.cn, .slice v.pw (n * n) v.cw, .slice v.ph (n * n) v.ch, .slice v.pc (n * n) v.cc, .bool be] 27) = w1 := ⟨_, rfl⟩
  rw [hw1]
  obtain ⟨w2, hw2⟩ : ∃ w2, w1.alloc (.cells #[.int .i64 k, .int .i64 f, .int .i64 t, .int .i64 s] 38) = w2 := ⟨_, rfl⟩
  rw [hw2]
  obtain ⟨w3, hw3⟩ : ∃ w3, w2.alloc (.cells #[.slice none 0 0, .slice none 0 0, .slice none 0 0, .slice none 0 0, .slice none 0 0, .bool false] 27) = w3 := ⟨_, rfl⟩
  rw [hw3]
  have s1 : w1.heap.size = w.heap.size + 1 := by subst hw1; simp
  have s2 : w2.heap.size = w.heap.size + 1 + 1 := by subst hw2; simp [s1]
  have L1 : LB w.heap.size n be v w1 := by rw [← hw1]; exact rb_alloc w n be v
  have M2 : MB (w.heap.size + 1) k f t s w2 := by rw [← s1, ← hw2]; exact mb_alloc w1 k f t s
  have Z3 : LB (w.heap.size + 1 + 1) 0 false v0 w3 := by rw [← s2, ← hw3]; exact rb_alloc w2 0 false v0
  have B1 : Below w.heap.size w w1 := by rw [← hw1]; exact bel_al (Below.refl _ _) _
  have B2 : Below w1.heap.size w1 w2 := by rw [← hw2]; exact bel_al (Below.refl _ _) _
  have B3 : Below w2.heap.size w2 w3 := by rw [← hw3]; exact bel_al (Below.refl _ _) _
  have BB := bel_on (bel_on B1 B2) B3
  refine ⟨(hR.mono (fun j hj hg => ⟨hg, by omega, by omega, by omega⟩)).later BB, (L1.below B2 L1.lt).below B3 (by omega), M2.below B3 M2.lt, Z3, BB, fun e => e.2.1 rfl, fun e => e.2.2.2 rfl, fun j hj => ⟨hG j (by omega), by omega, by omega, by omega⟩⟩
/-- a bank is handed back as it stands -/
theorem MS.ret {N : Nat} {G G0 : Nat → Prop} {n N2 : Nat} {be : Bool} {b : M.Bk} {v : RV} {k f t s : Int} {w0 w : World} (h : MS N G n be b v k f t s w0 w) (hN : n * n = N2) (hG : ∀ j, G j → G0 j) :
    LB (N + 1 + 1) n be v (cpy w (N + 1 + 1) n N2 be v.pm v.cm v.pn v.cn v.pw v.cw v.ph v.ch v.pc v.cc) ∧ RB G0 n b v (cpy w (N + 1 + 1) n N2 be v.pm v.cm v.pn v.cn v.pw v.cw v.ph v.ch v.pc v.cc) ∧ Below N w0 (cpy w (N + 1 + 1) n N2 be v.pm v.cm v.pn v.cn v.pw v.cw v.ph v.ch v.pc v.cc) :=
  ⟨h.zb.cpy hN v, (h.rb.cpy h.nz _ _ _ _ _ _ _ _ _ _ _ _ _).mono (fun j _ hj => hG j hj), bel_cpy h.bl (by omega) _ _ _ _ _ _ _ _ _ _ _ _ _⟩
section
variable {N : Nat} {G : Nat → Prop} {n : Nat} {be : Bool} {b : M.Bk} {v : RV} {k f t s : Int} {w0 w w' : World}
theorem MS.sz (h : MS N G n be b v k f t s w0 w) : N + 1 + 1 < w.heap.size := h.zb.lt
theorem MS.later (h : MS N G n be b v k f t s w0 w) (hb : Below w.heap.size w w') : MS N G n be b v k f t s w0 w' :=
  ⟨h.rb.later hb, h.lb.below hb h.lb.lt, h.mb.below hb h.mb.lt, h.zb.below hb h.zb.lt, h.bl.trans (hb.mono (by have := h.sz; omega)), h.nl, h.nz, h.fr⟩
theorem MS.fresh (h : MS N G n be b v k f t s w0 w) (hb : Below w.heap.size w w') : ∀ j, w'.heap.size ≤ j → G j := fun j hj => h.fr j (by have := h.sz; have := hb.size; omega)
/-- a field is stored anew -/
theorem MS.field (h : MS N G n be b v k f t s w0 w) (hb : Below w.heap.size w w') {b' : M.Bk} {v' : RV} {be' : Bool} (i : Nat) (u : Value) (hr : RB G n b' v' w') (hl : LB N n be' v' (w'.setCell ⟨N, i, none⟩ u)) : MS N G n be' b' v' k f t s w0 (w'.setCell ⟨N, i, none⟩ u) := by
  have h' := h.later hb
  exact ⟨hr.set (a := ⟨N, i, none⟩) h.nl u, hl, h'.mb.other (a := ⟨N, i, none⟩) (show N + 1 ≠ N by omega) u, h'.zb.other (a := ⟨N, i, none⟩) (show N + 1 + 1 ≠ N by omega) u, h'.bl.setCell (p := ⟨N, i, none⟩) (Nat.le_refl _) u, h.nl, h.nz, h.fr⟩
/-- the whole bank is stored anew -/
theorem MS.whole (h : MS N G n be b v k f t s w0 w) (hb : Below w.heap.size w w') {b' : M.Bk} {v' : RV} {be' : Bool} {N2 : Nat} (hN : n * n = N2) (hr : RB G n b' v' w') : MS N G n be' b' v' k f t s w0 (cpy w' N n N2 be' v'.pm v'.cm v'.pn v'.cn v'.pw v'.cw v'.ph v'.ch v'.pc v'.cc) := by
  have h' := h.later hb
  refine ⟨hr.cpy h.nl _ _ _ _ _ _ _ _ _ _ _ _ _, h'.lb.cpy hN v', ?_, ?_, bel_cpy h'.bl (Nat.le_refl _) _ _ _ _ _ _ _ _ _ _ _ _ _, h.nl, h.nz, h.fr⟩
  · exact (((((h'.mb.other (a := ⟨N, 0, none⟩) (show N + 1 ≠ N by omega) _).other (a := ⟨N, 1, none⟩) (show N + 1 ≠ N by omega) _).other (a := ⟨N, 2, none⟩) (show N + 1 ≠ N by omega) _).other (a := ⟨N, 3, none⟩) (show N + 1 ≠ N by omega) _).other (a := ⟨N, 4, none⟩) (show N + 1 ≠ N by omega) _).other (a := ⟨N, 5, none⟩) (show N + 1 ≠ N by omega) _
  · exact (((((h'.zb.other (a := ⟨N, 0, none⟩) (show N + 1 + 1 ≠ N by omega) _).other (a := ⟨N, 1, none⟩) (show N + 1 + 1 ≠ N by omega) _).other (a := ⟨N, 2, none⟩) (show N + 1 + 1 ≠ N by omega) _).other (a := ⟨N, 3, none⟩) (show N + 1 + 1 ≠ N by omega) _).other (a := ⟨N, 4, none⟩) (show N + 1 + 1 ≠ N by omega) _).other (a := ⟨N, 5, none⟩) (show N + 1 + 1 ≠ N by omega) _
end
end Go.Proofs.YtplplgpfglaajaaDoor
