/- The document's own table in memory (package whensteadref2, Table); where a number stands (place); a new one (NewTable). -/
import Derived.Test.YtelonimdpeenaaaDoorRefT1
import Derived.Laws.MakeOwn
import Derived.Deep.CutRange
namespace Go.Proofs.YtelonimdpeenaaaDoor
open Go.RowKit

/-- Where a table's lists lie. -/
structure TT where
  pk : Option Addr
  ck : Nat
  pd : Option Addr
  cd : Nat
def tt0 : TT := ⟨none, 0, none, 0⟩
/-- A table, cell by cell. -/
def ltF (n m d : Nat) (v : TT) (i : Nat) : Value := if i = 0 then .int .i64 (n : Nat) else if i = 1 then .slice v.pk m v.ck else .slice v.pd d v.cd
/-- A table of n processes, m numbers and d counts, in block B. -/
def LT (B n m d : Nat) (v : TT) (w : World) : Prop := w.rowIs B 31 3 (ltF n m d v)
/-- A table's lists. -/
structure RT (G : Nat → Prop) (n m : Nat) (k : M.Kt) (W : Nat → Nat) (v : TT) (w : World) : Prop where
  kn : ∃ f, FI G m (nF f) v.pk w ∧ M.Row3 n f k
  dn : FI G n (nF W) v.pd w
section
variable {B n m d : Nat} {v : TT} {w w' : World}
theorem LT.lt (h : LT B n m d v w) : B < w.heap.size := World.rowIs.lt h
theorem LT.below (h : LT B n m d v w) (hb : Below w.heap.size w w') : LT B n m d v w' := World.rowIs.of_block h (hb.block _ h.lt)
theorem LT.other (h : LT B n m d v w) {a : Addr} (ha : B ≠ a.block) (u : Value) : LT B n m d v (w.setCell a u) := World.rowIs.setOther h ha u
theorem LT.frm {O : Nat → Prop} (h : LT B n m d v w) (hf : Frm O w w') (hO : ¬ O B) : LT B n m d v w' := World.rowIs.of_block h (hf.block _ h.lt hO)
theorem LT.c0 (h : LT B n m d v w) : w.cell? ⟨B, 0, none⟩ = some (.int .i64 (n : Nat)) := World.rowIs.cell h (i := 0) (by omega)
theorem LT.c1 (h : LT B n m d v w) : w.cell? ⟨B, 1, none⟩ = some (.slice v.pk m v.ck) := World.rowIs.cell h (i := 1) (by omega)
theorem LT.c2 (h : LT B n m d v w) : w.cell? ⟨B, 2, none⟩ = some (.slice v.pd d v.cd) := World.rowIs.cell h (i := 2) (by omega)
theorem LT.fz (h : LT B n m d v w) (i : Nat) : w.frozen? ⟨B, i, none⟩ = false := World.rowIs.frozen h i
theorem LT.setK (h : LT B n m d v w) (p : Option Addr) (c : Nat) : LT B n m d { v with pk := p, ck := c } (w.setCell ⟨B, 1, none⟩ (.slice p m c)) :=
  (World.rowIs.set h 1 _).congr (fun i hi => by
    have : i = 0 ∨ i = 1 ∨ i = 2 := by omega
    rcases this with rfl | rfl | rfl <;> simp [ltF])
theorem LT.setD (h : LT B n m d v w) (p : Option Addr) (c : Nat) : LT B n m d { v with pd := p, cd := c } (w.setCell ⟨B, 2, none⟩ (.slice p d c)) :=
  (World.rowIs.set h 2 _).congr (fun i hi => by
    have : i = 0 ∨ i = 1 ∨ i = 2 := by omega
    rcases this with rfl | rfl | rfl <;> simp [ltF])
end
/-- a table's three cells are stored into block R -/
abbrev cpyT (w : World) (R n m d : Nat) (pk : Option Addr) (ck : Nat) (pd : Option Addr) (cd : Nat) : World :=
  ((w.setCell ⟨R, 0, none⟩ (.int .i64 (n : Nat))).setCell ⟨R, 1, none⟩ (.slice pk m ck)).setCell ⟨R, 2, none⟩ (.slice pd d cd)
theorem LT.cpy {R n0 m0 d0 n m d : Nat} {v0 : TT} {w : World} (h : LT R n0 m0 d0 v0 w) (v : TT) : LT R n m d v (cpyT w R n m d v.pk v.ck v.pd v.cd) :=
  (World.rowIs.set (World.rowIs.set (World.rowIs.set h 0 _) 1 _) 2 _).congr (fun i hi => by
    have : i = 0 ∨ i = 1 ∨ i = 2 := by omega
    rcases this with rfl | rfl | rfl <;> simp [ltF])
theorem lt_alloc (w : World) (n m d : Nat) (v : TT) : LT w.heap.size n m d v (w.alloc (.cells #[.int .i64 (n : Nat), .slice v.pk m v.ck, .slice v.pd d v.cd] 31)) := by
  refine World.rowIs_alloc w #[.int .i64 (n : Nat), .slice v.pk m v.ck, .slice v.pd d v.cd] _ _ (fun i hi => ?_)
  have hi' : i < 3 := hi
  rcases i with _ | _ | _ | i
  · rfl
  · rfl
  · rfl
  · omega
theorem bel_cpyT {B : Nat} {a w : World} (h : Below B a w) {R : Nat} (hR : B ≤ R) (n m d : Nat) (pk : Option Addr) (ck : Nat) (pd : Option Addr) (cd : Nat) : Below B a (cpyT w R n m d pk ck pd cd) :=
  ((h.setCell (p := ⟨R, 0, none⟩) hR _).setCell (p := ⟨R, 1, none⟩) hR _).setCell (p := ⟨R, 2, none⟩) hR _
section
variable {G : Nat → Prop} {n m : Nat} {k : M.Kt} {W : Nat → Nat} {v : TT} {w w' : World}
theorem FI.set {G : Nat → Prop} {n : Nat} {f : Nat → Value} {p : Option Addr} {w : World} (h : FI G n f p w) {a : Addr} (ha : ¬ G a.block) (u : Value) : FI G n f p (w.setCell a u) := fun j hj => by
  obtain ⟨b, off, h1, h2, h3, h4⟩ := h j hj
  refine ⟨b, off, h1, by simpa [World.setCell] using h2, h3, ?_⟩
  rw [World.cell?_of_block (Below.heap_setCell _ _ _ _ (fun (e : b = a.block) => ha (e ▸ h3)))]
  exact h4
theorem RT.later (h : RT G n m k W v w) (hb : Below w.heap.size w w') : RT G n m k W v w' := by
  obtain ⟨⟨f, h1, h2⟩, h3⟩ := h
  exact ⟨⟨f, h1.later hb, h2⟩, h3.later hb⟩
theorem RT.mono {G' : Nat → Prop} (h : RT G n m k W v w) (e : ∀ j, j < w.heap.size → G j → G' j) : RT G' n m k W v w := by
  obtain ⟨⟨f, h1, h2⟩, h3⟩ := h
  exact ⟨⟨f, h1.mono e, h2⟩, h3.mono e⟩
theorem RT.frm {O : Nat → Prop} (h : RT G n m k W v w) (hf : Frm O w w') (e : ∀ j, G j → ¬ O j) : RT G n m k W v w' := by
  obtain ⟨⟨f, h1, h2⟩, h3⟩ := h
  exact ⟨⟨f, h1.frm hf e, h2⟩, h3.frm hf e⟩
theorem RT.set (h : RT G n m k W v w) {a : Addr} (ha : ¬ G a.block) (u : Value) : RT G n m k W v (w.setCell a u) := by
  obtain ⟨⟨f, h1, h2⟩, h3⟩ := h
  exact ⟨⟨f, h1.set ha u, h2⟩, h3.set ha u⟩
theorem RT.cpy (h : RT G n m k W v w) {R : Nat} (hR : ¬ G R) (n' m' d' : Nat) (pk : Option Addr) (ck : Nat) (pd : Option Addr) (cd : Nat) : RT G n m k W v (cpyT w R n' m' d' pk ck pd cd) :=
  ((h.set (a := ⟨R, 0, none⟩) hR _).set (a := ⟨R, 1, none⟩) hR _).set (a := ⟨R, 2, none⟩) hR _
end
/-- A table as a value. -/
abbrev rtV (n m : Nat) (v : TT) : Value := .agg #[.int .i64 (n : Nat), .slice v.pk m v.ck, .slice v.pd n v.cd]
theorem results_tab {fn : Func} {t : Tmp} (h : fn.results = #[.cell t 31]) (tmps : Array Value) (w : World) (B n m : Nat) (v : TT) (hp : tmps.getD t undef = .pointer (some ⟨B, 0, none⟩)) (hr : LT B n m n v w) :
    (results fn tmps).run Tryd.prog w = .ok (rtV n m v) w := by
  have hp' : tmps[t]?.getD undef = .pointer (some ⟨B, 0, none⟩) := by simpa using hp
  have h0 := hr.c0
  have h1 := hr.c1
  have h2 := hr.c2
  simp [results, h, go_sem, hp', h0, h1, h2]
theorem results_tabc {fn : Func} {t u : Tmp} (h : fn.results = #[.cell t 31, .tmp u]) (tmps : Array Value) (w : World) (B n m : Nat) (v : TT) (c : Int) (hp : tmps.getD t undef = .pointer (some ⟨B, 0, none⟩)) (hc : tmps.getD u undef = .int .i64 c) (hr : LT B n m n v w) :
    (results fn tmps).run Tryd.prog w = .ok (.tuple #[rtV n m v, .int .i64 c]) w := by
  have hp' : tmps[t]?.getD undef = .pointer (some ⟨B, 0, none⟩) := by simpa using hp
  have hc' : tmps[u]?.getD undef = .int .i64 c := by simpa using hc
  have h0 := hr.c0
  have h1 := hr.c1
  have h2 := hr.c2
  simp [results, h, go_sem, hp', hc', h0, h1, h2]
set_option maxHeartbeats 1000000 in
theorem place_ok (n m a b c i : Nat) (v : TT) (w : World) (h5 : n ≤ 5) (ha : a < n) (hb : b < n) (hc : c < n) (hi : (a * n + b) * n + c = i) :
    Calls Tryd.prog 16 #[rtV n m v, .int .i64 (a : Nat), .int .i64 (b : Nat), .int .i64 (c : Nat)] w fun e w' => e = .returned (.int .i64 (i : Nat)) ∧ Below w.heap.size w w' := by
  obtain ⟨g1, hg1⟩ : ∃ g1, a * n = g1 := ⟨_, rfl⟩
  obtain ⟨g2, hg2⟩ : ∃ g2, g1 + b = g2 := ⟨_, rfl⟩
  obtain ⟨g3, hg3⟩ : ∃ g3, g2 * n = g3 := ⟨_, rfl⟩
  rw [hg1, hg2, hg3] at hi
  have i1 : (a : Int) * (n : Int) = (g1 : Int) := by rw [← hg1]; exact (Int.natCast_mul a n).symm
  have i2 : (g1 : Int) + (b : Int) = (g2 : Int) := by omega
  have i3 : (g2 : Int) * (n : Int) = (g3 : Int) := by rw [← hg3]; exact (Int.natCast_mul g2 n).symm
  have i4 : (g3 : Int) + (c : Int) = (i : Int) := by omega
  have v1 : g1 ≤ 25 := by rw [← hg1]; exact Nat.mul_le_mul (show a ≤ 5 by omega) h5
  have v2 : g2 ≤ 30 := by omega
  have v3 : g3 ≤ 150 := by rw [← hg3]; exact Nat.mul_le_mul v2 h5
  clear hg1 hg2 hg3
  go_enter Tryd.func16, Tryd.ntmps16
  go_wp2_with fail
  go_ret
  exact ⟨rfl, bel_al (Below.refl _ _) _⟩
theorem made_int (w : World) (n : Nat) {A : Nat} (h : w.heap.size = A) : (w.alloc (.cells (madeCells #[.int .i64 0] n) 3)).rowIs A 3 n (fun _ => .int .i64 0) := h ▸ World.rowIs_made w _ n _
theorem newT_fin {w W : World} {n m b1 b2 : Nat} (h1 : W.rowIs b1 3 m (fun _ => .int .i64 0)) (h2 : W.rowIs b2 3 n (fun _ => .int .i64 0)) (g1 : w.heap.size ≤ b1) (g2 : w.heap.size ≤ b2) : RT (fun j => w.heap.size ≤ j) n m M.k0 (fun _ => 0) ⟨some ⟨b1, 0, none⟩, m, some ⟨b2, 0, none⟩, n⟩ W :=
  ⟨⟨fun _ => 0, fun j hj => ⟨b1, 0, rfl, h1.lt, g1, by rw [Nat.zero_add]; exact h1.cell hj⟩, M.Row3.zero n⟩, fun j hj => ⟨b2, 0, rfl, h2.lt, g2, by rw [Nat.zero_add]; exact h2.cell hj⟩⟩
set_option maxRecDepth 100000 in
set_option maxHeartbeats 2000000 in
theorem rnewT_ok (n m : Nat) (w : World) (h5 : n ≤ 5) (hm : n * n * n = m) :
    Calls Tryd.prog 6 #[.int .i64 (n : Nat)] w fun e w' => ∃ v, e = .returned (rtV n m v) ∧ RT (fun j => w.heap.size ≤ j) n m M.k0 (fun _ => 0) v w' ∧ Below w.heap.size w w' := by
  obtain ⟨n2, hn2⟩ : ∃ n2, n * n = n2 := ⟨_, rfl⟩
  rw [hn2] at hm
  have m2 : (n : Int) * (n : Int) = (n2 : Int) := by rw [← hn2]; exact (Int.natCast_mul n n).symm
  have m3 : (n2 : Int) * (n : Int) = (m : Int) := by rw [← hm]; exact (Int.natCast_mul n2 n).symm
  have b2 : n2 ≤ 25 := by rw [← hn2]; exact Nat.mul_le_mul h5 h5
  have b3 : m ≤ 125 := by rw [← hm]; exact Nat.mul_le_mul b2 h5
  have hmk1 := run_make_row' (P := Tryd.prog) 29 3 (.int .i64 0) 8 Tryd.underlying29 infoZT rfl .i64 .i64 n (by omega) (by omega)
  have hmk3 := run_make_row' (P := Tryd.prog) 29 3 (.int .i64 0) 8 Tryd.underlying29 infoZT rfl .i64 .i64 m (by omega) (by omega)
  clear hm hn2
  go_enter Tryd.func6, Tryd.ntmps6
  go_wp2_with fail
  go_region
  all_goals go_wp2_with fail
  · refine bodyPost_ret (v := rtV n m ⟨some ⟨w.heap.size + 1, 0, none⟩, m, some ⟨w.heap.size + 1 + 1, 0, none⟩, n⟩) (results_tab rfl _ _ w.heap.size n m ⟨some ⟨w.heap.size + 1, 0, none⟩, m, some ⟨w.heap.size + 1 + 1, 0, none⟩, n⟩ rfl (World.rowIs.alloc (World.rowIs.alloc (lt_alloc w n m n ⟨some ⟨w.heap.size + 1, 0, none⟩, m, some ⟨w.heap.size + 1 + 1, 0, none⟩, n⟩) _) _)) rfl ⟨_, rfl, newT_fin ((made_int _ m (by simp)).alloc _) (made_int _ n (by simp)) (by omega) (by omega), (bel_al (bel_al (bel_al (Below.refl _ _) _) _) _).drew⟩
  · refine bodyPost_ret (v := rtV n m ⟨some ⟨w.heap.size + 1 + 1, 0, none⟩, m, some ⟨w.heap.size + 1, 0, none⟩, n⟩) (results_tab rfl _ _ w.heap.size n m ⟨some ⟨w.heap.size + 1 + 1, 0, none⟩, m, some ⟨w.heap.size + 1, 0, none⟩, n⟩ rfl (World.rowIs.alloc (World.rowIs.alloc (lt_alloc w n m n ⟨some ⟨w.heap.size + 1 + 1, 0, none⟩, m, some ⟨w.heap.size + 1, 0, none⟩, n⟩) _) _)) rfl ⟨_, rfl, newT_fin (made_int _ m (by simp)) ((made_int _ n (by simp)).alloc _) (by omega) (by omega), (bel_al (bel_al (bel_al (Below.refl _ _) _) _) _).drew⟩
end Go.Proofs.YtelonimdpeenaaaDoor
