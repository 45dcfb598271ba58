/- The document's own gate in memory (whensteadref3, Gate), and what stores do to it; how far the greater ones were looked for. No walk. -/
import Derived.Test.YtlkdclifcmohlaaDoorBRk
import Derived.Test.YtlkdclifcmohlaaDoorBPr
namespace Go.Proofs.YtlkdclifcmohlaaDoor
open Go.RowKit
/-- A gate, cell by cell. -/
def rgF (sk : Bool) (d n : Nat) (pa : Option Addr) (ca : Nat) (i : Nat) : Value := if i = 0 then .bool sk else if i = 1 then .int .i64 (d : Nat) else .slice pa n ca
def RG (B : Nat) (sk : Bool) (d n : Nat) (pa : Option Addr) (ca : Nat) (w : World) : Prop := w.rowIs B 39 3 (rgF sk d n pa ca)
/-- a gate's three cells are stored into block R -/
abbrev cpyG (w : World) (R : Nat) (sk : Bool) (d n : Nat) (pa : Option Addr) (ca : Nat) : World :=
  ((w.setCell ⟨R, 0, none⟩ (.bool sk)).setCell ⟨R, 1, none⟩ (.int .i64 (d : Nat))).setCell ⟨R, 2, none⟩ (.slice pa n ca)
/-- A gate as a value. -/
abbrev rgV (sk : Bool) (s : M.Gt) (pa : Option Addr) (ca : Nat) : Value := .agg #[.bool sk, .int .i64 (s.dead : Nat), .slice pa s.ac.length ca]
section
variable {B d n ca : Nat} {sk : Bool} {pa : Option Addr} {w w' : World}
theorem RG.lt (h : RG B sk d n pa ca w) : B < w.heap.size := World.rowIs.lt h
theorem RG.below (h : RG B sk d n pa ca w) (hb : Below w.heap.size w w') : RG B sk d n pa ca w' := World.rowIs.of_block h (hb.block _ h.lt)
theorem RG.other (h : RG B sk d n pa ca w) {x : Addr} (hx : B ≠ x.block) (u : Value) : RG B sk d n pa ca (w.setCell x u) := World.rowIs.setOther h hx u
theorem RG.frm {O : Nat → Prop} (h : RG B sk d n pa ca w) (hf : Frm O w w') (hO : ¬ O B) : RG B sk d n pa ca w' := World.rowIs.of_block h (hf.block _ h.lt hO)
theorem RG.c0 (h : RG B sk d n pa ca w) : w.cell? ⟨B, 0, none⟩ = some (.bool sk) := World.rowIs.cell h (i := 0) (by omega)
theorem RG.c1 (h : RG B sk d n pa ca w) : w.cell? ⟨B, 1, none⟩ = some (.int .i64 (d : Nat)) := World.rowIs.cell h (i := 1) (by omega)
theorem RG.c2 (h : RG B sk d n pa ca w) : w.cell? ⟨B, 2, none⟩ = some (.slice pa n ca) := World.rowIs.cell h (i := 2) (by omega)
theorem RG.fz (h : RG B sk d n pa ca w) (i : Nat) : w.frozen? ⟨B, i, none⟩ = false := World.rowIs.frozen h i
theorem RG.setD (h : RG B sk d n pa ca w) (d' : Nat) : RG B sk d' n pa ca (w.setCell ⟨B, 1, none⟩ (.int .i64 (d' : Nat))) :=
  (World.rowIs.set h 1 _).congr (fun i hi => by
    have : i = 0 ∨ i = 1 ∨ i = 2 := by omega
    rcases this with rfl | rfl | rfl <;> simp [rgF])
theorem RG.setA (h : RG B sk d n pa ca w) (m : Nat) (p : Option Addr) (c : Nat) : RG B sk d m p c (w.setCell ⟨B, 2, none⟩ (.slice p m c)) :=
  (World.rowIs.set h 2 _).congr (fun i hi => by
    have : i = 0 ∨ i = 1 ∨ i = 2 := by omega
    rcases this with rfl | rfl | rfl <;> simp [rgF])
theorem RG.cpy {R d0 n0 c0 : Nat} {k0 : Bool} {p0 : Option Addr} (h : RG R k0 d0 n0 p0 c0 w) (sk : Bool) (d n : Nat) (pa : Option Addr) (ca : Nat) : RG R sk d n pa ca (cpyG w R sk d n pa ca) :=
  (World.rowIs.set (World.rowIs.set (World.rowIs.set h 0 _) 1 _) 2 _).congr (fun i hi => by
    have : i = 0 ∨ i = 1 ∨ i = 2 := by omega
    rcases this with rfl | rfl | rfl <;> simp [rgF])
end
theorem rg_alloc (w : World) (sk : Bool) (d n : Nat) (pa : Option Addr) (ca : Nat) : RG w.heap.size sk d n pa ca (w.alloc (.cells #[.bool sk, .int .i64 (d : Nat), .slice pa n ca] 39)) := by
  refine World.rowIs_alloc w #[.bool sk, .int .i64 (d : Nat), .slice pa n ca] _ _ (fun i hi => ?_)
  have hi' : i < 3 := hi
  rcases i with _ | _ | _ | i
  · rfl
  · rfl
  · rfl
  · omega
theorem bel_cpyG {B : Nat} {a w : World} (h : Below B a w) {R : Nat} (hR : B ≤ R) (sk : Bool) (d n : Nat) (pa : Option Addr) (ca : Nat) : Below B a (cpyG w R sk d n pa ca) :=
  ((h.setCell (p := ⟨R, 0, none⟩) hR _).setCell (p := ⟨R, 1, none⟩) hR _).setCell (p := ⟨R, 2, none⟩) hR _
section
variable {G : Nat → Prop} {l : List M.SAct} {p : Option Addr} {c : Nat} {w w' : World}
theorem RA.setP (h : RA G l p c w) {a : Addr} (ha : ¬ G a.block) (u : Value) : RA G l p c (w.setCell a u) := ⟨h.nil, h.cap, fun j hj => by
  obtain ⟨b, off, e1, hg, hc⟩ := h.act j hj
  have hb := Below.heap_setCell w a u b (fun e => ha (e ▸ hg))
  exact ⟨b, off, e1, hg, ⟨by have := hc.lt; simpa [World.setCell] using this, (World.cell?_of_block (a := ⟨b, off + j * 3, none⟩) hb).trans hc.c0, (World.cell?_of_block (a := ⟨b, off + j * 3 + 1, none⟩) hb).trans hc.c1, (World.cell?_of_block (a := ⟨b, off + j * 3 + 2, none⟩) hb).trans hc.c2⟩⟩⟩
theorem RA.cpyP (h : RA G l p c w) {R : Nat} (hR : ¬ G R) (sk : Bool) (d n : Nat) (pa : Option Addr) (ca : Nat) : RA G l p c (cpyG w R sk d n pa ca) :=
  ((h.setP (a := ⟨R, 0, none⟩) hR _).setP (a := ⟨R, 1, none⟩) hR _).setP (a := ⟨R, 2, none⟩) hR _
theorem RA.cellsP (h : RA G l p c w) : ∀ ad, p = some ad → ∀ j u, (acells l)[j]? = some u → w.cell? (ad.add j) = some u := fun ad e j u hu => by
  have hj := (List.getElem?_eq_some_iff.1 hu).1
  rw [acells_len] at hj
  obtain ⟨b, off, e1, _, _⟩ := h.act 0 (by omega)
  have hh := h.has
  rw [e1] at e hh
  cases e
  exact hasAc_cells hh j u hu
end
theorem raP_of_owns {w : World} {base n c : Nat} {p : Option Addr} {l : List M.SAct} (hl : l.length = n) (h : w.ownsRow base 31 3 (.slice p n c) n (acells l)) : RA (fun k => base ≤ k) l p c w := by
  refine ⟨fun e => ?_, ?_, fun j hj => ?_⟩
  · rcases h.2 with ⟨e1, h0⟩ | ⟨g, cap, cur, e1, _⟩
    · simp only [Value.slice.injEq] at e1
      exact ⟨by omega, e1.2.2⟩
    · subst e; cases e1
  · rcases h.2 with ⟨e1, h0⟩ | ⟨g, cap, cur, e1, hb, hg, h1, h2, h3, h4⟩
    · simp only [Value.slice.injEq] at e1
      unfold maxLen
      omega
    · simp only [Value.slice.injEq] at e1
      omega
  · obtain ⟨b, off, e1, ha⟩ := hasAc_of_owns hl h j (by rw [az_len]; exact hj)
    rw [aAt_az] at ha
    refine ⟨b, off, e1, ?_, ha⟩
    exact (h.lt b (by rw [e1]; rfl)).1
theorem results_rg {fn : Func} {t u v : Tmp} (h : fn.results = #[.cell t 39, .tmp u, .tmp v]) (tmps : Array Value) (w : World) (B : Nat) (sk : Bool) (s : M.Gt) (pa : Option Addr) (ca : Nat) (b : Bool) (c : Int) (hp : tmps.getD t undef = .pointer (some ⟨B, 0, none⟩)) (hb : tmps.getD u undef = .bool b) (hc : tmps.getD v undef = .int .i64 c) (hr : RG B sk s.dead s.ac.length pa ca w) :
    (results fn tmps).run Tryd.prog w = .ok (.tuple #[rgV sk s pa ca, .bool b, .int .i64 c]) w := by
  have hp' : tmps[t]?.getD undef = .pointer (some ⟨B, 0, none⟩) := by simpa using hp
  have hb' : tmps[u]?.getD undef = .bool b := by simpa using hb
  have hc' : tmps[v]?.getD undef = .int .i64 c := by simpa using hc
  have h0 := hr.c0
  have h1 := hr.c1
  have h2 := hr.c2
  simp [results, h, go_sem, hp', hb', hc', h0, h1, h2]
/-- How things stand within a step of the document's: the gate in block N, the act in N + 1, what is handed back in N + 2; what was done lies elsewhere. -/
structure KG (N : Nat) (G : Nat → Prop) (o : Az) (sk : Bool) (s : M.Gt) (pa : Option Addr) (ca : Nat) (w0 w : World) : Prop where
  ra : RA G s.ac pa ca w
  rb : RG N sk s.dead s.ac.length pa ca w
  ab : AcAt o (N + 1) 0 w
  zb : RG (N + 2) false 0 0 none 0 w
  bl : Below N w0 w
  nl : ¬ G N
  n1 : ¬ G (N + 1)
  nz : ¬ G (N + 2)
  fr : ∀ j, N + 2 < j → G j
theorem AcAt.setP {o : Az} {b k : Nat} {w : World} (h : AcAt o b k w) {a : Addr} (ha : b ≠ a.block) (u : Value) : AcAt o b k (w.setCell a u) := by
  have hb := Below.heap_setCell w a u b ha
  exact ⟨by have := h.lt; simpa [World.setCell] using this, (World.cell?_of_block (a := ⟨b, k, none⟩) hb).trans h.c0, (World.cell?_of_block (a := ⟨b, k + 1, none⟩) hb).trans h.c1, (World.cell?_of_block (a := ⟨b, k + 2, none⟩) hb).trans h.c2⟩
theorem kg_begin {G : Nat → Prop} {o : Az} {sk : Bool} {s : M.Gt} {pa : Option Addr} {ca : Nat} {w : World} (hR : RA G s.ac pa ca w) (hG : ∀ j, w.heap.size ≤ j → G j) : KG w.heap.size (fun j => G j ∧ j ≠ w.heap.size ∧ j ≠ w.heap.size + 1 ∧ j ≠ w.heap.size + 2) o sk s pa ca w
    (((w.alloc (.cells #[.bool sk, .int .i64 (s.dead : Nat), .slice pa s.ac.length ca] 39)).alloc (.cells #[.int .i64 o.tx, .int .i64 o.it, .int .i64 o.wt] 31)).alloc (.cells #[.bool false, .int .i64 0, .slice none 0 0] 39)) := by
  have L1 := rg_alloc w sk s.dead s.ac.length pa ca
  obtain ⟨w1, hw1⟩ : ∃ w1, w.alloc (.cells #[.bool sk, .int .i64 (s.dead : Nat), .slice pa s.ac.length ca] 39) = w1 := ⟨_, rfl⟩
  have s1 : w1.heap.size = w.heap.size + 1 := by subst hw1; simp
  have B1 : Below w.heap.size w w1 := by rw [← hw1]; exact bel_al (Below.refl _ _) _
  rw [hw1] at L1 ⊢
  have D2 := acAt_new w1 o
  obtain ⟨w2, hw2⟩ : ∃ w2, w1.alloc (.cells #[.int .i64 o.tx, .int .i64 o.it, .int .i64 o.wt] 31) = w2 := ⟨_, rfl⟩
  have s2 : w2.heap.size = w.heap.size + 2 := by subst hw2; simp; omega
  have B2 : Below w1.heap.size w1 w2 := by rw [← hw2]; exact bel_al (Below.refl _ _) _
  rw [hw2] at D2 ⊢
  have Z3 : RG w2.heap.size false 0 0 none 0 (w2.alloc (.cells #[.bool false, .int .i64 0, .slice none 0 0] 39)) := rg_alloc w2 false 0 0 none 0
  obtain ⟨w3, hw3⟩ : ∃ w3, w2.alloc (.cells #[.bool false, .int .i64 0, .slice none 0 0] 39) = w3 := ⟨_, rfl⟩
  have B3 : Below w2.heap.size w2 w3 := by rw [← hw3]; exact bel_al (Below.refl _ _) _
  rw [hw3] at Z3 ⊢
  have B12 := bel_on B1 B2
  have B13 := bel_on B12 B3
  rw [s1] at D2
  rw [s2] at Z3
  exact ⟨(hR.mono (fun j hj hg => ⟨hg, by omega, by omega, by omega⟩)).later B13, (L1.below B2).below B3, D2.later B3 (by omega), Z3, B13, fun e => e.2.1 rfl, fun e => e.2.2.1 rfl, fun e => e.2.2.2 rfl, fun j hj => ⟨hG j (by omega), by omega, by omega, by omega⟩⟩
section
variable {N : Nat} {G G0 : Nat → Prop} {o : Az} {sk : Bool} {s s' : M.Gt} {pa : Option Addr} {ca : Nat} {w0 w w' : World}
/-- a gate is handed back as it stands -/
theorem KG.ret (h : KG N G o sk s pa ca w0 w) (hG : ∀ j, G j → G0 j) : RG (N + 2) sk s.dead s.ac.length pa ca (cpyG w (N + 2) sk s.dead s.ac.length pa ca) ∧ RA G0 s.ac pa ca (cpyG w (N + 2) sk s.dead s.ac.length pa ca) ∧ Below N w0 (cpyG w (N + 2) sk s.dead s.ac.length pa ca) :=
  ⟨h.zb.cpy _ _ _ _ _, (h.ra.cpyP h.nz _ _ _ _ _).mono (fun j _ hj => hG j hj), bel_cpyG h.bl (by omega) _ _ _ _ _⟩
theorem KG.sz (h : KG N G o sk s pa ca w0 w) : N + 2 < w.heap.size := h.zb.lt
theorem KG.later (h : KG N G o sk s pa ca w0 w) (hb : Below w.heap.size w w') : KG N G o sk s pa ca w0 w' :=
  ⟨h.ra.later hb, h.rb.below hb, h.ab.later hb h.ab.lt, h.zb.below hb, h.bl.trans (hb.mono (by have := h.sz; omega)), h.nl, h.n1, h.nz, h.fr⟩
theorem KG.setD (h : KG N G o sk s pa ca w0 w) (hb : Below w.heap.size w w') (e : s'.ac = s.ac) : KG N G o sk s' pa ca w0 (w'.setCell ⟨N, 1, none⟩ (.int .i64 (s'.dead : Nat))) := by
  have h' := h.later hb
  refine ⟨?_, ?_, h'.ab.setP (a := ⟨N, 1, none⟩) (show N + 1 ≠ N by omega) _, h'.zb.other (x := ⟨N, 1, none⟩) (show N + 2 ≠ N by omega) _, h'.bl.setCell (p := ⟨N, 1, none⟩) (Nat.le_refl _) _, h.nl, h.n1, h.nz, h.fr⟩
  · rw [e]; exact h'.ra.setP (a := ⟨N, 1, none⟩) h.nl _
  · rw [e]; exact h'.rb.setD _
theorem KG.setA (h : KG N G o sk s pa ca w0 w) (hb : Below w.heap.size w w') {p : Option Addr} (c : Nat) (e : s'.dead = s.dead) (hf : RA G s'.ac p c w') : KG N G o sk s' p c w0 (w'.setCell ⟨N, 2, none⟩ (.slice p s'.ac.length c)) := by
  have h' := h.later hb
  refine ⟨hf.setP (a := ⟨N, 2, none⟩) h.nl _, ?_, h'.ab.setP (a := ⟨N, 2, none⟩) (show N + 1 ≠ N by omega) _, h'.zb.other (x := ⟨N, 2, none⟩) (show N + 2 ≠ N by omega) _, h'.bl.setCell (p := ⟨N, 2, none⟩) (Nat.le_refl _) _, h.nl, h.n1, h.nz, h.fr⟩
  rw [e]; exact h'.rb.setA _ p c
end
/-! ### how far the greater ones were looked for -/
def rtB (l : List M.SAct) (t o x k : Nat) : Bool := (l.take k).any fun b => b.it == o && decide (t < b.tx) && b.wr == x
theorem rtB_zero (l : List M.SAct) (t o x : Nat) : rtB l t o x 0 = false := rfl
theorem rtB_succ {l : List M.SAct} {t o x k : Nat} (hk : k < l.length) : rtB l t o x (k + 1) = (rtB l t o x k || ((M.sat l k).it == o && decide (t < (M.sat l k).tx) && (M.sat l k).wr == x)) := by
  unfold rtB
  have e : M.sat l k = l[k] := by unfold M.sat; rw [List.getElem?_eq_getElem hk]; rfl
  rw [List.take_add_one, List.getElem?_eq_getElem hk, List.any_append, e]
  simp
theorem rtB_R (s : M.Gt) (t o : Nat) : rtB s.ac t o 0 s.ac.length = M.grR s t o := by unfold rtB M.grR; rw [List.take_length]
theorem rtB_W (s : M.Gt) (t o : Nat) : rtB s.ac t o 1 s.ac.length = M.grW s t o := by unfold rtB M.grW; rw [List.take_length]
theorem rtB_hit {l : List M.SAct} {t o x k : Nat} (hk : k < l.length) (h1 : (M.sat l k).it = o) (h2 : t < (M.sat l k).tx) (h3 : (M.sat l k).wr = x) : rtB l t o x (k + 1) = true := by
  rw [rtB_succ hk, h1, h3, decide_eq_true h2]; simp
theorem rtB_miss {l : List M.SAct} {t o x k : Nat} (hk : k < l.length) (h : (M.sat l k).it ≠ o ∨ ¬ t < (M.sat l k).tx ∨ (M.sat l k).wr ≠ x) : rtB l t o x (k + 1) = rtB l t o x k := by
  rw [rtB_succ hk]
  have : ((M.sat l k).it == o && decide (t < (M.sat l k).tx) && (M.sat l k).wr == x) = false := by
    cases c : ((M.sat l k).it == o && decide (t < (M.sat l k).tx) && (M.sat l k).wr == x) with
    | false => rfl
    | true =>
      simp only [Bool.and_eq_true, beq_iff_eq, decide_eq_true_eq] at c
      rcases h with h | h | h
      · exact absurd c.1.1 h
      · exact absurd c.1.2 h
      · exact absurd c.2 h
  rw [this, Bool.or_false]
end Go.Proofs.YtlkdclifcmohlaaDoor
