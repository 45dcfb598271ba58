/- The document's own store of views in memory (whensteadref3, Store): rows of deeds, the store's two cells, what stores do to them. No walk. -/
import Derived.Test.YtajiichehffaaaaDoorVd0
import Derived.Test.YtajiichehffaaaaDoorFrm
namespace Go.Proofs.YtajiichehffaaaaDoor
open Go.RowKit
/-- Deeds as cells. -/
def dcells : List Dz → List Value
  | [] => []
  | a :: r => [.int .i64 a.k, .int .i64 a.t, .int .i64 a.i, .int .i64 a.x] ++ dcells r
theorem dcells_len : ∀ h : List Dz, (dcells h).length = h.length * 4
  | [] => rfl
  | a :: r => by
    simp only [dcells, List.length_append, List.length_cons, List.length_nil, dcells_len r]
    omega
theorem dcells_app : ∀ (h g : List Dz), dcells (h ++ g) = dcells h ++ dcells g
  | [], _ => rfl
  | a :: r, g => by
    show _ ++ dcells (r ++ g) = _
    rw [dcells_app r g]
    simp [dcells]
theorem dcells_snoc (h : List Dz) (a : Dz) : dcells (h ++ [a]) = dcells h ++ [.int .i64 a.k, .int .i64 a.t, .int .i64 a.i, .int .i64 a.x] := by rw [dcells_app]; rfl
theorem dcells_at : ∀ (h : List Dz) (j : Nat), j < h.length → (dcells h)[j * 4]? = some (.int .i64 (dAt h j).k) ∧ (dcells h)[j * 4 + 1]? = some (.int .i64 (dAt h j).t) ∧ (dcells h)[j * 4 + 2]? = some (.int .i64 (dAt h j).i) ∧ (dcells h)[j * 4 + 3]? = some (.int .i64 (dAt h j).x)
  | [], j, hj => by simp at hj
  | a :: r, 0, _ => ⟨rfl, rfl, rfl, rfl⟩
  | a :: r, j + 1, hj => by
    have ih := dcells_at r j (by simpa using hj)
    have e : ∀ i, (dcells (a :: r))[(j + 1) * 4 + i]? = (dcells r)[j * 4 + i]? := fun i => by
      simp only [dcells]
      rw [List.getElem?_append_right (by simp; omega)]
      congr 1
      simp
      omega
    have hop : dAt (a :: r) (j + 1) = dAt r j := rfl
    rw [hop]
    exact ⟨(e 0).trans ih.1, (e 1).trans ih.2.1, (e 2).trans ih.2.2.1, (e 3).trans ih.2.2.2⟩
theorem dcells_one (h : List Dz) : ∀ u ∈ dcells h, u.oneCell' = true := by
  induction h with
  | nil => intro u hu; cases hu
  | cons a r ih =>
    intro u hu
    simp only [dcells, List.mem_append, List.mem_cons, List.not_mem_nil, or_false] at hu
    rcases hu with (rfl | rfl | rfl | rfl) | hu
    · rfl
    · rfl
    · rfl
    · rfl
    · exact ih u hu
theorem hasD_cells {s : List Dz} {b off : Nat} {w : World} (h : HasD s (some ⟨b, off, none⟩) w) : ∀ j u, (dcells s)[j]? = some u → w.cell? ((⟨b, off, none⟩ : Addr).add j) = some u := by
  intro j u hu
  have hj : j < s.length * 4 := by
    have := (List.getElem?_eq_some_iff.1 hu).1
    rwa [dcells_len] at this
  have hk : j / 4 < s.length := by omega
  obtain ⟨_, _, e, hop⟩ := h (j / 4) hk
  cases e
  obtain ⟨e0, e1, e2, e3⟩ := dcells_at s (j / 4) hk
  rw [addr_add]
  have h3 : j % 4 = 0 ∨ j % 4 = 1 ∨ j % 4 = 2 ∨ j % 4 = 3 := by omega
  rcases h3 with h3 | h3 | h3 | h3
  · have ej : j = j / 4 * 4 := by omega
    rw [← ej, hu] at e0
    have := hop.c0
    rw [← ej] at this
    rw [this]; exact e0.symm
  · have ej : j = j / 4 * 4 + 1 := by omega
    rw [← ej, hu] at e1
    have := hop.c1
    rw [Nat.add_assoc, ← ej] at this
    rw [this]; exact e1.symm
  · have ej : j = j / 4 * 4 + 2 := by omega
    rw [← ej, hu] at e2
    have := hop.c2
    rw [Nat.add_assoc, ← ej] at this
    rw [this]; exact e2.symm
  · have ej : j = j / 4 * 4 + 3 := by omega
    rw [← ej, hu] at e3
    have := hop.c3
    rw [Nat.add_assoc, ← ej] at this
    rw [this]; exact e3.symm
theorem infoDe : (Tryd.prog.info? 31).map (fun i => (i.zero, i.size, i.bytes)) = some (some (.agg #[.int .i64 0, .int .i64 0, .int .i64 0, .int .i64 0]), 4, 32) := by kernel_rfl
/-- A row of deeds, in a block of G. -/
structure RD (G : Nat → Prop) (l : List Dz) (p : Option Addr) (c : Nat) (w : World) : Prop where
  nil : p = none → l.length = 0 ∧ c = 0
  cap : l.length ≤ c ∧ c ≤ maxLen
  act : ∀ j, j < l.length → ∃ b off, p = some ⟨b, off, none⟩ ∧ G b ∧ DeAt (dAt l j) b (off + j * 4) w
section
variable {G : Nat → Prop} {l : List Dz} {p : Option Addr} {c : Nat} {w w' : World}
theorem RD.later (h : RD G l p c w) (hb : Below w.heap.size w w') : RD G l p c w' := ⟨h.nil, h.cap, fun j hj => by
  obtain ⟨b, off, e, hg, ha⟩ := h.act j hj
  exact ⟨b, off, e, hg, ha.later hb ha.lt⟩⟩
theorem RD.mono {G' : Nat → Prop} (h : RD G l p c w) (e : ∀ k, k < w.heap.size → G k → G' k) : RD G' l p c w := ⟨h.nil, h.cap, fun j hj => by
  obtain ⟨b, off, e1, hg, ha⟩ := h.act j hj
  exact ⟨b, off, e1, e b ha.lt hg, ha⟩⟩
theorem RD.frm {O : Nat → Prop} (h : RD G l p c w) (hf : Frm O w w') (e : ∀ k, G k → ¬ O k) : RD G l p c w' := ⟨h.nil, h.cap, fun j hj => by
  obtain ⟨b, off, e1, hg, ha⟩ := h.act j hj
  have hb := hf.block b ha.lt (e b hg)
  exact ⟨b, off, e1, hg, ⟨by have := hf.size; have := ha.lt; omega, (World.cell?_of_block (a := ⟨b, off + j * 4, none⟩) hb).trans ha.c0, (World.cell?_of_block (a := ⟨b, off + j * 4 + 1, none⟩) hb).trans ha.c1, (World.cell?_of_block (a := ⟨b, off + j * 4 + 2, none⟩) hb).trans ha.c2, (World.cell?_of_block (a := ⟨b, off + j * 4 + 3, none⟩) hb).trans ha.c3⟩⟩⟩
theorem RD.has (h : RD G l p c w) : HasD l p w := fun j hj => by
  obtain ⟨b, off, e1, hg, ha⟩ := h.act j hj
  exact ⟨b, off, e1, ha⟩
theorem RD.setP (h : RD G l p c w) {a : Addr} (ha : ¬ G a.block) (u : Value) : RD G l p c (w.setCell a u) := ⟨h.nil, h.cap, fun j hj => by
  obtain ⟨b, off, e1, hg, hc⟩ := h.act j hj
  have hb := Below.heap_setCell w a u b (fun e => ha (e ▸ hg))
  exact ⟨b, off, e1, hg, ⟨by have := hc.lt; simpa [World.setCell] using this, (World.cell?_of_block (a := ⟨b, off + j * 4, none⟩) hb).trans hc.c0, (World.cell?_of_block (a := ⟨b, off + j * 4 + 1, none⟩) hb).trans hc.c1, (World.cell?_of_block (a := ⟨b, off + j * 4 + 2, none⟩) hb).trans hc.c2, (World.cell?_of_block (a := ⟨b, off + j * 4 + 3, none⟩) hb).trans hc.c3⟩⟩⟩
theorem RD.cellsP (h : RD G l p c w) : ∀ ad, p = some ad → ∀ j u, (dcells l)[j]? = some u → w.cell? (ad.add j) = some u := fun ad e j u hu => by
  have hj := (List.getElem?_eq_some_iff.1 hu).1
  rw [dcells_len] at hj
  obtain ⟨b, off, e1, _, _⟩ := h.act 0 (by omega)
  have hh := h.has
  rw [e1] at e hh
  cases e
  exact hasD_cells hh j u hu
end
theorem rdP_of_owns {w : World} {base n c : Nat} {p : Option Addr} {l : List Dz} (hl : l.length = n) (h : w.ownsRow base 31 4 (.slice p n c) n (dcells l)) : RD (fun k => base ≤ k) l p c w := by
  rcases h.2 with ⟨e1, h0⟩ | ⟨g, cap, cur, e1, hb, hg, h1, h2, h3, h4⟩
  · simp only [Value.slice.injEq] at e1
    obtain ⟨rfl, _, rfl⟩ := e1
    exact ⟨fun _ => ⟨by omega, rfl⟩, by unfold maxLen; omega, fun j hj => by omega⟩
  · simp only [Value.slice.injEq] at e1
    obtain ⟨rfl, _, rfl⟩ := e1
    refine ⟨fun e => (by cases e), by omega, fun j hj => ⟨g, 0, rfl, hb, ?_⟩⟩
    have cells : ∀ i, i < 4 → w.cell? ⟨g, 0 + j * 4 + i, none⟩ = (dcells l)[j * 4 + i]? := fun i hi => by
      have hc := h.cellAt (j * 4 + i) (by omega)
      rw [Nat.zero_add, hc]
    obtain ⟨e0, e1, e2, e3⟩ := dcells_at l j hj
    exact ⟨(Array.getElem?_eq_some_iff.1 hg).1, (cells 0 (by omega)).trans e0, (cells 1 (by omega)).trans e1, (cells 2 (by omega)).trans e2, (cells 3 (by omega)).trans e3⟩
/-- A store, cell by cell. -/
def rsF (st n : Nat) (p : Option Addr) (c : Nat) (i : Nat) : Value := if i = 0 then .slice p n c else .int .i64 (st : Nat)
def RS (B st n : Nat) (p : Option Addr) (c : Nat) (w : World) : Prop := w.rowIs B 41 2 (rsF st n p c)
/-- a store's two cells are stored into block R -/
abbrev cpyS (w : World) (R st n : Nat) (p : Option Addr) (c : Nat) : World := (w.setCell ⟨R, 0, none⟩ (.slice p n c)).setCell ⟨R, 1, none⟩ (.int .i64 (st : Nat))
/-- A store as a value. -/
abbrev rsV (st : Nat) (D : List Dz) (p : Option Addr) (c : Nat) : Value := .agg #[.slice p D.length c, .int .i64 (st : Nat)]
section
variable {B st n c : Nat} {p : Option Addr} {w w' : World}
theorem RS.lt (h : RS B st n p c w) : B < w.heap.size := World.rowIs.lt h
theorem RS.below (h : RS B st n p c w) (hb : Below w.heap.size w w') : RS B st n p c w' := World.rowIs.of_block h (hb.block _ h.lt)
theorem RS.other (h : RS B st n p c w) {x : Addr} (hx : B ≠ x.block) (u : Value) : RS B st n p c (w.setCell x u) := World.rowIs.setOther h hx u
theorem RS.c0 (h : RS B st n p c w) : w.cell? ⟨B, 0, none⟩ = some (.slice p n c) := World.rowIs.cell h (i := 0) (by omega)
theorem RS.c1 (h : RS B st n p c w) : w.cell? ⟨B, 1, none⟩ = some (.int .i64 (st : Nat)) := World.rowIs.cell h (i := 1) (by omega)
theorem RS.fz (h : RS B st n p c w) (i : Nat) : w.frozen? ⟨B, i, none⟩ = false := World.rowIs.frozen h i
theorem RS.setT (h : RS B st n p c w) (st' : Nat) : RS B st' n p c (w.setCell ⟨B, 1, none⟩ (.int .i64 (st' : Nat))) :=
  (World.rowIs.set h 1 _).congr (fun i hi => by
    have : i = 0 ∨ i = 1 := by omega
    rcases this with rfl | rfl <;> simp [rsF])
theorem RS.setA (h : RS B st n p c w) (m : Nat) (p' : Option Addr) (c' : Nat) : RS B st m p' c' (w.setCell ⟨B, 0, none⟩ (.slice p' m c')) :=
  (World.rowIs.set h 0 _).congr (fun i hi => by
    have : i = 0 ∨ i = 1 := by omega
    rcases this with rfl | rfl <;> simp [rsF])
theorem RS.cpy {R t0 n0 c0 : Nat} {p0 : Option Addr} (h : RS R t0 n0 p0 c0 w) (st n : Nat) (p : Option Addr) (c : Nat) : RS R st n p c (cpyS w R st n p c) :=
  (World.rowIs.set (World.rowIs.set h 0 _) 1 _).congr (fun i hi => by
    have : i = 0 ∨ i = 1 := by omega
    rcases this with rfl | rfl <;> simp [rsF])
theorem RD.cpyP {G : Nat → Prop} {l : List Dz} {p0 : Option Addr} {c0 : Nat} (h : RD G l p0 c0 w) {R : Nat} (hR : ¬ G R) (st n : Nat) (p : Option Addr) (c : Nat) : RD G l p0 c0 (cpyS w R st n p c) :=
  (h.setP (a := ⟨R, 0, none⟩) hR _).setP (a := ⟨R, 1, none⟩) hR _
end
theorem rs_alloc (w : World) (st n : Nat) (p : Option Addr) (c : Nat) : RS w.heap.size st n p c (w.alloc (.cells #[.slice p n c, .int .i64 (st : Nat)] 41)) := by
  refine World.rowIs_alloc w #[.slice p n c, .int .i64 (st : Nat)] _ _ (fun i hi => ?_)
  have hi' : i < 2 := hi
  rcases i with _ | _ | i
  · rfl
  · rfl
  · omega
theorem bel_cpyS {B : Nat} {a w : World} (h : Below B a w) {R : Nat} (hR : B ≤ R) (st n : Nat) (p : Option Addr) (c : Nat) : Below B a (cpyS w R st n p c) :=
  (h.setCell (p := ⟨R, 0, none⟩) hR _).setCell (p := ⟨R, 1, none⟩) hR _
theorem results_rs {fn : Func} {t u v : Tmp} (h : fn.results = #[.cell t 41, .tmp u, .tmp v]) (tmps : Array Value) (w : World) (B st : Nat) (D : List Dz) (p : Option Addr) (c : Nat) (z : Int) (cd : Int) (hp : tmps.getD t undef = .pointer (some ⟨B, 0, none⟩)) (hb : tmps.getD u undef = .int .i64 z) (hc : tmps.getD v undef = .int .i64 cd) (hr : RS B st D.length p c w) :
    (results fn tmps).run Tryd.prog w = .ok (.tuple #[rsV st D p c, .int .i64 z, .int .i64 cd]) w := by
  have hp' : tmps[t]?.getD undef = .pointer (some ⟨B, 0, none⟩) := by simpa using hp
  have hb' : tmps[u]?.getD undef = .int .i64 z := by simpa using hb
  have hc' : tmps[v]?.getD undef = .int .i64 cd := by simpa using hc
  have h0 := hr.c0
  have h1 := hr.c1
  simp [results, h, go_sem, hp', hb', hc', h0, h1]
/-- How things stand while a list of deeds is gone along: the store's box in block B. -/
structure QS (G : Nat → Prop) (D : List Dz) (p : Option Addr) (c B st : Nat) (w0 w : World) : Prop where
  rd : RD G D p c w
  rs : RS B st D.length p c w
  bl : Below w0.heap.size w0 w
theorem QS.later {G : Nat → Prop} {D : List Dz} {p : Option Addr} {c B st : Nat} {w0 w w' : World} (h : QS G D p c B st w0 w) (hb : Below w.heap.size w w') : QS G D p c B st w0 w' := ⟨h.rd.later hb, h.rs.below hb, h.bl.trans (hb.mono h.bl.size)⟩
theorem qs_start {G : Nat → Prop} {D : List Dz} {p : Option Addr} {c : Nat} (st : Nat) {w : World} (h : RD G D p c w) : QS G D p c w.heap.size st w (w.alloc (.cells #[.slice p D.length c, .int .i64 (st : Nat)] 41)) :=
  ⟨h.later (bel_al (Below.refl _ _) _), rs_alloc w st D.length p c, bel_al (Below.refl _ _) _⟩
end Go.Proofs.YtajiichehffaaaaDoor
