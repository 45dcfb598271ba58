/- The document's own bank in memory (package whensteadref2, Bank), and one of whose processes notes (note). -/
import Derived.Test.YtplplgpfglaajaaDoorRefB1
namespace Go.Proofs.YtplplgpfglaajaaDoor
open Go.RowKit

/-- Where a bank's lists lie, and what its list of ways holds. -/
structure RV where
  pm : Option Addr
  cm : Nat
  pn : Option Addr
  cn : Nat
  pw : Option Addr
  cw : Nat
  ph : Option Addr
  ch : Nat
  pc : Option Addr
  cc : Nat
  vw : Nat → Value
/-- A bank as a value. -/
abbrev rbV (n : Nat) (be : Bool) (v : RV) : Value := .agg #[.slice v.pm n v.cm, .slice v.pn n v.cn, .slice v.pw (n * n) v.cw, .slice v.ph (n * n) v.ch, .slice v.pc (n * n) v.cc, .bool be]
/-- A bank, cell by cell. -/
def rbF (n : Nat) (be : Bool) (v : RV) (k : Nat) : Value := if k = 0 then .slice v.pm n v.cm else if k = 1 then .slice v.pn n v.cn else if k = 2 then .slice v.pw (n * n) v.cw else if k = 3 then .slice v.ph (n * n) v.ch else if k = 4 then .slice v.pc (n * n) v.cc else .bool be
/-- A way's row. -/
def RW (G : Nat → Prop) (l : List Int) (u : Value) (w : World) : Prop := ∃ ad c, u = .slice ad l.length c ∧ (ad = none → l.length = 0 ∧ c = 0) ∧ l.length ≤ c ∧ c ≤ maxLen ∧ FI G l.length (fun i => .int .i64 (l[i]?.getD 0)) ad w
/-- A bank's lists. -/
structure RB (G : Nat → Prop) (n : Nat) (b : M.Bk) (v : RV) (w : World) : Prop where
  mo : FI G n (fun j => .int .i64 (b.mo j)) v.pm w
  no : FI G n (fun j => .int .i64 (b.no j)) v.pn w
  wy : FI G (n * n) v.vw v.pw w
  wv : ∀ p q, p < n → q < n → RW G (b.wy p q) (v.vw (p * n + q)) w
  he : FI G (n * n) (fun j => .bool (b.he (j / n) (j % n))) v.ph w
  ca : FI G (n * n) (fun j => .int .i64 (b.ca (j / n) (j % n))) v.pc w
  cw : n * n ≤ v.cw ∧ v.cw ≤ maxLen
  cc : n * n ≤ v.cc ∧ v.cc ≤ maxLen
theorem RW.later {G : Nat → Prop} {l : List Int} {u : Value} {w w' : World} (h : RW G l u w) (hb : Below w.heap.size w w') : RW G l u w' := by
  obtain ⟨ad, c, h1, h2, h3, h4, h5⟩ := h
  exact ⟨ad, c, h1, h2, h3, h4, h5.later hb⟩
theorem RW.mono {G G' : Nat → Prop} {l : List Int} {u : Value} {w : World} (h : RW G l u w) (e : ∀ k, k < w.heap.size → G k → G' k) : RW G' l u w := by
  obtain ⟨ad, c, h1, h2, h3, h4, h5⟩ := h
  exact ⟨ad, c, h1, h2, h3, h4, h5.mono e⟩
theorem RW.frm {G O : Nat → Prop} {l : List Int} {u : Value} {w w' : World} (h : RW G l u w) (hf : Frm O w w') (e : ∀ k, G k → ¬ O k) : RW G l u w' := by
  obtain ⟨ad, c, h1, h2, h3, h4, h5⟩ := h
  exact ⟨ad, c, h1, h2, h3, h4, h5.frm hf e⟩
section
variable {G : Nat → Prop} {n : Nat} {b : M.Bk} {v : RV} {w w' : World}
theorem RB.later (h : RB G n b v w) (hb : Below w.heap.size w w') : RB G n b v w' :=
  ⟨h.mo.later hb, h.no.later hb, h.wy.later hb, fun p q hp hq => (h.wv p q hp hq).later hb, h.he.later hb, h.ca.later hb, h.cw, h.cc⟩
theorem RB.mono {G' : Nat → Prop} (h : RB G n b v w) (e : ∀ k, k < w.heap.size → G k → G' k) : RB G' n b v w :=
  ⟨h.mo.mono e, h.no.mono e, h.wy.mono e, fun p q hp hq => (h.wv p q hp hq).mono e, h.he.mono e, h.ca.mono e, h.cw, h.cc⟩
theorem RB.frm {O : Nat → Prop} (h : RB G n b v w) (hf : Frm O w w') (e : ∀ k, G k → ¬ O k) : RB G n b v w' :=
  ⟨h.mo.frm hf e, h.no.frm hf e, h.wy.frm hf e, fun p q hp hq => (h.wv p q hp hq).frm hf e, h.he.frm hf e, h.ca.frm hf e, h.cw, h.cc⟩
theorem pair_lt {n p q : Nat} (hp : p < n) (hq : q < n) : p * n + q < n * n := by
  have : p * n + n ≤ n * n := by rw [← Nat.succ_mul]; exact Nat.mul_le_mul_right _ hp
  omega
theorem pair_inj {n p q p' q' : Nat} (hq : q < n) (hq' : q' < n) (e : p * n + q = p' * n + q') : p = p' ∧ q = q' := by
  have h1 : (p * n + q) / n = p := by rw [Nat.mul_comm, Nat.mul_add_div (by omega), Nat.div_eq_of_lt hq]; rfl
  have h2 : (p' * n + q') / n = p' := by rw [Nat.mul_comm, Nat.mul_add_div (by omega), Nat.div_eq_of_lt hq']; rfl
  have h3 : p = p' := by rw [← h1, ← h2, e]
  subst h3
  exact ⟨rfl, by omega⟩
theorem pair_div {n q : Nat} (p : Nat) (hq : q < n) : (p * n + q) / n = p := by rw [Nat.mul_comm, Nat.mul_add_div (by omega), Nat.div_eq_of_lt hq]; rfl
theorem pair_mod {n q : Nat} (p : Nat) (hq : q < n) : (p * n + q) % n = q := by rw [Nat.mul_comm, Nat.mul_add_mod, Nat.mod_eq_of_lt hq]
theorem RB.slices (h : RB G n b v w) : ∀ j, j < n * n → ∃ a l c, v.vw j = .slice a l c := fun j hj => by
  have hn : 0 < n := by
    rcases n with _ | n
    · simp at hj
    · omega
  have hq := Nat.mod_lt j hn
  have hp : j / n < n := Nat.div_lt_of_lt_mul hj
  obtain ⟨ad, c, e, _⟩ := h.wv (j / n) (j % n) hp hq
  rw [Nat.mul_comm, Nat.div_add_mod] at e
  exact ⟨ad, _, c, e⟩
/-- one list is set anew: the ways -/
theorem RB.setW (h : RB G n b v w) (hb : Below w.heap.size w w') {p q : Nat} (hq : q < n) {u : Value} {l : List Int} {pw : Option Addr} {cw : Nat} (hf : FI G (n * n) (M.upd1 v.vw (p * n + q) u) pw w') (hc : n * n ≤ cw ∧ cw ≤ maxLen) (hu : RW G l u w') :
    RB G n { b with wy := M.upd2 b.wy p q l } { v with pw := pw, cw := cw, vw := M.upd1 v.vw (p * n + q) u } w' :=
  ⟨h.mo.later hb, h.no.later hb, hf, fun p' q' hp' hq' => by
    show RW G (M.upd2 b.wy p q l p' q') (M.upd1 v.vw (p * n + q) u (p' * n + q')) w'
    by_cases e : p' = p ∧ q' = q
    · obtain ⟨rfl, rfl⟩ := e
      rw [M.upd2_same, M.upd1_same]; exact hu
    · rw [M.upd2_other _ _ e, M.upd1_other _ _ (fun x => e (pair_inj hq' hq x))]
      exact (h.wv p' q' hp' hq').later hb, h.he.later hb, h.ca.later hb, hc, h.cc⟩
theorem RB.setM (h : RB G n b v w) (hb : Below w.heap.size w w') {f : Nat → Int} {pm : Option Addr} {cm : Nat} (hf : FI G n (fun j => .int .i64 (f j)) pm w') : RB G n { b with mo := f } { v with pm := pm, cm := cm } w' :=
  ⟨hf, h.no.later hb, h.wy.later hb, fun p q hp hq => (h.wv p q hp hq).later hb, h.he.later hb, h.ca.later hb, h.cw, h.cc⟩
theorem RB.setN (h : RB G n b v w) (hb : Below w.heap.size w w') {f : Nat → Int} {pn : Option Addr} {cn : Nat} (hf : FI G n (fun j => .int .i64 (f j)) pn w') : RB G n { b with no := f } { v with pn := pn, cn := cn } w' :=
  ⟨h.mo.later hb, hf, h.wy.later hb, fun p q hp hq => (h.wv p q hp hq).later hb, h.he.later hb, h.ca.later hb, h.cw, h.cc⟩
theorem RB.setH (h : RB G n b v w) (hb : Below w.heap.size w w') {f : Nat → Nat → Bool} {ph : Option Addr} {ch : Nat} (hf : FI G (n * n) (fun j => .bool (f (j / n) (j % n))) ph w') : RB G n { b with he := f } { v with ph := ph, ch := ch } w' :=
  ⟨h.mo.later hb, h.no.later hb, h.wy.later hb, fun p q hp hq => (h.wv p q hp hq).later hb, hf, h.ca.later hb, h.cw, h.cc⟩
theorem RB.setC (h : RB G n b v w) (hb : Below w.heap.size w w') {f : Nat → Nat → Int} {pc : Option Addr} {cc : Nat} (hc : n * n ≤ cc ∧ cc ≤ maxLen) (hf : FI G (n * n) (fun j => .int .i64 (f (j / n) (j % n))) pc w') : RB G n { b with ca := f } { v with pc := pc, cc := cc } w' :=
  ⟨h.mo.later hb, h.no.later hb, h.wy.later hb, fun p q hp hq => (h.wv p q hp hq).later hb, h.he.later hb, hf, h.cw, hc⟩
theorem RB.be (h : RB G n b v w) (e : Bool) : RB G n { b with be := e } v w := ⟨h.mo, h.no, h.wy, h.wv, h.he, h.ca, h.cw, h.cc⟩
end
theorem results_cell6 {fn : Func} {t : Tmp} (h : fn.results = #[.cell t 27]) (tmps : Array Value) (w : World) (B : Nat) (n : Nat) (be : Bool) (v : RV) (hp : tmps.getD t undef = .pointer (some ⟨B, 0, none⟩)) (hr : w.rowIs B 27 6 (rbF n be v)) :
    (results fn tmps).run Tryd.prog w = .ok (rbV n be v) w := by
  have hp' : tmps[t]?.getD undef = .pointer (some ⟨B, 0, none⟩) := by simpa using hp
  have h0 := hr.cell (i := 0) (by omega)
  have h1 := hr.cell (i := 1) (by omega)
  have h2 := hr.cell (i := 2) (by omega)
  have h3 := hr.cell (i := 3) (by omega)
  have h4 := hr.cell (i := 4) (by omega)
  have h5 := hr.cell (i := 5) (by omega)
  simp only [rbF] at h0 h1 h2 h3 h4 h5
  simp at h0 h1 h2 h3 h4 h5
  simp [results, h, go_sem, hp', h0, h1, h2, h3, h4, h5]
/-- a bank in a block -/
theorem rb_alloc (w : World) (n : Nat) (be : Bool) (v : RV) : (w.alloc (.cells #[.slice v.pm n v.cm, .slice v.pn n v.cn, .slice v.pw (n * n) v.cw, .slice v.ph (n * n) v.ch, .slice v.pc (n * n) v.cc, .bool be] 27)).rowIs w.heap.size 27 6 (rbF n be v) := by
  refine World.rowIs_alloc w #[.slice v.pm n v.cm, .slice v.pn n v.cn, .slice v.pw (n * n) v.cw, .slice v.ph (n * n) v.ch, .slice v.pc (n * n) v.cc, .bool be] _ _ (fun i hi => ?_)
  have hi' : i < 6 := hi
  rcases i with _ | _ | _ | _ | _ | _ | i
  · rfl
  · rfl
  · rfl
  · rfl
  · rfl
  · rfl
  · omega
end Go.Proofs.YtplplgpfglaajaaDoor
