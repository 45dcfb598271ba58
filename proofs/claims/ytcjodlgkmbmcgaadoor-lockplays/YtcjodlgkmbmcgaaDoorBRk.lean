/- The document's own locks: a list with a number set anew (whensteadref3.put), whether a number is within (in), who stands against a lock (Against). The document's own locks in memory (whensteadref3, Locks), and what stores do to them. No walk. -/
import Derived.Test.YtcjodlgkmbmcgaaDoorBLo
import Derived.Test.YtcjodlgkmbmcgaaDoorRefT1
import Derived.Test.YtcjodlgkmbmcgaaDoorBRf
namespace Go.Proofs.YtcjodlgkmbmcgaaDoor
open Go.RowKit

set_option maxHeartbeats 1000000 in
theorem put_ok {G : Nat → Prop} (f : Nat → Int) (n i : Nat) (z : Int) (p : Option Addr) (c : Nat) (w : World) (hn : n ≤ 200) (hi : i < n) (hf : FI G n (fun j => .int .i64 (f j)) p w) :
    Calls Tryd.prog 35 #[.slice p n c, .int .i64 i, .int .i64 z] w fun e w' => ∃ p' c', e = .returned (.slice p' n c') ∧ n ≤ c' ∧ c' ≤ maxLen ∧ FI (fun k => w.heap.size ≤ k) n (fun j => .int .i64 (M.upd1 f i z j)) p' w' ∧ Below w.heap.size w w' := by
  obtain ⟨i0, hi0, hz0, hz1, hz2⟩ := info_parts infoZT
  obtain ⟨b, off, rfl, hb, _, hc⟩ := hf.at_ (by omega)
  have HC : Hid (∀ j, j < n → w.cell? ⟨b, off + j, none⟩ = some (.int .i64 (f j))) := hc
  have hii : (i : Int) < n := by omega
  clear hf hc
  go_enter Tryd.func35, Tryd.ntmps35
  go_wp2_with (at_builtin; refine wpList_append_lies _ rfl _ _ 31 rfl w.heap.size 3 i0 (.int .i64 0) 1 8 Tryd.underlying31 hi0 hz0 hz1 hz2 rfl (by decide) (.slice none 0 0) 0 [] rfl (World.ownsRow_nil _ _ _ _) ⟨b, off, none⟩ n c (fcl (fun j => .int .i64 (f j)) n) rfl (by rw [fcl_length, Nat.mul_one]) (fun j u hu => by obtain ⟨h1, rfl⟩ := fcl_inv hu; rw [addr_add]; exact HC.out j h1) (fcl_one (fun _ _ => rfl)) (by omega) (by unfold maxLen; omega) (by omega) (Nat.le_refl _) w.heap.size rfl ?_)
  intro g cap w1 own gr at1 lt1
  have hg : g = w.heap.size := by
    rcases at1 with e | e
    · cases e
    · exact e
  have hcg := own.cellAt i (by omega)
  rw [fcl_at _ hi] at hcg
  have hfg := own.frozenAt i
  obtain ⟨st1, st2⟩ := own.stored i (.int .i64 z)
  rw [fcl_set] at st1
  have FIN : Hid (FI (fun k => w.heap.size ≤ k) n (fun j => .int .i64 (M.upd1 f i z j)) (some ⟨g, 0, none⟩) (w1.setCell ⟨g, i, none⟩ (.int .i64 z))) := (owns_FI st1).congr (fun j _ => by
    by_cases e : j = i
    · subst e; rw [M.upd1_same, M.upd1_same]
    · rw [M.upd1_other _ _ e, M.upd1_other _ _ e])
  obtain ⟨k1, k2⟩ := owns_cap own
  have FB : Hid (Below w.heap.size w (w1.setCell ⟨g, i, none⟩ (.int .i64 z))) := ((Below.refl _ w).grown gr (Nat.le_refl _) (fun k e => by cases e)).setCell (p := ⟨g, i, none⟩) (by show w.heap.size ≤ g; omega) _
  clear own gr at1 st1 st2 hg HC
  go_wp2_with fail
  go_ret
  exact ⟨_, cap, rfl, k1, k2, FIN.out, FB.out⟩
/-- is a number within? -/
def inK (z lo hi : Int) : Bool := decide (lo ≤ z ∧ z ≤ hi)
set_option maxHeartbeats 400000 in
theorem ink_ok (z lo hi : Int) (w : World) :
    Calls Tryd.prog 33 #[.int .i64 z, .int .i64 lo, .int .i64 hi] w fun e w' => e = .returned (.bool (inK z lo hi)) ∧ w = w' := by
  by_cases h : lo ≤ z
  · have e : Hid (inK z lo hi = decide (z ≤ hi)) := by show _ = _; unfold inK; rw [Bool.eq_iff_iff]; simp [h]
    go_enter Tryd.func33, Tryd.ntmps33
    go_wp2
    go_ret
    exact ⟨bool_ret e.out.symm, rfl⟩
  · have h' : z < lo := by omega
    have e : Hid (inK z lo hi = false) := by show _ = _; unfold inK; rw [decide_eq_false]; omega
    clear h
    go_enter Tryd.func33, Tryd.ntmps33
    go_wp2
    go_ret
    exact ⟨bool_ret e.out.symm, rfl⟩
/-! ### the document's locks -/
/-- Where the lists of locks lie. -/
structure LV where
  ph : Option Addr
  ch : Nat
  pw : Option Addr
  cw : Nat
  pa : Option Addr
  ca : Nat
def lv0 : LV := ⟨none, 0, none, 0, none, 0⟩
/-- A row of acts, in a block of G. -/
structure RA (G : Nat → Prop) (l : List M.SAct) (p : Option Addr) (c : Nat) (w : World) : Prop where
  nil : p = none → l.length = 0 ∧ c = 0
  cap : l.length ≤ c ∧ c ≤ maxLen
  act : ∀ j, j < l.length → ∃ b off, p = some ⟨b, off, none⟩ ∧ G b ∧ AcAt (azN (M.sat l j)) b (off + j * 3) w
/-- The document's locks: what each holds, what each waits for (-1: nothing), what was done. -/
structure RL (G : Nat → Prop) (s : M.Lk) (v : LV) (w : World) : Prop where
  ho : FI G 20 (fun j => .int .i64 (s.hd (j / 4) (j % 4) : Nat)) v.ph w
  wa : FI G 5 (fun t => .int .i64 ((s.wa t : Int) - 1)) v.pw w
  ac : RA G s.ac v.pa v.ca w
section
variable {G : Nat → Prop} {s : M.Lk} {v : LV} {l : List M.SAct} {p : Option Addr} {c : Nat} {w w' : World}
theorem RA.later (h : RA G l p c w) (hb : Below w.heap.size w w') : RA G l p c w' := ⟨h.nil, h.cap, fun j hj => by
  obtain ⟨b, off, e, hg, ha⟩ := h.act j hj
  exact ⟨b, off, e, hg, ha.later hb ha.lt⟩⟩
theorem RA.mono {G' : Nat → Prop} (h : RA G l p c w) (e : ∀ k, k < w.heap.size → G k → G' k) : RA G' l p c w := ⟨h.nil, h.cap, fun j hj => by
  obtain ⟨b, off, e1, hg, ha⟩ := h.act j hj
  exact ⟨b, off, e1, e b ha.lt hg, ha⟩⟩
theorem RA.frm {O : Nat → Prop} (h : RA G l p c w) (hf : Frm O w w') (e : ∀ k, G k → ¬ O k) : RA G l p c w' := ⟨h.nil, h.cap, fun j hj => by
  obtain ⟨b, off, e1, hg, ha⟩ := h.act j hj
  have hb := hf.block b ha.lt (e b hg)
  exact ⟨b, off, e1, hg, ⟨by have := hf.size; have := ha.lt; omega, (World.cell?_of_block (a := ⟨b, off + j * 3, none⟩) hb).trans ha.c0, (World.cell?_of_block (a := ⟨b, off + j * 3 + 1, none⟩) hb).trans ha.c1, (World.cell?_of_block (a := ⟨b, off + j * 3 + 2, none⟩) hb).trans ha.c2⟩⟩⟩
theorem RA.has (h : RA G l p c w) : HasAc (az l) p w := fun j hj => by
  rw [az_len] at hj
  obtain ⟨b, off, e1, hg, ha⟩ := h.act j hj
  exact ⟨b, off, e1, by rw [aAt_az]; exact ha⟩
theorem RL.later (h : RL G s v w) (hb : Below w.heap.size w w') : RL G s v w' := ⟨h.ho.later hb, h.wa.later hb, h.ac.later hb⟩
theorem RL.mono {G' : Nat → Prop} (h : RL G s v w) (e : ∀ k, k < w.heap.size → G k → G' k) : RL G' s v w := ⟨h.ho.mono e, h.wa.mono e, h.ac.mono e⟩
theorem RL.frm {O : Nat → Prop} (h : RL G s v w) (hf : Frm O w w') (e : ∀ k, G k → ¬ O k) : RL G s v w' := ⟨h.ho.frm hf e, h.wa.frm hf e, h.ac.frm hf e⟩
end
/-- Locks as a value. -/
abbrev rlV (s : M.Lk) (v : LV) : Value := .agg #[.slice v.ph 20 v.ch, .slice v.pw 5 v.cw, .int .i64 (M.frS s : Nat), .slice v.pa s.ac.length v.ca]
theorem M.agK_hit {f : Nat → Bool} {k : Nat} (h : f k = true) : M.cnt01 (k + 1) f = M.cnt01 k f + 2 ^ k := by
  have e : M.cnt01 (k + 1) f = M.cnt01 k f ||| (if f k then 1 <<< k else 0) := rfl
  rw [e, if_pos h]
  refine (add_pow_or _ _ ?_).symm
  rw [M.cnt01_bit, decide_eq_false (Nat.lt_irrefl _)]; rfl
theorem M.agK_miss {f : Nat → Bool} {k : Nat} (h : f k = false) : M.cnt01 (k + 1) f = M.cnt01 k f := by
  have e : M.cnt01 (k + 1) f = M.cnt01 k f ||| (if f k then 1 <<< k else 0) := rfl
  rw [e, h]; simp
set_option maxRecDepth 100000 in
set_option maxHeartbeats 4000000 in
theorem ragainst_ok {G : Nat → Prop} {s : M.Lk} (fr : Int) (t o k : Nat) (pa : Option Addr) (n ca ch cw : Nat) (ph pw : Option Addr) (w : World) (hf : FI G 20 (fun j => .int .i64 (s.hd (j / 4) (j % 4) : Nat)) ph w) (hk : k ≤ 1) (ho : o < 4) :
    Calls Tryd.prog 34 #[.agg #[.slice ph 20 ch, .slice pw 5 cw, .int .i64 fr, .slice pa n ca], .int .i64 (t : Nat), .int .i64 (o : Nat), .bool (k == 1)] w fun e w' => e = .returned (.int .i64 (M.agS s t o k : Nat)) ∧ Below w.heap.size w w' := by
  obtain ⟨b, off, rfl, hb, _, hc⟩ := hf.at_ (by omega)
  have HC : Hid (∀ j, j < 20 → w.cell? ⟨b, off + j, none⟩ = some (.int .i64 (s.hd (j / 4) (j % 4) : Nat))) := hc
  have FB : ∀ x, Hid (Below w.heap.size w (w.alloc x)) := fun x => bel_al (Below.refl _ _) x
  have HA : Hid (M.agS s t o k = M.cnt01 5 (M.agB s t o k)) := (rfl : M.agS s t o k = _)
  clear hf hc
  go_enter Tryd.func34, Tryd.ntmps34
  go_wp2_with fail
  obtain ⟨wa, hwa⟩ : ∃ wa, w.alloc (.cells #[.slice (some ⟨b, off, none⟩) 20 ch, .slice pw 5 cw, .int .i64 fr, .slice pa n ca] 46) = wa := ⟨_, rfl⟩
  have HB : Hid (Below w.heap.size w wa) := by rw [← hwa]; exact bel_al (Below.refl _ _) _
  have hx0 : wa.cell? ⟨w.heap.size, 0, none⟩ = some (.slice (some ⟨b, off, none⟩) 20 ch) := by rw [← hwa, cell_of_row _ _ _ _ _ _ (World.alloc_heap_new w _)]; rfl
  have hl0 : w.heap.size < wa.heap.size := by rw [← hwa]; simp
  have hbl : b < wa.heap.size := by omega
  rw [hwa]
  clear hwa FB
  go_loopw [9, 10] (fun a u wr => ∃ j d : Nat, u = .int .i64 (j : Nat) ∧ a = .int .i64 (d : Nat) ∧ j ≤ 5 ∧ Hid (M.cnt01 j (M.agB s t o k) = d) ∧ wr = wa) (fun _ u _ => 5 - (intOf u).toNat)
  case atStart => exact ⟨0, 0, rfl, rfl, Nat.zero_le _, (rfl : M.cnt01 0 (M.agB s t o k) = 0), rfl⟩
  case round =>
    obtain ⟨j, d, rfl, rfl, hj, hd, rfl⟩ := hrel
    by_cases hlt : j < 5
    case neg =>
      obtain rfl : j = 5 := by omega
      have HD : Hid (M.agS s t o k = d) := by show _ = _; rw [HA.out]; exact hd.out
      clear hd HA
      go_wp2_with fail
      go_ret
      exact ⟨by rw [HD.out]; rfl, HB.out⟩
    have hji : (j : Int) < 5 := by omega
    obtain ⟨g, hg⟩ : ∃ g, j * 4 + o = g := ⟨_, rfl⟩
    obtain ⟨g4, hg4⟩ : ∃ g, j * 4 = g := ⟨_, rfl⟩
    have i1 : (j : Int) * 4 = (g4 : Int) := by omega
    have i2 : (g4 : Int) + (o : Int) = (g : Int) := by omega
    have hg20 : g < 20 := by omega
    have hgi : (g : Int) < 20 := by omega
    have hc := (HB.out.cell (p := ⟨b, off + g, none⟩) hb).trans (HC.out g hg20)
    rw [show g / 4 = j by omega, show g % 4 = o by omega] at hc
    have hB : Hid (M.agB s t o k j = (decide (j ≠ t) && (decide (2 ≤ s.hd j o) || (k == 1 && s.hd j o == 1)))) := (rfl : M.agB s t o k j = _)
    have hit := @M.agK_hit (M.agB s t o k) j
    have miss := @M.agK_miss (M.agB s t o k) j
    rw [hd.out] at hit miss
    have HIT : Hid (M.agB s t o k j = true → M.cnt01 (j + 1) (M.agB s t o k) = d + 2 ^ j) := hit
    have MISS : Hid (M.agB s t o k j = false → M.cnt01 (j + 1) (M.agB s t o k) = d) := miss
    have hd32 : d < 32 := by rw [← hd.out]; exact Nat.lt_of_lt_of_le (Nat.lt_pow_two_of_testBit (n := j) _ (fun i hi => by rw [M.cnt01_bit, decide_eq_false (by omega)]; rfl)) (Nat.pow_le_pow_right (n := 2) (by omega) (by omega : j ≤ 5))
    obtain ⟨y, hy⟩ : ∃ y, 2 ^ j = y := ⟨_, rfl⟩
    have hy16 : y ≤ 16 := by rw [← hy]; exact Nat.pow_le_pow_right (n := 2) (by omega) (by omega : j ≤ 4)
    have hpw := fun w' => pow2_any j y w' (by omega) (hy : 2 ^ j = y)
    rw [hy] at HIT
    obtain ⟨h, hh⟩ : ∃ h, s.hd j o = h := ⟨_, rfl⟩
    rw [hh] at hc hB
    clear hit miss hd hy hh hg hg4
    by_cases hjt : j = t
    · have e : Hid (M.cnt01 (j + 1) (M.agB s t o k) = d) := MISS.out (by rw [hB.out, hjt]; simp)
      have hjb : ((j : Int) != (t : Int)) = false := by rw [hjt]; simp
      have hjq : ((j : Int) == (t : Int)) = true := by rw [hjt]; simp
      clear HIT MISS hB hpw hjt
      go_wp2_with fail
      go_roundw
      case rel => exact ⟨j + 1, d, by go_num, rfl, by omega, e, trivial⟩
      case measure => simp [intOf]; omega
    have hjb : ((j : Int) != (t : Int)) = true := by simp; omega
    have hjq : ((j : Int) == (t : Int)) = false := by simp; omega
    by_cases h2 : 2 ≤ h
    · have e : Hid (M.cnt01 (j + 1) (M.agB s t o k) = d + y) := HIT.out (by rw [hB.out]; simp [hjt, h2])
      have h2i : (2 : Int) ≤ (h : Int) := by omega
      clear HIT MISS hB hjt
      go_wp2_with fail
      refine (hpw _).mono ?_
      rintro e5 w5 ⟨rfl, rfl⟩
      go_wp2_with fail
      go_roundw
      case rel => exact ⟨j + 1, d + y, by go_num, by go_num, by omega, e, trivial⟩
      case measure => simp [intOf]; omega
    have h2i : (h : Int) < 2 := by omega
    have hk2 : k = 0 ∨ k = 1 := by omega
    rcases hk2 with rfl | rfl
    · have e : Hid (M.cnt01 (j + 1) (M.agB s t o 0) = d) := MISS.out (by rw [hB.out]; simp [h2])
      clear HIT MISS hB hpw hjt
      go_wp2_with fail
      go_roundw
      case rel => (repeat apply Exists.intro); refine ⟨?_, rfl⟩; exact ⟨j + 1, d, by go_num, rfl, by omega, e, trivial⟩
      case measure => simp [intOf]; omega
    · by_cases h1 : h = 1
      · have e : Hid (M.cnt01 (j + 1) (M.agB s t o 1) = d + y) := HIT.out (by rw [hB.out]; simp [hjt, h1])
        have h1b : ((h : Int) == 1) = true := by simp; omega
        clear HIT MISS hB hjt h1
        go_wp2_with fail
        refine (hpw _).mono ?_
        rintro e5 w5 ⟨rfl, rfl⟩
        go_wp2_with fail
        go_roundw
        case rel => (repeat apply Exists.intro); refine ⟨?_, rfl⟩; exact ⟨j + 1, d + y, by go_num, by go_num, by omega, e, trivial⟩
        case measure => simp [intOf]; omega
      · have e : Hid (M.cnt01 (j + 1) (M.agB s t o 1) = d) := MISS.out (by rw [hB.out]; simp [h1, h2])
        have h1b : ((h : Int) == 1) = false := by simp; omega
        clear HIT MISS hB hpw hjt h1
        go_wp2_with fail
        go_roundw
        case rel => (repeat apply Exists.intro); refine ⟨?_, rfl⟩; exact ⟨j + 1, d, by go_num, rfl, by omega, e, trivial⟩
        case measure => simp [intOf]; omega
end Go.Proofs.YtcjodlgkmbmcgaaDoor
namespace Go.Proofs.YtcjodlgkmbmcgaaDoor
open Go.RowKit
/-- Locks, cell by cell. -/
def lbF (a b fr n : Nat) (v : LV) (i : Nat) : Value := if i = 0 then .slice v.ph a v.ch else if i = 1 then .slice v.pw b v.cw else if i = 2 then .int .i64 (fr : Nat) else .slice v.pa n v.ca
def LB (B a b fr n : Nat) (v : LV) (w : World) : Prop := w.rowIs B 46 4 (lbF a b fr n v)
/-- locks' four cells are stored into block R -/
abbrev cpyL (w : World) (R fr n : Nat) (ph : Option Addr) (ch : Nat) (pw : Option Addr) (cw : Nat) (pa : Option Addr) (ca : Nat) : World :=
  (((w.setCell ⟨R, 0, none⟩ (.slice ph 20 ch)).setCell ⟨R, 1, none⟩ (.slice pw 5 cw)).setCell ⟨R, 2, none⟩ (.int .i64 (fr : Nat))).setCell ⟨R, 3, none⟩ (.slice pa n ca)
section
variable {B a b fr n : Nat} {v : LV} {w w' : World}
theorem LB.lt (h : LB B a b fr n v w) : B < w.heap.size := World.rowIs.lt h
theorem LB.below (h : LB B a b fr n v w) (hb : Below w.heap.size w w') : LB B a b fr n v w' := World.rowIs.of_block h (hb.block _ h.lt)
theorem LB.other (h : LB B a b fr n v w) {x : Addr} (hx : B ≠ x.block) (u : Value) : LB B a b fr n v (w.setCell x u) := World.rowIs.setOther h hx u
theorem LB.frm {O : Nat → Prop} (h : LB B a b fr n v w) (hf : Frm O w w') (hO : ¬ O B) : LB B a b fr n v w' := World.rowIs.of_block h (hf.block _ h.lt hO)
theorem LB.c0 (h : LB B a b fr n v w) : w.cell? ⟨B, 0, none⟩ = some (.slice v.ph a v.ch) := World.rowIs.cell h (i := 0) (by omega)
theorem LB.c1 (h : LB B a b fr n v w) : w.cell? ⟨B, 1, none⟩ = some (.slice v.pw b v.cw) := World.rowIs.cell h (i := 1) (by omega)
theorem LB.c2 (h : LB B a b fr n v w) : w.cell? ⟨B, 2, none⟩ = some (.int .i64 (fr : Nat)) := World.rowIs.cell h (i := 2) (by omega)
theorem LB.c3 (h : LB B a b fr n v w) : w.cell? ⟨B, 3, none⟩ = some (.slice v.pa n v.ca) := World.rowIs.cell h (i := 3) (by omega)
theorem LB.fz (h : LB B a b fr n v w) (i : Nat) : w.frozen? ⟨B, i, none⟩ = false := World.rowIs.frozen h i
theorem LB.setH (h : LB B a b fr n v w) (p : Option Addr) (c : Nat) : LB B a b fr n { v with ph := p, ch := c } (w.setCell ⟨B, 0, none⟩ (.slice p a c)) :=
  (World.rowIs.set h 0 _).congr (fun i hi => by
    have : i = 0 ∨ i = 1 ∨ i = 2 ∨ i = 3 := by omega
    rcases this with rfl | rfl | rfl | rfl <;> simp [lbF])
theorem LB.setW (h : LB B a b fr n v w) (p : Option Addr) (c : Nat) : LB B a b fr n { v with pw := p, cw := c } (w.setCell ⟨B, 1, none⟩ (.slice p b c)) :=
  (World.rowIs.set h 1 _).congr (fun i hi => by
    have : i = 0 ∨ i = 1 ∨ i = 2 ∨ i = 3 := by omega
    rcases this with rfl | rfl | rfl | rfl <;> simp [lbF])
theorem LB.setF (h : LB B a b fr n v w) (f : Nat) : LB B a b f n v (w.setCell ⟨B, 2, none⟩ (.int .i64 (f : Nat))) :=
  (World.rowIs.set h 2 _).congr (fun i hi => by
    have : i = 0 ∨ i = 1 ∨ i = 2 ∨ i = 3 := by omega
    rcases this with rfl | rfl | rfl | rfl <;> simp [lbF])
theorem LB.setA (h : LB B a b fr n v w) (m : Nat) (p : Option Addr) (c : Nat) : LB B a b fr m { v with pa := p, ca := c } (w.setCell ⟨B, 3, none⟩ (.slice p m c)) :=
  (World.rowIs.set h 3 _).congr (fun i hi => by
    have : i = 0 ∨ i = 1 ∨ i = 2 ∨ i = 3 := by omega
    rcases this with rfl | rfl | rfl | rfl <;> simp [lbF])
theorem LB.cpy {R a0 b0 f0 n0 : Nat} {v0 : LV} (h : LB R a0 b0 f0 n0 v0 w) (fr n : Nat) (v : LV) : LB R 20 5 fr n v (cpyL w R fr n v.ph v.ch v.pw v.cw v.pa v.ca) :=
  (World.rowIs.set (World.rowIs.set (World.rowIs.set (World.rowIs.set h 0 _) 1 _) 2 _) 3 _).congr (fun i hi => by
    have : i = 0 ∨ i = 1 ∨ i = 2 ∨ i = 3 := by omega
    rcases this with rfl | rfl | rfl | rfl <;> simp [lbF])
end
theorem lb_alloc (w : World) (a b fr n : Nat) (v : LV) : LB w.heap.size a b fr n v (w.alloc (.cells #[.slice v.ph a v.ch, .slice v.pw b v.cw, .int .i64 (fr : Nat), .slice v.pa n v.ca] 46)) := by
  refine World.rowIs_alloc w #[.slice v.ph a v.ch, .slice v.pw b v.cw, .int .i64 (fr : Nat), .slice v.pa n v.ca] _ _ (fun i hi => ?_)
  have hi' : i < 4 := hi
  rcases i with _ | _ | _ | _ | i
  · rfl
  · rfl
  · rfl
  · rfl
  · omega
theorem bel_cpyL {B : Nat} {a w : World} (h : Below B a w) {R : Nat} (hR : B ≤ R) (fr n : Nat) (ph : Option Addr) (ch : Nat) (pw : Option Addr) (cw : Nat) (pa : Option Addr) (ca : Nat) : Below B a (cpyL w R fr n ph ch pw cw pa ca) :=
  (((h.setCell (p := ⟨R, 0, none⟩) hR _).setCell (p := ⟨R, 1, none⟩) hR _).setCell (p := ⟨R, 2, none⟩) hR _).setCell (p := ⟨R, 3, none⟩) hR _
section
variable {G : Nat → Prop} {s : M.Lk} {v : LV} {w w' : World}
theorem FIset {n : Nat} {f : Nat → Value} {p : Option Addr} (h : FI G n f p w) {a : Addr} (ha : ¬ G a.block) (u : Value) : FI G n f p (w.setCell a u) := fun j hj => by
  obtain ⟨b, off, h1, h2, h3, h4⟩ := h j hj
  refine ⟨b, off, h1, by simpa [World.setCell] using h2, h3, ?_⟩
  rw [World.cell?_of_block (Below.heap_setCell _ _ _ _ (fun (e : b = a.block) => ha (e ▸ h3)))]
  exact h4
theorem RA.set {l : List M.SAct} {p : Option Addr} {c : Nat} (h : RA G l p c w) {a : Addr} (ha : ¬ G a.block) (u : Value) : RA G l p c (w.setCell a u) := ⟨h.nil, h.cap, fun j hj => by
  obtain ⟨b, off, e1, hg, hc⟩ := h.act j hj
  have hb := Below.heap_setCell w a u b (fun e => ha (e ▸ hg))
  exact ⟨b, off, e1, hg, ⟨by have := hc.lt; simpa [World.setCell] using this, (World.cell?_of_block (a := ⟨b, off + j * 3, none⟩) hb).trans hc.c0, (World.cell?_of_block (a := ⟨b, off + j * 3 + 1, none⟩) hb).trans hc.c1, (World.cell?_of_block (a := ⟨b, off + j * 3 + 2, none⟩) hb).trans hc.c2⟩⟩⟩
theorem RL.set (h : RL G s v w) {a : Addr} (ha : ¬ G a.block) (u : Value) : RL G s v (w.setCell a u) := ⟨FIset h.ho ha u, FIset h.wa ha u, h.ac.set ha u⟩
theorem RL.cpy (h : RL G s v w) {R : Nat} (hR : ¬ G R) (fr n : Nat) (ph : Option Addr) (ch : Nat) (pw : Option Addr) (cw : Nat) (pa : Option Addr) (ca : Nat) : RL G s v (cpyL w R fr n ph ch pw cw pa ca) :=
  (((h.set (a := ⟨R, 0, none⟩) hR _).set (a := ⟨R, 1, none⟩) hR _).set (a := ⟨R, 2, none⟩) hR _).set (a := ⟨R, 3, none⟩) hR _
end
theorem results_lk {fn : Func} {t u : Tmp} (h : fn.results = #[.cell t 46, .tmp u]) (tmps : Array Value) (w : World) (B : Nat) (s : M.Lk) (v : LV) (c : Int) (hp : tmps.getD t undef = .pointer (some ⟨B, 0, none⟩)) (hc : tmps.getD u undef = .int .i64 c) (hr : LB B 20 5 (M.frS s) s.ac.length v w) :
    (results fn tmps).run Tryd.prog w = .ok (.tuple #[rlV s v, .int .i64 c]) w := by
  have hp' : tmps[t]?.getD undef = .pointer (some ⟨B, 0, none⟩) := by simpa using hp
  have hc' : tmps[u]?.getD undef = .int .i64 c := by simpa using hc
  have h0 := hr.c0
  have h1 := hr.c1
  have h2 := hr.c2
  have h3 := hr.c3
  simp [results, h, go_sem, hp', hc', h0, h1, h2, h3]
theorem results_lk1 {fn : Func} {t : Tmp} (h : fn.results = #[.cell t 46]) (tmps : Array Value) (w : World) (B : Nat) (s : M.Lk) (v : LV) (hp : tmps.getD t undef = .pointer (some ⟨B, 0, none⟩)) (hr : LB B 20 5 (M.frS s) s.ac.length v w) :
    (results fn tmps).run Tryd.prog w = .ok (rlV s v) w := by
  have hp' : tmps[t]?.getD undef = .pointer (some ⟨B, 0, none⟩) := by simpa using hp
  have h0 := hr.c0
  have h1 := hr.c1
  have h2 := hr.c2
  have h3 := hr.c3
  simp [results, h, go_sem, hp', h0, h1, h2, h3]
/-- How things stand within a step of the document's: the locks in block N, the deed in N + 1, what is handed back in N + 2; the locks' lists lie elsewhere. -/
structure KS (N : Nat) (G : Nat → Prop) (d : Dz) (s : M.Lk) (v : LV) (w0 w : World) : Prop where
  rl : RL G s v w
  lb : LB N 20 5 (M.frS s) s.ac.length v w
  db : DeAt d (N + 1) 0 w
  zb : LB (N + 2) 0 0 0 0 lv0 w
  bl : Below N w0 w
  nl : ¬ G N
  n1 : ¬ G (N + 1)
  nz : ¬ G (N + 2)
  fr : ∀ j, N + 2 < j → G j
theorem DeAt.set {o : Dz} {b k : Nat} {w : World} (h : DeAt o b k w) {a : Addr} (ha : b ≠ a.block) (u : Value) : DeAt o b k (w.setCell a u) := by
  have hb := Below.heap_setCell w a u b ha
  exact ⟨by have := h.lt; simpa [World.setCell] using this, (World.cell?_of_block (a := ⟨b, k, none⟩) hb).trans h.c0, (World.cell?_of_block (a := ⟨b, k + 1, none⟩) hb).trans h.c1, (World.cell?_of_block (a := ⟨b, k + 2, none⟩) hb).trans h.c2, (World.cell?_of_block (a := ⟨b, k + 3, none⟩) hb).trans h.c3⟩
theorem ks_begin {G : Nat → Prop} {d : Dz} {s : M.Lk} {v : LV} {w : World} (hR : RL G s v w) (hG : ∀ j, w.heap.size ≤ j → G j) : KS w.heap.size (fun j => G j ∧ j ≠ w.heap.size ∧ j ≠ w.heap.size + 1 ∧ j ≠ w.heap.size + 2) d s v w
    (((w.alloc (.cells #[.slice v.ph 20 v.ch, .slice v.pw 5 v.cw, .int .i64 (M.frS s : Nat), .slice v.pa s.ac.length v.ca] 46)).alloc (.cells #[.int .i64 d.k, .int .i64 d.t, .int .i64 d.i, .int .i64 d.x] 30)).alloc (.cells #[.slice none 0 0, .slice none 0 0, .int .i64 0, .slice none 0 0] 46)) := by
  have L1 := lb_alloc w 20 5 (M.frS s) s.ac.length v
  obtain ⟨w1, hw1⟩ : ∃ w1, w.alloc (.cells #[.slice v.ph 20 v.ch, .slice v.pw 5 v.cw, .int .i64 (M.frS s : Nat), .slice v.pa s.ac.length v.ca] 46) = w1 := ⟨_, rfl⟩
  have s1 : w1.heap.size = w.heap.size + 1 := by subst hw1; simp
  have B1 : Below w.heap.size w w1 := by rw [← hw1]; exact bel_al (Below.refl _ _) _
  rw [hw1] at L1 ⊢
  have D2 := deAt_new w1 d
  obtain ⟨w2, hw2⟩ : ∃ w2, w1.alloc (.cells #[.int .i64 d.k, .int .i64 d.t, .int .i64 d.i, .int .i64 d.x] 30) = w2 := ⟨_, rfl⟩
  have s2 : w2.heap.size = w.heap.size + 2 := by subst hw2; simp; omega
  have B2 : Below w1.heap.size w1 w2 := by rw [← hw2]; exact bel_al (Below.refl _ _) _
  rw [hw2] at D2 ⊢
  have Z3 : LB w2.heap.size 0 0 0 0 lv0 (w2.alloc (.cells #[.slice none 0 0, .slice none 0 0, .int .i64 0, .slice none 0 0] 46)) := lb_alloc w2 0 0 0 0 lv0
  obtain ⟨w3, hw3⟩ : ∃ w3, w2.alloc (.cells #[.slice none 0 0, .slice none 0 0, .int .i64 0, .slice none 0 0] 46) = w3 := ⟨_, rfl⟩
  have B3 : Below w2.heap.size w2 w3 := by rw [← hw3]; exact bel_al (Below.refl _ _) _
  rw [hw3] at Z3 ⊢
  have B12 := bel_on B1 B2
  have B13 := bel_on B12 B3
  rw [s1] at D2
  rw [s2] at Z3
  exact ⟨(hR.mono (fun j hj hg => ⟨hg, by omega, by omega, by omega⟩)).later B13, (L1.below B2).below B3, D2.later B3 (by omega), Z3, B13, fun e => e.2.1 rfl, fun e => e.2.2.1 rfl, fun e => e.2.2.2 rfl, fun j hj => ⟨hG j (by omega), by omega, by omega, by omega⟩⟩
section
variable {N : Nat} {G G0 : Nat → Prop} {d : Dz} {s s' : M.Lk} {v : LV} {w0 w w' : World}
/-- locks are handed back as they stand -/
theorem KS.ret (h : KS N G d s v w0 w) (hG : ∀ j, G j → G0 j) : LB (N + 2) 20 5 (M.frS s) s.ac.length v (cpyL w (N + 2) (M.frS s) s.ac.length v.ph v.ch v.pw v.cw v.pa v.ca) ∧ RL G0 s v (cpyL w (N + 2) (M.frS s) s.ac.length v.ph v.ch v.pw v.cw v.pa v.ca) ∧ Below N w0 (cpyL w (N + 2) (M.frS s) s.ac.length v.ph v.ch v.pw v.cw v.pa v.ca) :=
  ⟨h.zb.cpy _ _ v, (h.rl.cpy h.nz _ _ _ _ _ _ _ _).mono (fun j _ hj => hG j hj), bel_cpyL h.bl (by omega) _ _ _ _ _ _ _ _⟩
theorem KS.sz (h : KS N G d s v w0 w) : N + 2 < w.heap.size := h.zb.lt
theorem KS.later (h : KS N G d s v w0 w) (hb : Below w.heap.size w w') : KS N G d s v w0 w' :=
  ⟨h.rl.later hb, h.lb.below hb, h.db.later hb h.db.lt, h.zb.below hb, h.bl.trans (hb.mono (by have := h.sz; omega)), h.nl, h.n1, h.nz, h.fr⟩
theorem KS.setH (h : KS N G d s v w0 w) (hb : Below w.heap.size w w') {p : Option Addr} (c : Nat) (e1 : s'.wa = s.wa) (e2 : s'.fo = s.fo) (e3 : s'.ac = s.ac) (hf : FI G 20 (fun j => .int .i64 (s'.hd (j / 4) (j % 4) : Nat)) p w') : KS N G d s' { v with ph := p, ch := c } w0 (w'.setCell ⟨N, 0, none⟩ (.slice p 20 c)) := by
  have h' := h.later hb
  refine ⟨⟨FIset hf (a := ⟨N, 0, none⟩) h.nl _, ?_, ?_⟩, ?_, h'.db.set (a := ⟨N, 0, none⟩) (show N + 1 ≠ N by omega) _, h'.zb.other (x := ⟨N, 0, none⟩) (show N + 2 ≠ N by omega) _, h'.bl.setCell (p := ⟨N, 0, none⟩) (Nat.le_refl _) _, h.nl, h.n1, h.nz, h.fr⟩
  · rw [e1]; exact FIset h'.rl.wa (a := ⟨N, 0, none⟩) h.nl _
  · rw [e3]; exact h'.rl.ac.set (a := ⟨N, 0, none⟩) h.nl _
  · have : M.frS s' = M.frS s := by unfold M.frS; rw [e2]
    rw [this, e3]; exact h'.lb.setH p c
theorem KS.setW (h : KS N G d s v w0 w) (hb : Below w.heap.size w w') {p : Option Addr} (c : Nat) (e1 : s'.hd = s.hd) (e2 : s'.fo = s.fo) (e3 : s'.ac = s.ac) (hf : FI G 5 (fun t => .int .i64 ((s'.wa t : Int) - 1)) p w') : KS N G d s' { v with pw := p, cw := c } w0 (w'.setCell ⟨N, 1, none⟩ (.slice p 5 c)) := by
  have h' := h.later hb
  refine ⟨⟨?_, FIset hf (a := ⟨N, 1, none⟩) h.nl _, ?_⟩, ?_, h'.db.set (a := ⟨N, 1, none⟩) (show N + 1 ≠ N by omega) _, h'.zb.other (x := ⟨N, 1, none⟩) (show N + 2 ≠ N by omega) _, h'.bl.setCell (p := ⟨N, 1, none⟩) (Nat.le_refl _) _, h.nl, h.n1, h.nz, h.fr⟩
  · rw [e1]; exact FIset h'.rl.ho (a := ⟨N, 1, none⟩) h.nl _
  · rw [e3]; exact h'.rl.ac.set (a := ⟨N, 1, none⟩) h.nl _
  · have : M.frS s' = M.frS s := by unfold M.frS; rw [e2]
    rw [this, e3]; exact h'.lb.setW p c
theorem KS.setF (h : KS N G d s v w0 w) (hb : Below w.heap.size w w') (e1 : s'.hd = s.hd) (e2 : s'.wa = s.wa) (e3 : s'.ac = s.ac) : KS N G d s' v w0 (w'.setCell ⟨N, 2, none⟩ (.int .i64 (M.frS s' : Nat))) := by
  have h' := h.later hb
  refine ⟨⟨?_, ?_, ?_⟩, ?_, h'.db.set (a := ⟨N, 2, none⟩) (show N + 1 ≠ N by omega) _, h'.zb.other (x := ⟨N, 2, none⟩) (show N + 2 ≠ N by omega) _, h'.bl.setCell (p := ⟨N, 2, none⟩) (Nat.le_refl _) _, h.nl, h.n1, h.nz, h.fr⟩
  · rw [e1]; exact FIset h'.rl.ho (a := ⟨N, 2, none⟩) h.nl _
  · rw [e2]; exact FIset h'.rl.wa (a := ⟨N, 2, none⟩) h.nl _
  · rw [e3]; exact h'.rl.ac.set (a := ⟨N, 2, none⟩) h.nl _
  · rw [e3]; exact h'.lb.setF _
theorem KS.setA (h : KS N G d s v w0 w) (hb : Below w.heap.size w w') {p : Option Addr} (c : Nat) (e1 : s'.hd = s.hd) (e2 : s'.wa = s.wa) (e3 : s'.fo = s.fo) (hf : RA G s'.ac p c w') : KS N G d s' { v with pa := p, ca := c } w0 (w'.setCell ⟨N, 3, none⟩ (.slice p s'.ac.length c)) := by
  have h' := h.later hb
  refine ⟨⟨?_, ?_, hf.set (a := ⟨N, 3, none⟩) h.nl _⟩, ?_, h'.db.set (a := ⟨N, 3, none⟩) (show N + 1 ≠ N by omega) _, h'.zb.other (x := ⟨N, 3, none⟩) (show N + 2 ≠ N by omega) _, h'.bl.setCell (p := ⟨N, 3, none⟩) (Nat.le_refl _) _, h.nl, h.n1, h.nz, h.fr⟩
  · rw [e1]; exact FIset h'.rl.ho (a := ⟨N, 3, none⟩) h.nl _
  · rw [e2]; exact FIset h'.rl.wa (a := ⟨N, 3, none⟩) h.nl _
  · have : M.frS s' = M.frS s := by unfold M.frS; rw [e3]
    rw [this]; exact h'.lb.setA _ p c
end
end Go.Proofs.YtcjodlgkmbmcgaaDoor
