/- How much each process of a bank has (package snap, Money), and what is on a way (Way). -/
import Derived.Test.YtplplgpfglaajaaDoorBk8
namespace Go.Proofs.YtplplgpfglaajaaDoor
open Go.RowKit
namespace M
def mol (n : Nat) (b : Bk) : List Int := (List.range n).map b.mo
theorem mol_length (n : Nat) (b : Bk) : (mol n b).length = n := by simp [mol]
theorem mol_at {n : Nat} (b : Bk) {i : Nat} (h : i < n) : (mol n b)[i]?.getD 0 = b.mo i := by simp [mol, h]
end M
theorem rowIs_hasI {w : World} {A n : Nat} {t : TypeId} {l : List Int} {f : Nat → Value} (h : w.rowIs A t n f) (hl : l.length = n) (hf : ∀ i, i < n → f i = .int .i64 (l[i]?.getD 0)) : HasI l (some ⟨A, 0, none⟩) w := fun j hj =>
  ⟨A, 0, rfl, h.lt, by rw [Nat.zero_add, h.cell (i := j) (by omega), hf j (by omega)]⟩
set_option maxRecDepth 100000 in
set_option maxHeartbeats 1000000 in
theorem money_ok {O : Nat → Prop} {S n : Nat} {b : M.Bk} (w : World) (h : BV O S n b w) (hn5 : n ≤ 5) :
    Calls Tryd.prog 10 #[.pointer (some ⟨S, 0, none⟩)] w fun e w' => ∃ ad, e = .returned (.slice ad n n) ∧ HasI (M.mol n b) ad w' ∧ Below w.heap.size w w' := by
  obtain ⟨Pb, v, h1, _⟩ := h
  have hmk := run_make_row' (P := Tryd.prog) 22 3 (.int .i64 0) 8 Tryd.underlying22 infoIn rfl .i64 .i64 n (by omega) (by omega)
  have hc := h1.procs
  have hS := h1.ltS
  obtain ⟨w1, hw1⟩ : ∃ w1, w.alloc (.cells (madeCells #[.int .i64 0] n) 3) = w1 := ⟨_, rfl⟩
  have hB1 : Below w.heap.size w w1 := by rw [← hw1]; exact bel_al (Below.refl _ _) _
  have hR1 : w1.rowIs w.heap.size 3 n (fun i => .int .i64 (if i < 0 then b.mo i else 0)) := by rw [← hw1]; exact World.rowIs_made w _ n _
  have hc1 := (h1.below hB1).procs
  have H1 : Hid (BVr w S Pb v n b) := h1
  have hbp : w.heap.size < w1.heap.size := hR1.lt
  clear h1
  go_enter Tryd.func10, Tryd.ntmps10
  go_wp2_with fail
  go_loopw [17] (fun v wr => ∃ k : Nat, v = .int .i64 k ∧ k ≤ n ∧ wr.rowIs w.heap.size 3 n (fun i => .int .i64 (if i < k then b.mo i else 0)) ∧ Below w.heap.size w wr) (fun v _ => n - (intOf v).toNat)
  case atStart => exact ⟨0, rfl, Nat.zero_le _, hR1, hB1⟩
  case round =>
    clear hw1 hB1 hR1 hmk hc hc1
    obtain ⟨k, rfl, hk, hR, hB⟩ := hrel
    by_cases hlt : k < n
    · have hr := H1.out.below hB
      have c0 := hr.mo hlt
      have c1 := hr.no hlt
      have c2 := hr.had hlt
      have hP := hr.ltP
      have hlR := hR.lt
      have hki : (k : Int) < n := by omega
      have hcm := hR.cell (i := k) hlt
      have hfm := hR.frozen k
      have FIN : Hid (∀ o, ((wr.setCell ⟨w.heap.size, k, none⟩ (.int .i64 (b.mo k))).alloc o).rowIs w.heap.size 3 n (fun i => .int .i64 (if i < k + 1 then b.mo i else 0)) ∧ Below w.heap.size w ((wr.setCell ⟨w.heap.size, k, none⟩ (.int .i64 (b.mo k))).alloc o)) := fun o => by
        refine ⟨((hR.set k _).alloc o).congr (fun i _ => ?_), bel_al (hB.setCell (p := ⟨w.heap.size, k, none⟩) (Nat.le_refl _) _) o⟩
        by_cases e : i = k
        · subst e; rw [if_pos rfl, if_pos (by omega)]
        · rw [if_neg e]
          by_cases e1 : i < k
          · rw [if_pos e1, if_pos (by omega)]
          · rw [if_neg e1, if_neg (by omega)]
      obtain ⟨z0, hz0⟩ : ∃ z, b.mo k = z := ⟨_, rfl⟩
      obtain ⟨z1, hz1⟩ : ∃ z, decide (0 ≤ b.no k) = z := ⟨_, rfl⟩
      obtain ⟨z2, hz2⟩ : ∃ z, (if 0 ≤ b.no k then b.no k else 0) = z := ⟨_, rfl⟩
      obtain ⟨z3, hz3⟩ : ∃ z, (if k < k then b.mo k else 0) = z := ⟨_, rfl⟩
      rw [hz0] at c0 FIN
      rw [hz1] at c1
      rw [hz2] at c2
      rw [hz3] at hcm
      clear hr hz0 hz1 hz2 hz3 hR hB
      go_wp2_with fail
      go_roundw
      case rel => exact ⟨k + 1, by go_num, by omega, FIN.out _⟩
      case measure => simp [intOf]; omega
    · obtain rfl : n = k := by omega
      have HR : Hid (HasI (M.mol n b) (some ⟨w.heap.size, 0, none⟩) wr) := rowIs_hasI hR (M.mol_length n b) (fun i hi => by rw [M.mol_at b hi, if_pos hi])
      have HB : Hid (Below w.heap.size w wr) := hB
      clear hR hB
      go_wp2_with fail
      go_ret
      exact ⟨_, rfl, HR.out, HB.out⟩
set_option maxRecDepth 100000 in
set_option maxHeartbeats 1000000 in
theorem way_out {O : Nat → Prop} {S n : Nat} {b : M.Bk} (f t : Int) (w : World) (h : BV O S n b w) (hx : thingZ f n = false ∨ thingZ t n = false) :
    Calls Tryd.prog 13 #[.pointer (some ⟨S, 0, none⟩), .int .i64 f, .int .i64 t] w fun e w' => e = .returned (.slice none 0 0) ∧ w = w' := by
  cases hf : thingZ f n with
  | false =>
    clear hx
    go_enter Tryd.func13, Tryd.ntmps13
    go_wp2_with fail
    refine (has_ok f w h).mono ?_
    rw [hf]
    rintro e w' ⟨rfl, rfl⟩
    clear hf
    go_wp2_with fail
    go_ret
    exact ⟨rfl, rfl⟩
  | true =>
    have ht : thingZ t n = false := by
      rcases hx with e | e
      · rw [hf] at e; cases e
      · exact e
    clear hx
    go_enter Tryd.func13, Tryd.ntmps13
    go_wp2_with fail
    refine (has_ok f w h).mono ?_
    rw [hf]
    rintro e w' ⟨rfl, rfl⟩
    clear hf
    go_wp2_with fail
    refine (has_ok t w h).mono ?_
    rw [ht]
    rintro e w' ⟨rfl, rfl⟩
    clear ht
    go_wp2_with fail
    go_ret
    exact ⟨rfl, rfl⟩
set_option maxRecDepth 100000 in
set_option maxHeartbeats 1000000 in
theorem way_ok {O : Nat → Prop} {S n : Nat} {b : M.Bk} (p q : Nat) (w : World) (h : BV O S n b w) (hg : M.BG n b) (hp : p < n) (hq : q < n) :
    Calls Tryd.prog 13 #[.pointer (some ⟨S, 0, none⟩), .int .i64 p, .int .i64 q] w fun e w' => ∃ ad c, e = .returned (.slice ad (b.wy p q).length c) ∧ HasI (b.wy p q) ad w' ∧ Below w.heap.size w w' := by
  have H : Hid (BV O S n b w) := h
  obtain ⟨Pb, v, h1, _⟩ := h
  have hn5 := hg.n5
  have hc := h1.waits (q := q) (p := p) (by omega) (by omega)
  have hown := h1.way q p (by omega) (by omega)
  have hp5 : (p : Int) < 5 := by omega
  have hq5 : (q : Int) < 5 := by omega
  have ef : thingZ (p : Int) n = true := thingZ_true (by omega) (by omega)
  have et : thingZ (q : Int) n = true := thingZ_true (by omega) (by omega)
  have HL : Hid ((b.wy p q).length ≤ 9) := hg.cnt p q
  obtain ⟨l, hl⟩ : ∃ l, b.wy p q = l := ⟨_, rfl⟩
  obtain ⟨V, hV⟩ : ∃ V, v q p = V := ⟨_, rfl⟩
  rw [hl, hV] at hown
  rw [hV] at hc
  rw [hl] at HL ⊢
  clear h1 hl hV hg
  cases l with
  | nil =>
    obtain ⟨ad, c0, rfl⟩ := owns_slice hown
    rw [List.length_nil] at hc
    clear hown
    go_enter Tryd.func13, Tryd.ntmps13
    go_wp2_with fail
    refine (has_ok (p : Int) w H.out).mono ?_
    rw [ef]
    rintro e w' ⟨rfl, rfl⟩
    clear ef
    go_wp2_with fail
    refine (has_ok (q : Int) w H.out).mono ?_
    rw [et]
    rintro e w' ⟨rfl, rfl⟩
    clear et
    go_wp2_with fail
    go_ret
    exact ⟨none, 0, rfl, fun j hj => absurd hj (Nat.not_lt_zero _), Below.refl _ _⟩
  | cons x r =>
    obtain ⟨g, cap, f, rfl, hgl, hcap, hmax, hrow, hf⟩ := way_block hown
    have HC : Hid (∀ j, j < r.length + 1 → w.cell? ⟨g, 0 + j, none⟩ = some (.int .i64 ((x :: r)[j]?.getD 0))) := fun j hj => by rw [Nat.zero_add, hrow.cell (i := j) (by omega), hf j hj]
    have hL0 : (((r.length + 1 : Nat) : Int) == 0) = false := by simp; omega
    have hL1 : ((r.length : Int) + 1 == 0) = false := by simp; omega
    clear hown hrow hf
    go_enter Tryd.func13, Tryd.ntmps13
    go_wp2_with fail
    refine (has_ok (p : Int) w H.out).mono ?_
    rw [ef]
    rintro e w' ⟨rfl, rfl⟩
    clear ef
    go_wp2_with fail
    refine (has_ok (q : Int) w H.out).mono ?_
    rw [et]
    rintro e w' ⟨rfl, rfl⟩
    clear et
    go_wp2_with fail
    refine (cloneZ_ok (x :: r) g 0 (r.length + 1) cap w (by simp) (by have := HL.out; simp at this; omega) hgl HC.out).mono ?_
    rintro e w2 ⟨ad, c, rfl, ho, hB⟩
    have G1 : Hid (HasI (x :: r) ad w2) := owns_hasI (by simp) ho
    have G2 : Hid (Below w.heap.size w w2) := hB
    clear ho hB hc HC
    go_wp2_with fail
    go_ret
    exact ⟨ad, c, rfl, G1.out, G2.out⟩
end Go.Proofs.YtplplgpfglaajaaDoor
