/- A new bank of the document's own (package whensteadref2, NewBank). -/
import Derived.Test.YtplplgpfglaajaaDoorRefB9
import Derived.Deep.CutRange
import Derived.RegionTactic
namespace Go.Proofs.YtplplgpfglaajaaDoor
open Go.RowKit
theorem z_alloc (w : World) : LB w.heap.size 0 false v0 (w.alloc (.cells #[.slice none 0 0, .slice none 0 0, .slice none 0 0, .slice none 0 0, .slice none 0 0, .bool false] 27)) := rb_alloc w 0 false v0
theorem z_cpy {R : Nat} {w : World} (h : LB R 0 false v0 w) : LB R 0 false v0 (cpy w R 0 0 false none 0 none 0 none 0 none 0 none 0) := h.cpy (n := 0) (N2 := 0) rfl v0
set_option maxRecDepth 100000 in
set_option maxHeartbeats 2000000 in
theorem rnew_err (zs : List Int) (p : Option Addr) (n cap : Nat) (w : World) (hl : zs.length = n) (hmax : n ≤ maxLen) (hc : HasI zs p w) (he : M.newC zs ≠ 0) :
    Calls Tryd.prog 4 #[.slice p n cap] w fun e w' => e = .returned (.tuple #[rbV 0 false v0, .int .i64 (M.newC zs : Nat)]) ∧ Below w.heap.size w w' := by
  unfold maxLen at hmax
  obtain ⟨W, hW⟩ : ∃ W, w.alloc (.cells #[.slice none 0 0, .slice none 0 0, .slice none 0 0, .slice none 0 0, .slice none 0 0, .bool false] 27) = W := ⟨_, rfl⟩
  have ZW : LB w.heap.size 0 false v0 W := by rw [← hW]; exact z_alloc w
  have BW : Below w.heap.size w W := by rw [← hW]; exact bel_al (Below.refl _ _) _
  have lL := ZW.lt
  have z0 := ZW.c0
  have z1 := ZW.c1
  have z2 := ZW.c2
  have z3 := ZW.c3
  have z4 := ZW.c4
  have z5 := ZW.c5
  have f0 := ZW.fz 0
  have f1 := ZW.fz 1
  have f2 := ZW.fz 2
  have f3 := ZW.fz 3
  have f4 := ZW.fz 4
  have f5 := ZW.fz 5
  simp only [v0] at z0 z1 z2 z3 z4
  have F : Hid (LB w.heap.size 0 false v0 (cpy W w.heap.size 0 0 false none 0 none 0 none 0 none 0 none 0) ∧ Below w.heap.size w (cpy W w.heap.size 0 0 false none 0 none 0 none 0 none 0 none 0)) := ⟨z_cpy ZW, bel_cpy BW (Nat.le_refl _) _ _ _ _ _ _ _ _ _ _ _ _ _⟩
  have HC : Hid (HasI zs p W) := hc.later BW
  clear ZW BW hc
  by_cases h0 : n = 0
  · have e : M.newC zs = 5 := by unfold M.newC; rw [if_pos (by omega)]
    rw [e]
    subst h0
    clear e he
    go_enter Tryd.func4, Tryd.ntmps4
    go_wp2_with fail
    exact bodyPost_ret (v := .tuple #[rbV 0 false v0, .int .i64 (5 : Nat)]) (results_bank rfl _ _ w.heap.size 0 false v0 5 rfl rfl F.out.1) rfl ⟨rfl, F.out.2⟩
  by_cases h5 : 5 < n
  · have e : M.newC zs = 4 := by unfold M.newC; rw [if_neg (by omega), if_pos (by omega)]
    rw [e]
    have hz : ((n : Int) == 0) = false := by simp; omega
    have hz' : (n == 0) = false := by simp; omega
    have h5' : (5 : Int) < (n : Int) := by omega
    clear e he h0
    go_enter Tryd.func4, Tryd.ntmps4
    go_wp2_with fail
    exact bodyPost_ret (v := .tuple #[rbV 0 false v0, .int .i64 (4 : Nat)]) (results_bank rfl _ _ w.heap.size 0 false v0 4 rfl rfl F.out.1) rfl ⟨rfl, F.out.2⟩
  have hex : ∃ i, i < zs.length ∧ ¬ (0 ≤ zs[i]?.getD 0 ∧ zs[i]?.getD 0 ≤ 1000) := by
    apply Classical.byContradiction
    intro hx
    apply he
    unfold M.newC
    rw [if_neg (by omega), if_neg (by omega), if_neg hx]
  have e : M.newC zs = 1 := by unfold M.newC; rw [if_neg (by omega), if_neg (by omega), if_pos hex]
  rw [e]
  have hz : ((n : Int) == 0) = false := by simp; omega
  have hz' : (n == 0) = false := by simp; omega
  have h5' : (n : Int) ≤ 5 := by omega
  have HX : Hid (∃ i, i < zs.length ∧ ¬ (0 ≤ zs[i]?.getD 0 ∧ zs[i]?.getD 0 ≤ 1000)) := hex
  have HL : Hid (zs.length = n) := hl
  clear e he h0 h5 hex hl
  go_enter Tryd.func4, Tryd.ntmps4
  go_wp2_with fail
  go_loopw [4] (fun u wr => ∃ k : Nat, u = .int .i64 k ∧ k ≤ n ∧ Hid (∀ j, j < k → 0 ≤ M.mof zs j ∧ M.mof zs j ≤ 1000) ∧ W = wr) (fun u _ => n - (intOf u).toNat)
  case atStart => exact ⟨0, rfl, Nat.zero_le _, show ∀ j, j < 0 → _ from fun j hj => absurd hj (Nat.not_lt_zero _), rfl⟩
  case round =>
    clear hW
    obtain ⟨k, rfl, hk, hJ, rfl⟩ := hrel
    by_cases hlt : k < n
    · obtain ⟨z, hzz⟩ : ∃ z, zs[k]?.getD 0 = z := ⟨_, rfl⟩
      obtain ⟨b0, off, rfl, hb, hcz⟩ := HC.out k (by have := HL.out; omega)
      rw [hzz] at hcz
      have hki : (k : Int) < n := by omega
      by_cases hs : 0 ≤ z ∧ z ≤ 1000
      · have HJ : Hid (∀ j, j < k + 1 → 0 ≤ M.mof zs j ∧ M.mof zs j ≤ 1000) := fun j hj => by
          by_cases x : j = k
          · subst x; unfold M.mof; rw [hzz]; exact hs
          · exact hJ.out j (by omega)
        have HI : inB z 0 1000 = true := inB_true hs.1 hs.2
        clear hJ hs hzz
        go_wp2_with fail
        refine (in_is z 0 1000 true _ HI).mono ?_
        rintro e w' ⟨rfl, rfl⟩
        clear HI
        go_wp2_with fail
        go_roundw
        case rel => exact ⟨k + 1, by go_num, by omega, HJ, by trivial⟩
        case measure => simp [intOf]; omega
      · have HI : inB z 0 1000 = false := inB_false hs
        clear hJ hs hzz
        go_wp2_with fail
        refine (in_is z 0 1000 false _ HI).mono ?_
        rintro e w' ⟨rfl, rfl⟩
        clear HI
        go_wp2_with fail
        exact bodyPost_ret (v := .tuple #[rbV 0 false v0, .int .i64 (1 : Nat)]) (results_bank rfl _ _ w.heap.size 0 false v0 1 rfl rfl F.out.1) rfl ⟨rfl, F.out.2⟩
    · obtain ⟨i, hi, hx⟩ := HX.out
      exact absurd (hJ.out i (by have := HL.out; omega)) hx
/-- Three new lists, and the bank's own block: nothing is noted yet. -/
structure NB (W : World) (n N2 : Nat) (pm : Option Addr) (cm : Nat) (B : Nat) (nv : Value) (bw bh bc : Nat) (w : World) : Prop where
  hw : w.rowIs bw 22 N2 (fun _ => .slice none 0 0)
  hh : w.rowIs bh 4 N2 (fun _ => .bool false)
  hc : w.rowIs bc 3 N2 (fun _ => .int .i64 0)
  hb : w.rowIs B 27 6 (fun i => if i = 0 then .slice pm n cm else if i = 1 then nv else if i = 2 then .slice (some ⟨bw, 0, none⟩) N2 N2 else if i = 3 then .slice (some ⟨bh, 0, none⟩) N2 N2 else if i = 4 then .slice (some ⟨bc, 0, none⟩) N2 N2 else .bool false)
  bl : Below W.heap.size W w
  gw : W.heap.size ≤ bw
  gh : W.heap.size ≤ bh
  gc : W.heap.size ≤ bc
  gb : W.heap.size ≤ B
theorem made_row (w : World) (z : Value) (N2 : Nat) (t : TypeId) {A : Nat} (h : w.heap.size = A) : (w.alloc (.cells (madeCells #[z] N2) t)).rowIs A t N2 (fun _ => z) := h ▸ World.rowIs_made w z N2 t
theorem nb_row (w : World) (pm : Option Addr) (cm n N2 bw bh bc : Nat) {B : Nat} (h : w.heap.size = B) : (w.alloc (.cells #[.slice pm n cm, .slice none 0 0, .slice (some ⟨bw, 0, none⟩) N2 N2, .slice (some ⟨bh, 0, none⟩) N2 N2, .slice (some ⟨bc, 0, none⟩) N2 N2, .bool false] 27)).rowIs B 27 6 (fun i => if i = 0 then .slice pm n cm else if i = 1 then .slice none 0 0 else if i = 2 then .slice (some ⟨bw, 0, none⟩) N2 N2 else if i = 3 then .slice (some ⟨bh, 0, none⟩) N2 N2 else if i = 4 then .slice (some ⟨bc, 0, none⟩) N2 N2 else .bool false) := by
  subst h
  refine World.rowIs_alloc w #[.slice pm n cm, .slice none 0 0, .slice (some ⟨bw, 0, none⟩) N2 N2, .slice (some ⟨bh, 0, none⟩) N2 N2, .slice (some ⟨bc, 0, none⟩) N2 N2, .bool false] _ _ (fun i hi => ?_)
  have hi' : i < 6 := hi
  rcases i with _ | _ | _ | _ | _ | _ | i
  · rfl
  · rfl
  · rfl
  · rfl
  · rfl
  · rfl
  · omega
/-- one more that noted nothing -/
theorem NB.step {W w w5 : World} {n N2 : Nat} {pm : Option Addr} {cm B : Nat} {nv nv' : Value} {bw bh bc : Nat} {o : Obj} {k m : Nat} {xs ys : List Value} (h : NB W n N2 pm cm B nv bw bh bc w) (ho : w.ownsRow W.heap.size 3 1 nv k xs) (ha : nv.ownBlock ≠ some bc)
    (ho5 : w5.ownsRow W.heap.size 3 1 nv' m ys) (hg : (w.alloc o).grownBy w5 nv.ownBlock) (hat : ∀ g, nv'.ownBlock = some g → nv.ownBlock = some g ∨ g = w.heap.size + 1) :
    NB W n N2 pm cm B nv' bw bh bc (w5.setCell ⟨B, 1, none⟩ nv') ∧ (w5.setCell ⟨B, 1, none⟩ nv').ownsRow W.heap.size 3 1 nv' m ys ∧ nv'.ownBlock ≠ some bc ∧ w5.rowIs B 27 6 (fun i => if i = 0 then .slice pm n cm else if i = 1 then nv else if i = 2 then .slice (some ⟨bw, 0, none⟩) N2 N2 else if i = 3 then .slice (some ⟨bh, 0, none⟩) N2 N2 else if i = 4 then .slice (some ⟨bc, 0, none⟩) N2 N2 else .bool false) := by
  have keep : ∀ x, x < w.heap.size → nv.ownBlock ≠ some x → w5.heap[x]? = w.heap[x]? := fun x hx e => (hg.block x (Nat.lt_of_lt_of_le hx (by simp)) (Ne.symm e)).trans (Below.heap_alloc w _ x hx)
  have rw5 := h.hw.of_block (keep _ h.hw.lt (rowIs_owns h.hw ho (by decide)))
  have rh5 := h.hh.of_block (keep _ h.hh.lt (rowIs_owns h.hh ho (by decide)))
  have rc5 := h.hc.of_block (keep _ h.hc.lt ha)
  have rb5 := h.hb.of_block (keep _ h.hb.lt (rowIs_owns h.hb ho (by decide)))
  have nB : nv'.ownBlock ≠ some B := rowIs_owns rb5 ho5 (by decide)
  refine ⟨⟨rw5.setOther (a := ⟨B, 1, none⟩) (rowIs_ne rw5 rb5 (by decide)) _, rh5.setOther (a := ⟨B, 1, none⟩) (rowIs_ne rh5 rb5 (by decide)) _, rc5.setOther (a := ⟨B, 1, none⟩) (rowIs_ne rc5 rb5 (by decide)) _, (rb5.set 1 nv').congr (fun i hi => ?_), ?_, h.gw, h.gh, h.gc, h.gb⟩, owns_blk ho5 (fun g e => Below.heap_setCell _ _ _ _ (fun x => nB (e.trans (congrArg some x)))), fun e => ?_, rb5⟩
  · have : i = 0 ∨ i = 1 ∨ i = 2 ∨ i = 3 ∨ i = 4 ∨ i = 5 := by omega
    rcases this with rfl | rfl | rfl | rfl | rfl | rfl <;> simp
  · exact ((h.bl.alloc h.bl.size _).grown hg (Nat.le_trans h.bl.size (by simp)) (fun g e => (ho.lt g e).1)).setCell (p := ⟨B, 1, none⟩) h.gb _
  · rcases hat _ e with x | x
    · exact ha x
    · have := h.hc.lt; omega
theorem NB.end_ {W w : World} {n N2 : Nat} {p : Option Addr} {cap B : Nat} {pn : Option Addr} {cn bw bh bc : Nat} {G : Nat → Prop} {zs : List Int} (h : NB W n N2 p cap B (.slice pn n cn) bw bh bc w) (hN : n * n = N2) (hN5 : N2 ≤ 25) (ho : w.ownsRow W.heap.size 3 1 (.slice pn n cn) n (zc (List.replicate n (-1)))) (hF : FI G n (fun j => .int .i64 (M.mof zs j)) p w) (hG : ∀ k, W.heap.size ≤ k → G k) :
    RB G n (M.newB (M.mof zs)) ⟨p, cap, pn, cn, some ⟨bw, 0, none⟩, N2, some ⟨bh, 0, none⟩, N2, some ⟨bc, 0, none⟩, N2, fun _ => .slice none 0 0⟩ w := by
  have e : zc (List.replicate n (-1)) = fcl (fun _ => .int .i64 (-1)) n := by
    apply List.ext_getElem?
    intro j
    by_cases hj : j < n
    · rw [fcl_at _ hj, zc_at (by simp; exact hj)]; simp [hj]
    · rw [List.getElem?_eq_none (by rw [zc_length]; simp; omega), List.getElem?_eq_none (by rw [fcl_length]; omega)]
  rw [e] at ho
  have mk : ∀ {b : Nat} {t : TypeId} {f : Nat → Value}, w.rowIs b t N2 f → W.heap.size ≤ b → FI G (n * n) f (some ⟨b, 0, none⟩) w := fun {b t f} hr hb j hj => ⟨b, 0, rfl, hr.lt, hG b hb, by rw [Nat.zero_add]; exact hr.cell (by omega)⟩
  exact ⟨hF, (owns_FI ho).mono (fun k _ hk => hG k hk), mk h.hw h.gw, fun _ _ _ _ => ⟨none, 0, rfl, fun _ => ⟨rfl, rfl⟩, Nat.zero_le _, Nat.zero_le _, fun j hj => absurd hj (Nat.not_lt_zero _)⟩, mk h.hh h.gh, mk h.hc h.gc, ⟨Nat.le_of_eq hN, by unfold maxLen; show N2 ≤ _; omega⟩, ⟨Nat.le_of_eq hN, by unfold maxLen; show N2 ≤ _; omega⟩⟩
theorem nb_mk {W w : World} {n N2 : Nat} {pm : Option Addr} {cm B : Nat} {nv : Value} {bw bh bc : Nat}
    (hb : w.rowIs B 27 6 (fun i => if i = 0 then .slice pm n cm else if i = 1 then nv else if i = 2 then .slice (some ⟨bw, 0, none⟩) N2 N2 else if i = 3 then .slice (some ⟨bh, 0, none⟩) N2 N2 else if i = 4 then .slice (some ⟨bc, 0, none⟩) N2 N2 else .bool false))
    (hw : w.rowIs bw 22 N2 (fun _ => .slice none 0 0)) (hh : w.rowIs bh 4 N2 (fun _ => .bool false)) (hc : w.rowIs bc 3 N2 (fun _ => .int .i64 0)) (bl : Below W.heap.size W w) (g : W.heap.size ≤ bw ∧ W.heap.size ≤ bh ∧ W.heap.size ≤ bc ∧ W.heap.size ≤ B) :
    ∃ B' bw bh bc, Value.pointer (some ⟨B, 0, none⟩) = .pointer (some ⟨B', 0, none⟩) ∧ NB W n N2 pm cm B' nv bw bh bc w := ⟨B, bw, bh, bc, rfl, hw, hh, hc, hb, bl, g.1, g.2.1, g.2.2.1, g.2.2.2⟩
end Go.Proofs.YtplplgpfglaajaaDoor
