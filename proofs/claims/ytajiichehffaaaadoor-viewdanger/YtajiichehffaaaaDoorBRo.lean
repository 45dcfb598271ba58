/- The closure of the rows of an order (package set, Reached): at rows that are all sets of as many things as there are rows, at most twelve, it hands back a new list, each row with all that stands behind, over others too; what lay in memory lies as it lay. The library's table lies where its variable is. Package order's Behind, at whatever numbers: what is wrong is told as the document has it (more than twelve rows, a row that is no set, a thing behind itself), else a new list of all that stand behind; what lay in memory lies as it lay. The library's table lies where its variable is. -/
import Derived.Test.YtajiichehffaaaaDoorIter
import Derived.Test.YtajiichehffaaaaDoorKit
import Derived.Laws.CopyOwn
import Derived.Control
import Derived.BigRegion
namespace Go.Proofs.YtajiichehffaaaaDoor
open Go.RowKit Go.Shelf
attribute [local go_sem] Oper.semAt_some
theorem Tryd.info3 : (Tryd.prog.info? 3).map (fun i => (i.zero, i.size, i.bytes)) = some (some (.int .i64 0), 1, 8) := by kernel_rfl
theorem Tryd.info3s : (Tryd.prog.info? 3).map (·.size) = some 1 := by kernel_rfl

set_option maxRecDepth 100000 in
set_option maxHeartbeats 2000000 in
theorem reached_any (m : List Nat) (hm : M.Ok m) (hn : m.length ≤ 12) (p : Option Addr) (cap : Nat) (w : World) (hT : Tab w) (h2 : 2 < w.heap.size)
    (hc : ∀ j, j < m.length → ∃ b off, p = some ⟨b, off, none⟩ ∧ b < w.heap.size ∧ w.cell? ⟨b, off + j, none⟩ = some (.int .i64 (M.row m j : Nat))) :
    Calls Tryd.prog 56 #[.slice p m.length cap] w fun e w' => ∃ A, e = .returned (.slice (some ⟨A, 0, none⟩) m.length m.length) ∧ RowAt 3 w' A (M.clo m) ∧ w.heap.size ≤ A ∧ Below w.heap.size w w' := by
  have hmk0 := run_make_row' (P := Tryd.prog) 32 3 (.int .i64 0) 8 Tryd.underlying32 Tryd.info3 rfl .i64 .i64 m.length (by omega) (by omega)
  obtain ⟨W1, hcp, hg1, hgr⟩ := run_copy_whole (P := Tryd.prog) ((w.alloc (.cells (madeCells #[.int .i64 0] m.length) 3)).alloc (.cells #[.slice (some ⟨w.heap.size, 0, none⟩) m.length m.length] 32)) 32 32 3 3 Tryd.underlying32 Tryd.info3s m.length p cap w.heap.size (madeCells #[.int .i64 0] m.length) 3 (by
      rw [Below.heap_alloc _ _ _ (by simp)]; exact World.alloc_heap_new w _) (size_madeCells _ _) (m.map fun x => Value.int .i64 ((x : Nat) : Int)) (by simp) (by
      intro h0
      obtain ⟨b, off, rfl, hb, -⟩ := hc 0 h0
      refine ⟨_, rfl, fun j v hj => ?_⟩
      have hjl : j < m.length := by
        have := (List.getElem?_eq_some_iff.1 hj).1; simpa using this
      obtain ⟨b', off', e, hb', hcell⟩ := hc j hjl
      cases e
      have hv : v = .int .i64 (M.row m j : Nat) := by
        rw [List.getElem?_map, List.getElem?_eq_getElem hjl] at hj
        simp [M.row, hjl] at hj ⊢
        exact hj.symm
      subst hv
      rw [addr_add, World.cell?_alloc_lt _ _ _ (by simp; omega), World.cell?_alloc_lt _ _ _ (by simpa using hb)]
      exact hcell) (by simp [Value.oneCell'])
  have hrow0 : RowAt 3 W1 w.heap.size m := hg1
  have hbox0 : Boxed W1 (w.heap.size + 1) 32 (.slice (some ⟨w.heap.size, 0, none⟩) m.length m.length) := by
    have h := Boxed.new (w.alloc (.cells (madeCells #[.int .i64 0] m.length) 3)) 32 (.slice (some ⟨w.heap.size, 0, none⟩) m.length m.length)
    rw [World.size_alloc] at h
    exact h.kept hgr (by simp)
  have hB1 : Below w.heap.size w W1 := (((Below.refl _ w).alloc (Nat.le_refl _) _).alloc (by simp) _).grown hgr (by simp; omega) (fun k e => by cases e; exact Nat.le_refl _)
  clear hg1 hgr
  refine callsIn_wide.1 (callsIn_of_wp_marks (n := 3) Tryd.func56 rfl trivial ?_ rfl)
  simp only [Tryd.ntmps56, List.size_toArray, List.length_cons, List.length_nil, Nat.reduceAdd, Nat.reduceSub, Array.replicate_succ, Array.replicate_zero, List.push_toArray, List.append_toArray, List.nil_append, List.cons_append]
  refine wpIn_wide.2 ?_
  go_wp2_with fail
  refine wp_loop (fun a W => ∃ (k : Nat) (ds : List Deferred) (u4 u5 u15 u16 u17 u18 u19 u20 u21 u22 u23 u24 u25 u26 u27 u28 u29 u30 u31 u32 u33 u34 u35 u36 u37 u38 : Value), k ≤ m.length ∧ RowAt 3 W w.heap.size (M.rounds m k) ∧ Boxed W (w.heap.size + 1) 32 (.slice (some ⟨w.heap.size, 0, none⟩) m.length m.length) ∧ Below w.heap.size w W ∧ Marks w.heap.size W W.heap.size ds ∧
      a = { tmps := #[.slice p m.length cap, undef, .slice none 0 0, .pointer (some ⟨w.heap.size + 1, 0, none⟩), u4, u5, .slice p m.length cap, .int .i64 m.length, .slice (some ⟨w.heap.size, 0, none⟩) m.length m.length, .slice (some ⟨w.heap.size, 0, none⟩) m.length m.length, .slice p m.length cap, .int .i64 m.length, .slice p m.length cap, .int .i64 m.length, .int .i64 (k : Nat), u15, u16, u17, u18, u19, u20, u21, u22, u23, u24, u25, u26, u27, u28, u29, u30, u31, u32, u33, u34, u35, u36, u37, u38, undef], defers := ds }) (fun a _ => m.length - (intOf (a.tmps.getD 14 undef)).toNat) ?start ?round
  case start => exact ⟨0, [], _, _, _, _, _, _, _, _, _, _, _, _, _, _, _, _, _, _, _, _, _, _, _, _, _, _, Nat.zero_le _, hrow0, hbox0, hB1, trivial, rfl⟩
  case round =>
    rintro a W ⟨k, ds, u4, u5, u15, u16, u17, u18, u19, u20, u21, u22, u23, u24, u25, u26, u27, u28, u29, u30, u31, u32, u33, u34, u35, u36, u37, u38, hk, hrow, hbox, hB, hmk, rfl⟩
    clear hcp hrow0 hbox0 hB1 W1 hmk0 hc
    dsimp only
    by_cases hlt : k < m.length
    · have hbc := hbox.cell
      go_wp2_with fail
      refine wp_loop (fun a W => ∃ (i : Nat) (ds : List Deferred) (u4 u5 u19 u20 u21 u22 u23 u24 u25 u26 u27 u28 u29 u30 u31 u32 u33 u34 u35 u36 u37 : Value), i ≤ m.length ∧ RowAt 3 W w.heap.size (M.round (M.rounds m k) i) ∧ Boxed W (w.heap.size + 1) 32 (.slice (some ⟨w.heap.size, 0, none⟩) m.length m.length) ∧ Below w.heap.size w W ∧ Marks w.heap.size W W.heap.size ds ∧
          a = { tmps := #[.slice p m.length cap, undef, .slice none 0 0, .pointer (some ⟨w.heap.size + 1, 0, none⟩), u4, u5, .slice p m.length cap, .int .i64 m.length, .slice (some ⟨w.heap.size, 0, none⟩) m.length m.length, .slice (some ⟨w.heap.size, 0, none⟩) m.length m.length, .slice p m.length cap, .int .i64 m.length, .slice p m.length cap, .int .i64 m.length, .int .i64 (k : Nat), .bool true, .slice (some ⟨w.heap.size, 0, none⟩) m.length m.length, .int .i64 m.length, .int .i64 (i : Nat), u19, u20, u21, u22, u23, u24, u25, u26, u27, u28, u29, u30, u31, u32, u33, u34, u35, u36, u37, u38, undef], defers := ds }) (fun a _ => m.length - (intOf (a.tmps.getD 18 undef)).toNat) ?start2 ?round2
      case start2 => exact ⟨0, ds, _, _, _, _, _, _, _, _, _, _, _, _, _, _, _, _, _, _, _, _, _, Nat.zero_le _, hrow, hbox, hB, hmk, rfl⟩
      case round2 =>
        clear hrow hbox hB hmk hbc W
        rintro a W ⟨i, ds, u4, u5, u19, u20, u21, u22, u23, u24, u25, u26, u27, u28, u29, u30, u31, u32, u33, u34, u35, u36, u37, hi, hrow, hbox, hB, hmk, rfl⟩
        dsimp only
        have hbc := hbox.cell
        by_cases hil : i < m.length
        · have hlen : (M.round (M.rounds m k) i).length = m.length := by rw [M.round_length, M.rounds_length]
          have hok : M.Ok (M.round (M.rounds m k) i) := M.round_ok (M.rounds_ok hm k) i
          have hci := hrow.cell (k := i) (by rw [hlen]; exact hil)
          have hWs : w.heap.size + 1 < W.heap.size := hbox.lt
          have hci' : (W.alloc (.cells #[.int .i64 (i : Nat)] 3)).cell? ⟨w.heap.size, i, none⟩ = some (.int .i64 (M.row (M.round (M.rounds m k) i) i : Nat)) := by
            rw [World.cell?_alloc_lt _ _ _ (by simp; omega)]; exact hci
          have hbc' : (W.alloc (.cells #[.int .i64 (i : Nat)] 3)).cell? ⟨w.heap.size + 1, 0, none⟩ = some (.slice (some ⟨w.heap.size, 0, none⟩) m.length m.length) := by
            rw [World.cell?_alloc_lt _ _ _ (by simpa using hWs)]; exact hbc
          go_wp2_with (go_at_call 27; refine (things_any _ _).mono ?_; rintro e w' ⟨rfl, rfl⟩)
          have hrow2 : RowAt 3 ((W.alloc (.cells #[.int .i64 (i : Nat)] 3)).alloc (.cells #[.int .i64 (M.row (M.round (M.rounds m k) i) i : Nat)] 3)) w.heap.size (M.round (M.rounds m k) i) := (hrow.alloc _).alloc _
          have hbox2 : Boxed ((W.alloc (.cells #[.int .i64 (i : Nat)] 3)).alloc (.cells #[.int .i64 (M.row (M.round (M.rounds m k) i) i : Nat)] 3)) (w.heap.size + 1) 32 (.slice (some ⟨w.heap.size, 0, none⟩) m.length m.length) := (hbox.alloc _).alloc _
          have hbi2 : Boxed ((W.alloc (.cells #[.int .i64 (i : Nat)] 3)).alloc (.cells #[.int .i64 (M.row (M.round (M.rounds m k) i) i : Nat)] 3)) W.heap.size 3 (.int .i64 (i : Nat)) := (Boxed.new W 3 (.int .i64 (i : Nat))).alloc _
          have hbs2 : Boxed ((W.alloc (.cells #[.int .i64 (i : Nat)] 3)).alloc (.cells #[.int .i64 (M.row (M.round (M.rounds m k) i) i : Nat)] 3)) (W.heap.size + 1) 3 (.int .i64 (M.row (M.round (M.rounds m k) i) i : Nat)) := by
            have h := Boxed.new (W.alloc (.cells #[.int .i64 (i : Nat)] 3)) 3 (.int .i64 (M.row (M.round (M.rounds m k) i) i : Nat))
            rw [World.size_alloc] at h; exact h
          have hB2 : Below w.heap.size w ((W.alloc (.cells #[.int .i64 (i : Nat)] 3)).alloc (.cells #[.int .i64 (M.row (M.round (M.rounds m k) i) i : Nat)] 3)) := (hB.alloc (by omega) _).alloc (by simp; omega) _
          have hmk2 : Marks w.heap.size ((W.alloc (.cells #[.int .i64 (i : Nat)] 3)).alloc (.cells #[.int .i64 (M.row (M.round (M.rounds m k) i) i : Nat)] 3)) (W.heap.size + 2) ds := ((hmk.others (KeepsOthers.alloc _ _)).others (KeepsOthers.alloc _ _)).hi (by omega)
          have hT2 := hT.below hB2 h2
          have hs2 : M.row (M.round (M.rounds m k) i) i < 2 ^ m.length := by rw [← hlen]; exact hok i
          clear hmk hB hci hci' hbc hbc'
          refine (wpIn_wide (n := 3)).1 ?_
          refine wpIn_rangeFunc_ownG rfl (by omega) (gf := 45) (lb := #[.pointer (some ⟨W.heap.size + 1, 0, none⟩)]) rfl trivial (enters_of Tryd.func45 (by kernel_rfl) rfl)
            (things_stops (3 - 1) (W.heap.size + 1) w.heap.size m.length (M.row (M.round (M.rounds m k) i) i) hn hs2 h2 _ (by simp) (by simp; omega) hT2 hbs2.cell) belowK_t (belowK_b (by simp; omega)) (Below.refl _ _) (fun _ => rfl)
            (fun (pre : List (Fin m.length)) W' => RowAt 3 W' w.heap.size (M.inner (M.round (M.rounds m k) i) i (pre.map fun x : Fin m.length => x.1)) ∧ Boxed W' (w.heap.size + 1) 32 (.slice (some ⟨w.heap.size, 0, none⟩) m.length m.length) ∧ Boxed W' W.heap.size 3 (.int .i64 (i : Nat)) ∧ Below w.heap.size w W' ∧ Marks w.heap.size W' (W.heap.size + 2) ds)
            (fun _ _ _ => False)
            (OwnFrom.and (Own.from (rowAt_own 3 w.heap.size fun pre : List (Fin m.length) => M.inner (M.round (M.rounds m k) i) i (pre.map fun x : Fin m.length => x.1)) _) (OwnFrom.and (Own.from (boxed_own _ _ fun _ => (.slice (some ⟨w.heap.size, 0, none⟩) m.length m.length)) _) (OwnFrom.and (Own.from (boxed_own _ _ fun _ => .int .i64 (i : Nat)) _) (OwnFrom.and (ownFrom_below (Nat.le_refl _) (by simp; omega)) (by simpa using marks_own w.heap.size (W.heap.size + 2) ds)))))
            (fun _ _ _ _ _ hs _ _ => hs)
            ⟨hrow2, hbox2, hbi2, hB2, hmk2⟩
            (fun x => { tmps := #[.slice p m.length cap, undef, .slice none 0 0, .pointer (some ⟨w.heap.size + 1, 0, none⟩), .pointer (some ⟨W.heap.size, 0, none⟩), .int .i64 (x.1 : Nat), .slice p m.length cap, .int .i64 m.length, .slice (some ⟨w.heap.size, 0, none⟩) m.length m.length, .slice (some ⟨w.heap.size, 0, none⟩) m.length m.length, .slice p m.length cap, .int .i64 m.length, .slice p m.length cap, .int .i64 m.length, .int .i64 (k : Nat), .bool true, .slice (some ⟨w.heap.size, 0, none⟩) m.length m.length, .int .i64 m.length, .int .i64 (i : Nat), .bool true, .int .i64 (i : Nat), .slice (some ⟨w.heap.size, 0, none⟩) m.length m.length, .int .i64 (i : Nat), .pointer (some ⟨w.heap.size, i, none⟩), .int .i64 (M.row (M.round (M.rounds m k) i) i : Nat), .func (.func 45) #[] #[.pointer (some ⟨W.heap.size + 1, 0, none⟩)], .int .i64 (x.1 : Nat), u27, u28, u29, u30, u31, u32, u33, u34, u35, u36, u37, u38, undef], defers := [] }) ?assign ?body ?done ?stop
          case assign =>
            intro l x W K hK
            gi_wp2
            exact hK
          case body =>
            rintro l pre x Wb ⟨hr, hbx, hbi, hB, hmk⟩ _
            obtain ⟨mm, hmm⟩ : ∃ mm, M.inner (M.round (M.rounds m k) i) i (pre.map fun x : Fin m.length => x.1) = mm := ⟨_, rfl⟩
            rw [hmm] at hr
            have hml : mm.length = m.length := by rw [← hmm, M.inner_length, hlen]
            have hc1 := hbx.cell
            have hc2 := hbi.cell
            have hx := x.2
            have hc3 := hr.cell (k := i) (by rw [hml]; exact hil)
            have hc4 := hr.cell (k := x.1) (by rw [hml]; exact hx)
            have hf3 := hr.frozen i
            gi_wp2
            refine wpIn_region_still_tail 9 (by kernel_rfl) (by kernel_rfl) (fun _ _ h => h) (by kernel_rfl) ?_
            simp only [List.take_succ_cons, List.take_zero, List.drop_succ_cons, List.drop_zero]
            repeat still_step
            refine wpStill_nil ?_
            go_wp2
            have hmo : M.Ok mm := by rw [← hmm]; exact M.inner_ok hok _ _
            have hor := i64_or_nat (M.row mm i) (M.row mm x.1) (by have h := hmo i; rw [hml] at h; have := pow_lt m.length hn; omega) (by have h := hmo x.1; rw [hml] at h; have := pow_lt m.length hn; omega)
            rw [hor]
            refine ⟨((KeepsOthers.setCell _ _ _).trans (KeepsOthers.drew _)).from _, ((Below.refl _ Wb).setCell (p := ⟨w.heap.size, i, none⟩) (Nat.le_refl _) _).drew, ?_, boxed_drew (boxed_otherAt hbx (a := ⟨w.heap.size, i, none⟩) (by simp) _), boxed_drew (boxed_otherAt hbi (a := ⟨w.heap.size, i, none⟩) (by simp; omega) _), (hB.setCell (p := ⟨w.heap.size, i, none⟩) (Nat.le_refl _) _).drew, (hmk.others (KeepsOthers.setCell _ _ _)).others (KeepsOthers.drew _)⟩
            rw [List.map_append, List.map_cons, List.map_nil, M.inner_snoc, hmm]
            exact (hr.set i _).drew
          case done =>
            rintro D ys Wd hD hys ⟨hr, hbx, hbi, hB, hmk⟩ hK
            have hD' : W.heap.size + 2 ≤ D := by simpa using hD
            have hDl := (Array.getElem?_eq_some_iff.1 hK).1
            rw [hys, ← M.round_succ] at hr
            go_wp2
            refine ⟨⟨i + 1, { target := .collected D, args := #[] } :: ds, _, _, _, _, _, _, _, _, _, _, _, _, _, _, _, _, _, _, _, _, _, by omega, hr, hbx, hB, ⟨D, by omega, hDl, rfl, hK, hmk.hi hD'⟩, rfl⟩, ?_⟩
            simp [intOf]; omega
          case stop =>
            rintro D c pre W _ _ h _
            exact h.elim
        · obtain rfl : i = m.length := by omega
          go_wp2_with fail
          refine ⟨⟨k + 1, ds, _, _, _, _, _, _, _, _, _, _, _, _, _, _, _, _, _, _, _, _, _, _, _, _, _, _, by omega, ?_, hbox, hB, hmk, rfl⟩, ?_⟩
          · simp only [M.rounds]; rw [M.rounds_length]; exact hrow
          · simp [intOf]; omega
    · have hbc := hbox.cell
      go_wp2_with fail
      obtain rfl : k = m.length := by omega
      refine leaves_marks ds W.heap.size W hB.size hmk (fun W' ht => ⟨_, results_tmp rfl _ _ _, _, rfl, ?_, Nat.le_refl _, hB.trans ht.below⟩)
      rw [← M.rounds_clo hm hn]
      exact ht.row hrow
end Go.Proofs.YtajiichehffaaaaDoor
namespace Go.Proofs.YtajiichehffaaaaDoor
open Go.RowKit

/-- Numbers as sets. -/
def nats (zs : List Int) : List Nat := zs.map Int.toNat
def allSets (zs : List Int) : Bool := zs.all fun z => setB z zs.length
def ringB (m : List Nat) : Bool := (List.range m.length).any fun i => (M.row (M.clo m) i).testBit i
/-- What is wrong with an order: the number of its error, 0 if nothing is. -/
def code (zs : List Int) : Nat := if 12 < zs.length then 4 else if allSets zs then (if ringB (nats zs) then 6 else 0) else 1
def errV (c : Nat) : Value := if c = 0 then .nilIface else .iface 59 (.int .i64 (c : Nat))

theorem nats_length (zs : List Int) : (nats zs).length = zs.length := by simp [nats]
theorem nats_row (zs : List Int) (k : Nat) : M.row (nats zs) k = (zs[k]?.getD 0).toNat := by
  unfold M.row nats
  rw [List.getElem?_map]
  cases zs[k]? <;> simp
theorem allSets_iff (zs : List Int) : allSets zs = true ↔ ∀ k, k < zs.length → setB (zs[k]?.getD 0) zs.length = true := by
  unfold allSets
  rw [List.all_eq_true]
  constructor
  · intro h k hk
    have := h zs[k] (List.getElem_mem hk)
    simpa [hk] using this
  · intro h z hz
    obtain ⟨k, hk, rfl⟩ := List.getElem_of_mem hz
    have := h k hk
    simpa [hk] using this
theorem set_nat {zs : List Int} (h : allSets zs = true) (k : Nat) : zs[k]?.getD 0 = ((M.row (nats zs) k : Nat) : Int) ∧ M.row (nats zs) k < 2 ^ zs.length := by
  rw [nats_row]
  by_cases hk : k < zs.length
  · have h1 := (allSets_iff zs).1 h k hk
    generalize zs[k]?.getD 0 = z at *
    unfold setB at h1
    have h2 := of_decide_eq_true h1
    have e : ((2 : Int) ^ zs.length) = ((2 ^ zs.length : Nat) : Int) := by simp
    rw [e] at h2
    omega
  · rw [List.getElem?_eq_none (by omega)]
    exact ⟨rfl, Nat.two_pow_pos _⟩
theorem nats_ok {zs : List Int} (h : allSets zs = true) : M.Ok (nats zs) := fun i => by rw [nats_length]; exact (set_nat h i).2
theorem ringB_iff {m : List Nat} : ringB m = true ↔ M.Ring m := by
  unfold ringB
  rw [List.any_eq_true]
  constructor
  · rintro ⟨i, _, h⟩
    exact ⟨i, (M.clo_bit m i i).1 h⟩
  · rintro ⟨i, h⟩
    exact ⟨i, List.mem_range.2 (M.clo_in h), (M.clo_bit m i i).2 h⟩
theorem code_full {zs : List Int} (h : 12 < zs.length) : code zs = 4 := by unfold code; rw [if_pos h]
theorem code_range {zs : List Int} (h : ¬ 12 < zs.length) (h1 : allSets zs = false) : code zs = 1 := by unfold code; rw [if_neg h, if_neg (by rw [h1]; simp)]
theorem code_clash {zs : List Int} (h : ¬ 12 < zs.length) (h1 : allSets zs = true) (h2 : ringB (nats zs) = true) : code zs = 6 := by unfold code; rw [if_neg h, if_pos h1, if_pos h2]
theorem code_ok {zs : List Int} (h : ¬ 12 < zs.length) (h1 : allSets zs = true) (h2 : ringB (nats zs) = false) : code zs = 0 := by unfold code; rw [if_neg h, if_pos h1, if_neg (by rw [h2]; simp)]
theorem code_zero {zs : List Int} (h : code zs = 0) : zs.length ≤ 12 ∧ allSets zs = true ∧ ¬ M.Ring (nats zs) := by
  unfold code at h
  by_cases h1 : 12 < zs.length
  · rw [if_pos h1] at h; omega
  · rw [if_neg h1] at h
    by_cases h2 : allSets zs = true
    · rw [if_pos h2] at h
      by_cases h3 : ringB (nats zs) = true
      · rw [if_pos h3] at h; omega
      · exact ⟨by omega, h2, fun hr => h3 (ringB_iff.2 hr)⟩
    · rw [if_neg h2] at h; omega

theorem reached_zs (zs : List Int) (hset : allSets zs = true) (hn : zs.length ≤ 12) (p : Option Addr) (cap : Nat) (w : World) (hT : Tab w) (h2 : 2 < w.heap.size)
    (hc : ∀ j, j < zs.length → ∃ b off, p = some ⟨b, off, none⟩ ∧ b < w.heap.size ∧ w.cell? ⟨b, off + j, none⟩ = some (.int .i64 (zs[j]?.getD 0))) :
    Calls Tryd.prog 56 #[.slice p zs.length cap] w fun e w' => ∃ A, e = .returned (.slice (some ⟨A, 0, none⟩) zs.length zs.length) ∧ RowAt 3 w' A (M.clo (nats zs)) ∧ w.heap.size ≤ A ∧ Below w.heap.size w w' := by
  have h := reached_any (nats zs) (nats_ok hset) (by rw [nats_length]; exact hn) p cap w hT h2 (fun j hj => by
    rw [nats_length] at hj
    obtain ⟨b, off, h1, h3, h4⟩ := hc j hj
    rw [(set_nat hset j).1] at h4
    exact ⟨b, off, h1, h3, h4⟩)
  rw [nats_length] at h
  exact h

/-- What Behind leaves. -/
def BehindPost (zs : List Int) (w : World) (e : Ending) (w' : World) : Prop :=
  ∃ r, e = .returned (.tuple #[r, errV (code zs)]) ∧ Below w.heap.size w w' ∧ (code zs ≠ 0 → r = .slice none 0 0) ∧
    (code zs = 0 → ∃ A, r = .slice (some ⟨A, 0, none⟩) zs.length zs.length ∧ RowAt 3 w' A (M.clo (nats zs)) ∧ w.heap.size ≤ A)
theorem behindPost_err {zs : List Int} {w w' : World} {c : Nat} (hc : code zs = c) (h0 : c ≠ 0) (hb : Below w.heap.size w w') : BehindPost zs w (.returned (.tuple #[.slice none 0 0, .iface 59 (.int .i64 (c : Nat))])) w' :=
  ⟨_, by rw [hc]; simp [errV, h0], hb, fun _ => rfl, fun h => absurd (hc.symm.trans h) h0⟩
theorem behindPost_ok {zs : List Int} {w w' : World} {A : Nat} (hc : code zs = 0) (hb : Below w.heap.size w w') (hr : RowAt 3 w' A (M.clo (nats zs))) (hA : w.heap.size ≤ A) : BehindPost zs w (.returned (.tuple #[.slice (some ⟨A, 0, none⟩) zs.length zs.length, .nilIface])) w' :=
  ⟨_, by rw [hc]; simp [errV], hb, fun h => absurd hc h, fun _ => ⟨A, rfl, hr, hA⟩⟩

set_option maxHeartbeats 1000000 in
theorem behind_any (zs : List Int) (p : Option Addr) (cap : Nat) (w : World) (hT : Tab w) (h2 : 2 < w.heap.size) (hmax : zs.length ≤ maxLen)
    (hc : ∀ j, j < zs.length → ∃ b off, p = some ⟨b, off, none⟩ ∧ b < w.heap.size ∧ w.cell? ⟨b, off + j, none⟩ = some (.int .i64 (zs[j]?.getD 0))) :
    Calls Tryd.prog 48 #[.slice p zs.length cap] w (BehindPost zs w) := by
  unfold maxLen at hmax
  by_cases h12 : 12 < zs.length
  · go_enter Tryd.func48, Tryd.ntmps48
    go_wp2
    go_ret2
    exact behindPost_err (c := 4) (code_full h12) (by omega) (Below.refl _ _)
  · have hn : zs.length ≤ 12 := by omega
    go_enter Tryd.func48, Tryd.ntmps48
    go_wp2
    go_loop [15] (fun i => ∃ k : Nat, k ≤ zs.length ∧ i = .int .i64 k ∧ ∀ j, j < k → setB (zs[j]?.getD 0) zs.length = true) (fun i => zs.length - (intOf i).toNat)
    case atStart => exact ⟨0, Nat.zero_le _, rfl, fun j hj => by omega⟩
    case round =>
      obtain ⟨k, hk, rfl, hsets⟩ := hrel
      by_cases hlt : k < zs.length
      · obtain ⟨b, off, rfl, hb, hcell⟩ := hc k hlt
        clear hc
        obtain ⟨z, hz⟩ : ∃ z, z = zs[k]?.getD 0 := ⟨_, rfl⟩
        rw [← hz] at hcell
        have HZ : Hid (z = zs[k]?.getD 0) := hz
        clear hz
        by_cases hs : setB z zs.length = true
        · go_wp2_with (go_at_call 55; refine (isSet_any _ _ _ hn).mono ?_; rintro e w' ⟨rfl, rfl⟩)
          go_round
          case rel => exact ⟨k + 1, by omega, by go_num, fun j hj => by by_cases e : j = k; (· subst e; rw [← HZ.out]; exact hs); (· exact hsets j (by omega))⟩
          case measure => simp [intOf]; omega
        · have hs' : setB z zs.length = false := by simpa using hs
          have hcode : Hid (code zs = 1) := code_range h12 (by
            cases h : allSets zs with
            | false => rfl
            | true => exact absurd (by rw [HZ.out]; exact (allSets_iff zs).1 h k hlt) hs)
          go_wp2_with (go_at_call 55; refine (isSet_any _ _ _ hn).mono ?_; rintro e w' ⟨rfl, rfl⟩)
          go_ret2
          exact behindPost_err (c := 1) hcode.out (by omega) (Below.refl _ _)
      · obtain rfl : k = zs.length := by omega
        have hall : allSets zs = true := (allSets_iff zs).2 hsets
        go_wp2_with (go_at_call 56; refine (reached_zs zs hall hn p cap _ hT h2 hc).mono ?_; rintro e w' ⟨A, rfl, hrow, hA, hB⟩)
        have hlen : (M.clo (nats zs)).length = zs.length := by rw [M.clo_length, nats_length]
        have hok := M.clo_ok (nats_ok hall)
        have hp := pow_lt zs.length hn
        go_loop [30] (fun i => ∃ k : Nat, k ≤ zs.length ∧ i = .int .i64 k ∧ ∀ j, j < k → (M.row (M.clo (nats zs)) j).testBit j = false) (fun i => zs.length - (intOf i).toNat)
        case atStart => exact ⟨0, Nat.zero_le _, rfl, fun j hj => by omega⟩
        case round =>
          obtain ⟨k, hk, rfl, hno⟩ := hrel
          by_cases hlt : k < zs.length
          · have hcell := hrow.cell (k := k) (by rw [hlen]; exact hlt)
            have hrk : M.row (M.clo (nats zs)) k < 4096 := by have := hok k; rw [hlen] at this; omega
            cases hbit : (M.row (M.clo (nats zs)) k).testBit k with
            | false =>
              go_wp2_with (go_at_call 41; refine (has_any _ _ _ hrk (by omega)).mono ?_; rintro e w' ⟨rfl, rfl⟩)
              go_round
              case rel => exact ⟨k + 1, by omega, by go_num, fun j hj => by by_cases e : j = k; (· subst e; exact hbit); (· exact hno j (by omega))⟩
              case measure => simp [intOf]; omega
            | true =>
              have hcode : Hid (code zs = 6) := code_clash h12 hall (ringB_iff.2 ⟨k, (M.clo_bit _ k k).1 hbit⟩)
              go_wp2_with (go_at_call 41; refine (has_any _ _ _ hrk (by omega)).mono ?_; rintro e w' ⟨rfl, rfl⟩)
              go_ret2
              exact behindPost_err (c := 6) hcode.out (by omega) hB
          · obtain rfl : k = zs.length := by omega
            have hcode : Hid (code zs = 0) := code_ok h12 hall (by
              cases h : ringB (nats zs) with
              | false => rfl
              | true =>
                obtain ⟨i, hi⟩ := ringB_iff.1 h
                have h1 := (M.clo_bit _ i i).2 hi
                have h3 := M.clo_in hi
                rw [nats_length] at h3
                rw [hno i h3] at h1; cases h1)
            go_wp2
            go_ret2
            exact behindPost_ok hcode.out hB hrow hA
end Go.Proofs.YtajiichehffaaaaDoor
