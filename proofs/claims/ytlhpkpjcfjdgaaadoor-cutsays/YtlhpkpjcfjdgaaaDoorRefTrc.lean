/- The document's own answer on what is wrong with a trace (package whensteadref2, Trace); what lay in memory lies as it lay. -/
import Derived.Test.YtlhpkpjcfjdgaaaDoorBTr
namespace Go.Proofs.YtlhpkpjcfjdgaaaDoor
open Go.RowKit

theorem evr_cell0 {w : World} {N : Nat} (h : w.heap.size = N) (a f : Int) : (w.alloc (.cells #[.int .i64 a, .int .i64 f] 62)).cell? ⟨N, 0, none⟩ = some (.int .i64 a) := by subst h; simp
theorem evr_cell1 {w : World} {N : Nat} (h : w.heap.size = N) (a f : Int) : (w.alloc (.cells #[.int .i64 a, .int .i64 f] 62)).cell? ⟨N, 1, none⟩ = some (.int .i64 f) := by subst h; simp
def inB (z lo hi : Int) : Bool := decide (lo ≤ z ∧ z ≤ hi)
theorem inB_true {z lo hi : Int} (h0 : lo ≤ z) (h1 : z ≤ hi) : inB z lo hi = true := decide_eq_true ⟨h0, h1⟩
theorem inB_false {z lo hi : Int} (h : ¬ (lo ≤ z ∧ z ≤ hi)) : inB z lo hi = false := decide_eq_false h
set_option maxHeartbeats 400000 in
theorem in_any (z lo hi : Int) (w : World) :
    Calls Tryd.prog 38 #[.int .i64 z, .int .i64 lo, .int .i64 hi] w fun e w' => e = .returned (.bool (inB z lo hi)) ∧ w = w' := by
  by_cases hz : lo ≤ z
  · have hd : decide (lo ≤ z) = true := decide_eq_true hz
    go_enter Tryd.func38, Tryd.ntmps38
    go_wp2
    go_ret
    exact ⟨bool_ret (by unfold inB; rw [Bool.eq_iff_iff]; simp [hz]), rfl⟩
  · have hd : decide (lo ≤ z) = false := decide_eq_false hz
    go_enter Tryd.func38, Tryd.ntmps38
    go_wp2
    go_ret
    exact ⟨bool_ret (inB_false (fun h => by omega)).symm, rfl⟩
theorem in_is (z lo hi : Int) (t : Bool) (w : World) (h : inB z lo hi = t) :
    Calls Tryd.prog 38 #[.int .i64 z, .int .i64 lo, .int .i64 hi] w fun e w' => e = .returned (.bool t) ∧ w = w' := h ▸ in_any z lo hi w
theorem evZ_range {P : Int} {T : List (Int × Int)} {i n : Nat} {a f : Int} (hz : M.evTo P T i = 0) (hi : i < n) (ha : M.pr T i = a) (hf : M.fm T i = f) (h : inB a 0 (P - 1) = false ∨ inB f (-1) ((i : Int) - 1) = false) : M.evTo P T n = 1 := by
  have e : M.evC P T i = 1 := by
    unfold M.evC; rw [ha, hf, if_neg]
    intro hh
    rcases h with h | h
    · rw [inB_true hh.1 hh.2.1] at h; cases h
    · rw [inB_true hh.2.2.1 hh.2.2.2] at h; cases h
  rw [M.evTo_first hz hi (by rw [e]; omega), e]
set_option maxRecDepth 100000 in
set_option maxHeartbeats 2000000 in
theorem refTrace_ok (P : Int) (T : List (Int × Int)) (p : Option Addr) (n cap : Nat) (w : World) (hl : T.length = n) (hmax : n ≤ maxLen) (hc : HasE T p w) :
    Calls Tryd.prog 9 #[trV P p n cap] w fun e w' => e = .returned (.int .i64 (M.tcode P T : Nat)) ∧ Below w.heap.size w w' := by
  unfold maxLen at hmax
  have hB0 : Below w.heap.size w (w.alloc (.cells #[.int .i64 P, .slice p n cap] 24)) := (Below.refl _ _).alloc (Nat.le_refl _) _
  by_cases hP : 1 ≤ P ∧ P ≤ 5
  · have hin := fun W => in_is P 1 5 true W (inB_true hP.1 hP.2)
    by_cases h24 : 24 < n
    · have e : M.tcode P T = 4 := by unfold M.tcode; rw [if_pos hP, if_pos (by omega)]
      rw [e]
      go_enter Tryd.func9, Tryd.ntmps9
      go_wp2_with (go_at_call 38; refine (hin _).mono ?_; rintro e w' ⟨rfl, rfl⟩)
      go_ret
      exact ⟨rfl, hB0⟩
    · have e : M.tcode P T = M.evTo P T n := by unfold M.tcode; rw [if_pos hP, if_neg (by omega), hl]
      rw [e]
      clear e
      obtain ⟨wb, hwb⟩ : ∃ wb, w.alloc (.cells #[.int .i64 P, .slice p n cap] 24) = wb := ⟨_, rfl⟩
      have hbox : TBox wb w.heap.size P p n cap := hwb ▸ tbox_new w P p n cap
      rw [hwb] at hB0
      have hcb : HasE T p wb := hc.later hB0
      have hsz : Hid (w.heap.size < wb.heap.size) := hbox.lt
      have hk1 := hbox.procs
      have hk2 := hbox.events
      have hn4 : decide ((24 : Int) < (n : Int)) = false := decide_eq_false (by omega)
      clear hc
      go_enter Tryd.func9, Tryd.ntmps9
      go_wp2_with (go_at_call 38; refine (hin _).mono ?_; rintro e w' ⟨rfl, rfl⟩)
      go_loopw [3] (fun v wr => ∃ i : Nat, v = .int .i64 i ∧ i ≤ n ∧ Hid (M.evTo P T i = 0) ∧ Below wb.heap.size wb wr) (fun v _ => n - (intOf v).toNat)
      case atStart => exact ⟨0, rfl, Nat.zero_le _, show M.evTo P T 0 = 0 from rfl, Below.refl _ _⟩
      case round =>
        clear hk1 hk2 hwb hin
        obtain ⟨i, rfl, hi, hz, hB⟩ := hrel
        have hbr := hbox.later hB hsz.out
        have hk1 := hbr.procs
        have hk2 := hbr.events
        have hbl := hbr.lt
        by_cases hlt : i < n
        · obtain ⟨b, off, rfl, hb, hc1, hc2⟩ := (hcb.later hB) i (by omega)
          obtain ⟨a, ha⟩ : ∃ a, M.pr T i = a := ⟨_, rfl⟩
          obtain ⟨f, hf⟩ : ∃ f, M.fm T i = f := ⟨_, rfl⟩
          rw [ha] at hc1
          rw [hf] at hc2
          have HA : Hid (M.pr T i = a) := ha
          have HF : Hid (M.fm T i = f) := hf
          clear ha hf
          have hE0 := evr_cell0 (w := wr) rfl a f
          have hE1 := evr_cell1 (w := wr) rfl a f
          have hEl : wr.heap.size < (wr.alloc (.cells #[.int .i64 a, .int .i64 f] 62)).heap.size := by simp
          have hBa := bel_al hB (.cells #[.int .i64 a, .int .i64 f] 62)
          obtain ⟨wa, hwa⟩ : ∃ wa, wr.alloc (.cells #[.int .i64 a, .int .i64 f] 62) = wa := ⟨_, rfl⟩
          rw [hwa] at hE0 hE1 hEl hBa
          have hbx := hbox.later hBa hsz.out
          have hj1 := hbx.procs
          have hj2 := hbx.events
          obtain ⟨_, _, e0, hb', hd1, hd2⟩ := (hcb.later hBa) i (by omega)
          clear e0 hd1 hd2 hb'
          obtain ⟨t1, ht1⟩ : ∃ t, inB a 0 (P - 1) = t := ⟨_, rfl⟩
          obtain ⟨t2, ht2⟩ : ∃ t, inB f (-1) ((i : Int) - 1) = t := ⟨_, rfl⟩
          have hi1 := fun W => in_is a 0 (P - 1) t1 W ht1
          have hi2 := fun W => in_is f (-1) ((i : Int) - 1) t2 W ht2
          cases t1 with
          | false =>
            have HN : Hid (M.evTo P T n = 1) := evZ_range hz.out hlt HA.out HF.out (.inl ht1)
            clear ht1 ht2 hi2
            go_wp2_with (go_at_call 38; refine (hi1 _).mono ?_; rintro e w' ⟨rfl, rfl⟩)
            go_ret
            exact ⟨by rw [HN.out]; rfl, bel_on hB0 hBa⟩
          | true =>
            cases t2 with
            | false =>
              have HN : Hid (M.evTo P T n = 1) := evZ_range hz.out hlt HA.out HF.out (.inr ht2)
              clear ht1 ht2
              go_wp2_with fail
              refine (hi1 _).mono ?_
              rintro e w' ⟨rfl, rfl⟩
              go_wp2_with fail
              refine (hi2 _).mono ?_
              rintro e w' ⟨rfl, rfl⟩
              go_wp2_with fail
              go_ret
              exact ⟨by rw [HN.out]; rfl, bel_on hB0 hBa⟩
            | true =>
              have hr1 := of_decide_eq_true ht1
              have hr2 := of_decide_eq_true ht2
              clear ht1 ht2
              by_cases hf0 : 0 ≤ f
              · obtain ⟨j, rfl⟩ : ∃ j : Nat, f = j := ⟨f.toNat, by omega⟩
                obtain ⟨_, _, e0, hb', hd1, _⟩ := (hcb.later hBa) j (by omega)
                cases e0
                obtain ⟨c, hcd⟩ : ∃ c, M.pr T j = c := ⟨_, rfl⟩
                rw [hcd] at hd1
                have hjn : (j : Int) < (n : Int) := by omega
                have hjn' : j < n := by omega
                have hd0 : decide ((0 : Int) ≤ (j : Int)) = true := decide_eq_true (by omega)
                by_cases hcl : c = a
                · have HN : Hid (M.evTo P T n = 6) := ev_clash hz.out hlt HA.out ⟨hr1.1, by omega⟩ HF.out (by omega) hcd hcl
                  have hd : (c == a) = true := by rw [hcl]; exact beq_self_eq_true a
                  clear hcl hcd hf0 hr2
                  go_wp2_with fail
                  refine (hi1 _).mono ?_
                  rintro e w' ⟨rfl, rfl⟩
                  go_wp2_with fail
                  refine (hi2 _).mono ?_
                  rintro e w' ⟨rfl, rfl⟩
                  go_wp2_with fail
                  go_big_quiet (fail)
                  go_wp2_with fail
                  go_ret
                  exact ⟨by rw [HN.out]; rfl, bel_on hB0 (bel_drN hBa _)⟩
                · have HN : Hid (M.evTo P T (i + 1) = 0) := ev_next hz.out HA.out ⟨hr1.1, by omega⟩ HF.out (by omega) hcd hcl
                  have hd : (c == a) = false := by simpa using hcl
                  clear hcl hcd hf0 hr2
                  go_wp2_with fail
                  refine (hi1 _).mono ?_
                  rintro e w' ⟨rfl, rfl⟩
                  go_wp2_with fail
                  refine (hi2 _).mono ?_
                  rintro e w' ⟨rfl, rfl⟩
                  go_wp2_with fail
                  go_big_quiet (fail)
                  go_wp2_with fail
                  go_roundw
                  case rel => exact ⟨i + 1, by go_num, by omega, HN, bel_drN hBa _⟩
                  case measure => simp [intOf]; omega
              · have HN : Hid (M.evTo P T (i + 1) = 0) := ev_next0 hz.out HA.out ⟨hr1.1, by omega⟩ HF.out (by omega)
                have hd0 : decide ((0 : Int) ≤ f) = false := decide_eq_false hf0
                clear hf0 hr2
                go_wp2_with fail
                refine (hi1 _).mono ?_
                rintro e w' ⟨rfl, rfl⟩
                go_wp2_with fail
                refine (hi2 _).mono ?_
                rintro e w' ⟨rfl, rfl⟩
                go_wp2_with fail
                go_big_quiet (fail)
                go_wp2_with fail
                go_roundw
                case rel => exact ⟨i + 1, by go_num, by omega, HN, bel_drN hBa _⟩
                case measure => simp [intOf]; omega
        · obtain rfl : i = n := by omega
          go_wp2_with fail
          go_ret
          exact ⟨by rw [hz.out]; rfl, bel_on hB0 hB⟩
  · have e : M.tcode P T = 1 := by unfold M.tcode; rw [if_neg hP]
    have hin := fun W => in_is P 1 5 false W (inB_false hP)
    rw [e]
    go_enter Tryd.func9, Tryd.ntmps9
    go_wp2_with (go_at_call 38; refine (hin _).mono ?_; rintro e w' ⟨rfl, rfl⟩)
    go_ret
    exact ⟨rfl, hB0⟩
end Go.Proofs.YtlhpkpjcfjdgaaaDoor
