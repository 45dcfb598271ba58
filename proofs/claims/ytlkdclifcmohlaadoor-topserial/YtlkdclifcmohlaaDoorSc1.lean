/- Package sched: what is wrong with a schedule (Check), whether two acts must stand as they do (mustStay), the last write of an item (lastWrite); what lay in memory lies as it lay. -/
import Derived.Test.YtlkdclifcmohlaaDoorSc0
import Derived.Test.YtlkdclifcmohlaaDoorKit
namespace Go.Proofs.YtlkdclifcmohlaaDoor
open Go.RowKit

theorem acAt_new (w : World) (o : Az) : AcAt o w.heap.size 0 (w.alloc (.cells #[.int .i64 o.tx, .int .i64 o.it, .int .i64 o.wt] 31)) :=
  ⟨by simp, by simp, by simp, by simp⟩
set_option maxRecDepth 100000 in
set_option maxHeartbeats 2000000 in
theorem acheck_ok (zs : List Az) (p : Option Addr) (n cap : Nat) (w : World) (hl : zs.length = n) (hmax : n ≤ maxLen) (hc : HasAc zs p w) :
    Calls Tryd.prog 30 #[.slice p n cap] w fun e w' => e = .returned (terr (acd zs)) ∧ Below w.heap.size w w' := by
  unfold maxLen at hmax
  by_cases h24 : 24 < n
  · rw [acd_full (by omega)]
    go_enter Tryd.func30, Tryd.ntmps30
    go_wp2_with fail
    go_ret
    exact ⟨rfl, Below.refl _ _⟩
  have hn24 : decide ((24 : Int) < (n : Int)) = false := decide_eq_false (by omega)
  have hl24 : ¬ 24 < zs.length := by omega
  go_enter Tryd.func30, Tryd.ntmps30
  go_wp2_with fail
  go_loopw [11] (fun v wr => ∃ i : Nat, v = .int .i64 i ∧ i ≤ n ∧ Hid (∀ j, j < i → aIn (aAt zs j) = true) ∧ Below w.heap.size w wr) (fun v _ => n - (intOf v).toNat)
  case atStart => exact ⟨0, rfl, Nat.zero_le _, fun j h => absurd h (Nat.not_lt_zero _), Below.refl _ _⟩
  case round =>
    obtain ⟨i, rfl, hi, hz, hB⟩ := hrel
    by_cases hlt : i < n
    · obtain ⟨b, off, rfl, hop⟩ := (hc.later hB) i (by omega)
      obtain ⟨o, ho⟩ : ∃ o, aAt zs i = o := ⟨_, rfl⟩
      rw [ho] at hop
      have HO : Hid (aAt zs i = o) := ho
      obtain ⟨hb, k0, k1, k2⟩ := hop
      have hin : (i : Int) < (n : Int) := by omega
      have HB2 : Below w.heap.size w (wr.alloc (.cells #[.int .i64 o.tx, .int .i64 o.it, .int .i64 o.wt] 31)) := bel_al hB _
      have HBAD : Hid (aIn o = false → acd zs = 1) := fun h => acd_bad (i := i) hl24 (by omega) (by rw [HO.out]; exact h)
      clear ho hc hB
      have e : aIn o = (thingZ o.tx 5 && thingZ o.it 4 && thingZ o.wt 2) := rfl
      cases h1 : thingZ o.tx 5 with
      | false =>
        have HC : Hid (acd zs = 1) := HBAD.out (by rw [e, h1]; rfl)
        clear e
        go_wp2_with (go_at_call 45; refine (isThing_z _ _ _).mono ?_; rintro e w' ⟨rfl, rfl⟩)
        go_ret
        exact ⟨by rw [HC.out]; rfl, HB2⟩
      | true =>
      cases h2 : thingZ o.it 4 with
      | false =>
        have HC : Hid (acd zs = 1) := HBAD.out (by rw [e, h1, h2]; rfl)
        clear e
        go_wp2_with (go_at_call 45; refine (isThing_z _ _ _).mono ?_; rintro e w' ⟨rfl, rfl⟩)
        go_ret
        exact ⟨by rw [HC.out]; rfl, HB2⟩
      | true =>
      cases h3 : thingZ o.wt 2 with
      | false =>
        have HC : Hid (acd zs = 1) := HBAD.out (by rw [e, h1, h2, h3]; rfl)
        clear e
        go_wp2_with (go_at_call 45; refine (isThing_z _ _ _).mono ?_; rintro e w' ⟨rfl, rfl⟩)
        go_ret
        exact ⟨by rw [HC.out]; rfl, HB2⟩
      | true =>
        have HN : Hid (∀ j, j < i + 1 → aIn (aAt zs j) = true) := fun j hj => by
          by_cases ej : j = i
          · subst ej; rw [HO.out, e, h1, h2, h3]; rfl
          · exact hz.out j (by omega)
        clear e
        go_wp2_with (go_at_call 45; refine (isThing_z _ _ _).mono ?_; rintro e w' ⟨rfl, rfl⟩)
        go_roundw
        case rel => exact ⟨i + 1, by go_num, by omega, HN, HB2⟩
        case measure => simp [intOf]; omega
    · obtain rfl : i = n := by omega
      have HC : Hid (acd zs = 0) := acd_good hl24 (fun j hj => hz.out j (by omega))
      go_wp2_with fail
      go_ret
      exact ⟨by rw [HC.out]; rfl, hB⟩
/-- must two stand as they do? -/
def mzB (a b : Az) : Bool := a.tx != b.tx && a.it == b.it && (a.wt == 1 || b.wt == 1)
set_option maxRecDepth 100000 in
set_option maxHeartbeats 1000000 in
theorem mustStay_ok (a b : Az) (w : World) :
    Calls Tryd.prog 31 #[acV a, acV b] w fun e w' => e = .returned (.bool (mzB a b)) ∧ Below w.heap.size w w' := by
  have hB : Below w.heap.size w ((w.alloc (.cells #[.int .i64 a.tx, .int .i64 a.it, .int .i64 a.wt] 31)).alloc (.cells #[.int .i64 b.tx, .int .i64 b.it, .int .i64 b.wt] 31)) := bel_al (bel_al (Below.refl _ _) _) _
  unfold mzB
  cases h1 : (a.tx != b.tx) with
  | false =>
    go_enter Tryd.func31, Tryd.ntmps31
    go_wp2_with fail
    go_ret
    exact ⟨rfl, hB⟩
  | true =>
  cases h2 : (a.it == b.it) with
  | false =>
    go_enter Tryd.func31, Tryd.ntmps31
    go_wp2_with fail
    go_ret
    exact ⟨rfl, hB⟩
  | true =>
  cases h3 : (a.wt == 1) with
  | true =>
    go_enter Tryd.func31, Tryd.ntmps31
    go_wp2_with fail
    go_ret
    exact ⟨rfl, hB⟩
  | false =>
    go_enter Tryd.func31, Tryd.ntmps31
    go_wp2_with fail
    go_ret
    exact ⟨rfl, hB⟩
theorem mzB_az (a b : M.SAct) : mzB (azN a) (azN b) = M.msB a b := by
  unfold mzB M.msB M.clash azN
  simp only
  rw [Bool.eq_iff_iff]
  simp only [Bool.and_eq_true, Bool.or_eq_true, bne_iff_ne, beq_iff_eq]
  omega
theorem AcAt.drew {o : Az} {b k : Nat} {w : World} (h : AcAt o b k w) : AcAt o b k w.drew := ⟨h.lt, h.c0, h.c1, h.c2⟩
theorem AcAt.al {o : Az} {b k : Nat} {w : World} (h : AcAt o b k w) (c : Obj) : AcAt o b k (w.alloc c) := h.later (bel_al (Below.refl _ _) _) h.lt
theorem AcAt.setO {o : Az} {b k g i : Nat} {w : World} (h : AcAt o b k w) (hb : g < b) (v : Value) : AcAt o b k (w.setCell ⟨g, i, none⟩ v) := by
  have e : ∀ m, (w.setCell ⟨g, i, none⟩ v).cell? ⟨b, m, none⟩ = w.cell? ⟨b, m, none⟩ := fun m => World.cell?_of_block (Below.heap_setCell w ⟨g, i, none⟩ v b (by simp; omega))
  exact ⟨by simp; exact h.lt, (e _).trans h.c0, (e _).trans h.c1, (e _).trans h.c2⟩
end Go.Proofs.YtlkdclifcmohlaaDoor
