/- The places of a trace's events by their names, in a map that a call makes. No walk. -/
import Derived.Test.YtnofgmbpkgnciaaDoorNky
namespace Go.Proofs.YtnofgmbpkgnciaaDoor
open Go.RowKit Go.Maps

abbrev nmK (x y : Int) : Value := .agg #[.int .i64 x, .int .i64 y]
theorem map_under : Tryd.prog.underlying 69 = some (.map 71 3) := by kernel_rfl
theorem int_zero (w : World) : (zeroValue 3).run Tryd.prog w = .ok (.int .i64 0) w := by kernel_rfl
theorem run_make_places (n : Nat) (w : World) : (Instr.makeMap 69 (some (.int .i64 (n : Int)))).run Tryd.prog w = .ok (.map (some w.heap.size)) (w.alloc (.map #[] 0)) := by
  simp [Instr.makeMap, run_underlying map_under, asInt, asIntOf, Result.andThen, newObj]
  rfl
/-- Block B is a map that tells of each of the first k events of U, by its name, where it stands. -/
def Plc (U : List (Int × Int)) (k B : Nat) (w : World) : Prop := ∃ D : DataW Unit, w.ownsMap Tryd.prog 71 (plainElem Tryd.prog 3) B k D ∧
  (∀ j, j < k → ∀ kl, keyOf Tryd.prog 71 (nmK (M.pr U j) (M.nth U j)) = some kl → Maps.has D kl = true ∧ D.atKey kl (.lit (.int .i64 0)) = .lit (.int .i64 (j : Nat))) ∧
  (∀ kl, Maps.has D kl = true → ∃ j, j < k ∧ keyOf Tryd.prog 71 (nmK (M.pr U j) (M.nth U j)) = some kl)
theorem Plc.lt {U : List (Int × Int)} {k B : Nat} {w : World} (h : Plc U k B w) : B < w.heap.size := by
  obtain ⟨D, ho, _⟩ := h
  exact ho.lt
theorem Plc.kept {U : List (Int × Int)} {k B : Nat} {w w' : World} (h : Plc U k B w) {row : Option Nat} (hg : w.grownBy w' row) (hne : some B ≠ row) : Plc U k B w' := by
  obtain ⟨D, ho, r⟩ := h
  exact ⟨D, ho.kept hg hne, r⟩
theorem Plc.below {U : List (Int × Int)} {k B N : Nat} {w w' : World} (h : Plc U k B w) (hb : Below N w w') (hB : B < N) : Plc U k B w' := by
  obtain ⟨D, ⟨es, clock, h1, h2⟩, r⟩ := h
  exact ⟨D, ⟨es, clock, (hb.block B hB).trans h1, h2⟩, r⟩
theorem plc_made (U : List (Int × Int)) (w : World) : Plc U 0 w.heap.size (w.alloc (.map #[] 0)) :=
  ⟨.map [], World.ownsMap_made w _ _ _, fun j hj => by omega, fun kl h => by simp [Maps.has] at h⟩
theorem nm_wf {U : List (Int × Int)} {P : Int} (hok : M.TOk P U) {j : Nat} (hj : j < U.length) : (Lit.int .i64 (M.pr U j)).wf = true ∧ (Lit.int .i64 ((M.nth U j : Nat) : Int)).wf = true := by
  have h1 := hok.pr0 j hj
  have h2 := hok.prP j hj
  have h3 := hok.p5
  have h4 := M.nth_le U j
  have h5 := hok.len
  exact ⟨i64_wf (by omega) (by omega), i64_wf (by omega) (by omega)⟩
theorem plc_store {U : List (Int × Int)} {P : Int} (hok : M.TOk P U) {k B : Nat} {w : World} (h : Plc U k B w) (hk : k < U.length) :
    ∃ w', (Instr.mapUpdate 69 (.map (some B)) (nmK (M.pr U k) (M.nth U k)) (.int .i64 (k : Nat))).run Tryd.prog w = .ok () w' ∧ Plc U (k + 1) B w' ∧ w.grownBy w' (some B) := by
  obtain ⟨D, ho, h1, h2⟩ := h
  obtain ⟨kl, hkl⟩ := nm_key _ _ (nm_wf hok hk).1 (nm_wf hok hk).2
  have hlen := hok.len
  obtain ⟨w', hrun, ho', ht⟩ := ho.store nm_law map_under (by unfold maxLen; omega) hkl (plainElem_int (H := Unit) (P := Tryd.prog) (e := 3) Tryd.underlying3 (i64_wf (x := (k : Nat)) (by omega) (by omega)))
  have hkey := nm_law.key hkl
  refine ⟨w', hrun, ⟨_, ho', ?_, ?_⟩, ht.grown⟩
  · intro j hj kl' hkl'
    by_cases e : kl' = kl
    · subst e
      have e2 := nm_law.inj hkl' hkl
      have e3 : M.pr U j = M.pr U k ∧ M.nth U j = M.nth U k := by
        have e9 : M.pr U j = M.pr U k ∧ ((M.nth U j : Nat) : Int) = ((M.nth U k : Nat) : Int) := by simpa [nmK] using e2
        exact ⟨e9.1, by have := e9.2; omega⟩
      have e4 := M.nth_inj e3.1 e3.2
      subst e4
      exact ⟨has_put_same ho.isMap hkey _, atKey_put_same ho.isMap hkey _ _⟩
    · have hjk : j ≠ k := fun e2 => by subst e2; rw [hkl] at hkl'; exact e (Option.some.inj hkl').symm
      have := h1 j (by omega) kl' hkl'
      rw [has_put_other e, atKey_put_other e]
      exact this
  · intro kl' hh
    by_cases e : kl' = kl
    · subst e; exact ⟨k, by omega, hkl⟩
    · rw [has_put_other e] at hh
      obtain ⟨j, hj, e2⟩ := h2 kl' hh
      exact ⟨j, by omega, e2⟩
theorem plc_hit {U : List (Int × Int)} {P : Int} (hok : M.TOk P U) {k B j : Nat} {w : World} (h : Plc U k B w) (hj : j < k) (hk : k ≤ U.length) :
    (Instr.lookup 69 (.map (some B)) (nmK (M.pr U j) (M.nth U j)) true).run Tryd.prog w = .ok (.tuple #[.int .i64 (j : Nat), .bool true]) w := by
  obtain ⟨D, ho, h1, h2⟩ := h
  obtain ⟨kl, hkl⟩ := nm_key _ _ (nm_wf hok (show j < U.length by omega)).1 (nm_wf hok (show j < U.length by omega)).2
  obtain ⟨hh, ha⟩ := h1 j hj kl hkl
  obtain ⟨v, ps, hrun, hv⟩ := ho.look_ok nm_law map_under (int_zero w) (plainElem_int (H := Unit) (P := Tryd.prog) (e := 3) (q := .i64) Tryd.underlying3 (by decide)) hkl
  rw [ha] at hv
  obtain ⟨c, rfl, hc, _⟩ := plainElem_int_inv Tryd.underlying3 hv
  have e : c = (j : Int) := by simpa using (congrArg Prod.fst hc).symm
  rw [hrun, hh, e]
theorem plc_miss {U : List (Int × Int)} {k B : Nat} {w : World} (h : Plc U k B w) {x y : Int} (hx : (Lit.int .i64 x).wf = true) (hy : (Lit.int .i64 y).wf = true) (hno : ∀ j, j < k → ¬ (M.pr U j = x ∧ (M.nth U j : Int) = y)) :
    (Instr.lookup 69 (.map (some B)) (nmK x y) true).run Tryd.prog w = .ok (.tuple #[.int .i64 0, .bool false]) w := by
  obtain ⟨D, ho, h1, h2⟩ := h
  obtain ⟨kl, hkl⟩ := nm_key _ _ hx hy
  have hh : Maps.has D kl = false := by
    cases e : Maps.has D kl with
    | false => rfl
    | true =>
      obtain ⟨j, hj, e2⟩ := h2 kl e
      have e3 := nm_law.inj e2 hkl
      exact absurd (by simpa [nmK] using e3) (hno j hj)
  obtain ⟨v, ps, hrun, hv⟩ := ho.look_ok nm_law map_under (int_zero w) (plainElem_int (H := Unit) (P := Tryd.prog) (e := 3) (q := .i64) Tryd.underlying3 (by decide)) hkl
  rw [atKey_of_not_has hh] at hv
  obtain ⟨c, rfl, hc, _⟩ := plainElem_int_inv Tryd.underlying3 hv
  have e : c = 0 := by simpa using (congrArg Prod.fst hc).symm
  rw [hrun, hh, e]
end Go.Proofs.YtnofgmbpkgnciaaDoor
