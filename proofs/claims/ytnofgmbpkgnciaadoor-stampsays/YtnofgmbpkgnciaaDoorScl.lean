/- A slice of integers copied (package slices, Clone, at integers): the same numbers, in a row of the call's own. -/
import Derived.Test.YtnofgmbpkgnciaaDoorOwnI
import Derived.Lib.SliceRun
namespace Go.Proofs.YtnofgmbpkgnciaaDoor
open Go.RowKit

theorem icells_at (m : List Nat) {j : Nat} {u : Value} (h : (icells m)[j]? = some u) : j < m.length ∧ u = .int .i64 ((ints m)[j]?.getD 0) := by
  unfold icells at h
  rw [List.getElem?_map] at h
  obtain ⟨x, hx, rfl⟩ := Option.map_eq_some_iff.1 h
  refine ⟨(List.getElem?_eq_some_iff.1 hx).1, ?_⟩
  rw [ints_get]; unfold M.row; rw [hx]; rfl
set_option maxHeartbeats 1000000 in
theorem clone_ok (m : List Nat) (b off n cap : Nat) (w : World) (hm : m.length = n) (hn : n ≤ 24) (hb : b < w.heap.size) (hc : ∀ j, j < n → w.cell? ⟨b, off + j, none⟩ = some (.int .i64 ((ints m)[j]?.getD 0))) :
    Calls Tryd.prog 33 #[.slice (some ⟨b, off, none⟩) n cap] w fun e w' => ∃ p c, e = .returned (.slice p n c) ∧ w'.ownsRow w.heap.size 3 1 (.slice p n c) n (icells m) ∧ Below w.heap.size w w' := by
  obtain ⟨i0, hi0, hzz⟩ := Option.map_eq_some_iff.1 infoInt
  simp only [Prod.mk.injEq] at hzz
  obtain ⟨hz0, hz1, hz2⟩ := hzz
  have hq : ∀ w' : World, (binOp .eql 30 (.slice (some ⟨b, off, none⟩) n cap) (.slice none 0 0)).run Tryd.prog w' = .ok (.bool false) w' := fun w' => Lib.run_eql_slice_nil w' _ _ (some ⟨b, off, none⟩) n cap 0 0 Tryd.underlying30
  have A : Hid (∀ j, j < n → w.cell? ⟨b, off + j, none⟩ = some (.int .i64 ((ints m)[j]?.getD 0))) := hc
  clear hc
  go_enter Tryd.func33, Tryd.ntmps33
  go_wp2_with (at_builtin; refine wpList_append_own _ rfl _ _ 30 rfl w.heap.size 3 i0 (.int .i64 0) 1 8 Tryd.underlying30 hi0 hz0 hz1 hz2 rfl (by decide) _ _ _ rfl (World.ownsRow_made w #[] 0 (Nat.le_refl _) (Nat.zero_le _) rfl) ⟨b, off, none⟩ n cap (icells m) rfl ?c1 ?c2 ?c3 ?c4 ?c5 ?c6 ?_)
  case c1 => simp [icells, hm]
  case c2 =>
    intro j u hj
    obtain ⟨h1, rfl⟩ := icells_at m hj
    rw [addr_add]
    exact ((bel_al (Below.refl _ w) _).cell (p := ⟨b, off + j, none⟩) hb).trans (A.out j (by omega))
  case c3 =>
    intro u hu
    obtain ⟨j, _, hj⟩ := List.getElem_of_mem hu
    obtain ⟨_, rfl⟩ := icells_at m (j := j) (u := u) (by rw [← hj]; exact List.getElem?_eq_getElem _)
    rfl
  case c4 => unfold maxLen; omega
  case c5 => omega
  case c6 => simp
  intro v' w1 hown hgrow _
  obtain ⟨q', c', rfl⟩ := owns_slice hown
  go_wp2_with fail
  go_ret
  refine ⟨q', c', rfl, hown, (bel_al (Below.refl _ w) _).grown hgrow (by simp) (by intro k hk; simp [Value.ownBlock] at hk; omega)⟩
end Go.Proofs.YtnofgmbpkgnciaaDoor
