/- Two lists of numbers, and two lists of lists, that are the same are told to be so (package whensteadsame, Ints, Rows); what lay in memory lies as it lay. -/
import Derived.Test.YtlhpkpjcfjdgaaaDoorSin
import Derived.Test.YtlhpkpjcfjdgaaaDoorOwnI
namespace Go.Proofs.YtlhpkpjcfjdgaaaDoor
open Go.RowKit

set_option maxHeartbeats 1000000 in
theorem same_intsQ (zs : List Int) (p q : Option Addr) (n cap cap' : Nat) (w : World) (hl : zs.length = n) (hmax : n ≤ maxLen) (hp : HasI zs p w) (hq : HasI zs q w) :
    Calls Tryd.prog 20 #[.slice p n cap, .slice q n cap'] w fun e w' => e = .returned (.bool true) ∧ ∃ m, w' = w.drewN m := by
  unfold maxLen at hmax
  go_enter Tryd.func20, Tryd.ntmps20
  go_wp2
  go_loopw [5] (fun i wr => ∃ k : Nat, k ≤ n ∧ i = .int .i64 k ∧ ∃ m, wr = w.drewN m) (fun i _ => n - (intOf i).toNat)
  case atStart => exact ⟨0, Nat.zero_le _, rfl, 0, rfl⟩
  case round =>
    obtain ⟨k, hk, rfl, m, rfl⟩ := hrel
    by_cases hlt : k < n
    · obtain ⟨b, off, rfl, hb, hcell⟩ := hp k (by omega)
      obtain ⟨b', off', rfl, hb', hcell'⟩ := hq k (by omega)
      obtain ⟨z, hz⟩ : ∃ z, zs[k]?.getD 0 = z := ⟨_, rfl⟩
      rw [hz] at hcell hcell'
      clear hz hp hq
      go_wp2
      go_quiet (fail)
      go_wp2
      go_roundw
      case rel => exact ⟨k + 1, by omega, by go_num, _, rfl⟩
      case measure => simp [intOf]; omega
    · clear hp hq
      go_wp2
      go_ret
      exact ⟨rfl, m, rfl⟩
/-- The slice's address p leads to slices of the numbers L. -/
def HasR (L : List (List Int)) (p : Option Addr) (w : World) : Prop := ∀ j, j < L.length → ∃ b off, p = some ⟨b, off, none⟩ ∧ b < w.heap.size ∧ ∃ q cap, w.cell? ⟨b, off + j, none⟩ = some (.slice q (L[j]?.getD []).length cap) ∧ HasI (L[j]?.getD []) q w
theorem HasR.later {L : List (List Int)} {p : Option Addr} {w w' : World} (h : HasR L p w) (hb : Below w.heap.size w w') : HasR L p w' := fun j hj => by
  obtain ⟨b, off, h1, h2, q, cap, h3, h4⟩ := h j hj
  exact ⟨b, off, h1, by have := hb.size; omega, q, cap, (hb.cell (p := ⟨b, off + j, none⟩) h2).trans h3, h4.later hb⟩
theorem HasI.drN {zs : List Int} {p : Option Addr} {w : World} (h : HasI zs p w) (m : Nat) : HasI zs p (w.drewN m) := h.later (below_drewN w m)
end Go.Proofs.YtlhpkpjcfjdgaaaDoor
