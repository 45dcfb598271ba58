/- Package sched, Ordered: what is wrong, else the places of all acts, transaction by transaction; what lay in memory lies as it lay. -/
import Derived.Test.YtlkdclifcmohlaaDoorSc2
namespace Go.Proofs.YtlkdclifcmohlaaDoor
open Go.RowKit

namespace M
theorem ordd_snoc (s : List SAct) (l : List Nat) (t : Nat) : ordd s (l ++ [t]) = ordd s l ++ (List.range s.length).filter fun i => (sat s i).tx == t := by
  unfold ordd
  rw [List.flatMap_append]
  simp
/-- of the row k have come, and of the next one's places those below i -/
def orP (s : List SAct) (r : List Nat) (k t i : Nat) : List Nat := ordd s (r.take k) ++ (List.range i).filter fun x => (sat s x).tx == t
theorem orP_zero (s : List SAct) (r : List Nat) (k t : Nat) : orP s r k t 0 = ordd s (r.take k) := by simp [orP]
theorem orP_hit {s : List SAct} {r : List Nat} {k t i : Nat} (h : (sat s i).tx = t) : orP s r k t (i + 1) = orP s r k t i ++ [i] := by
  unfold orP
  rw [List.range_succ, List.filter_append, List.filter_cons, if_pos (by simp [h])]
  simp
theorem orP_miss {s : List SAct} {r : List Nat} {k t i : Nat} (h : (sat s i).tx ≠ t) : orP s r k t (i + 1) = orP s r k t i := by
  unfold orP
  rw [List.range_succ, List.filter_append, List.filter_cons, if_neg (by simp [h])]
  simp
theorem orP_next {s : List SAct} {r : List Nat} {k : Nat} (hk : k < r.length) : orP s r k (row r k) s.length = ordd s (r.take (k + 1)) := by
  unfold orP
  rw [List.take_add_one, List.getElem?_eq_getElem hk, show row r k = r[k] by unfold row; rw [List.getElem?_eq_getElem hk]; rfl]
  exact (ordd_snoc _ _ _).symm
theorem ordd_len (s : List SAct) : ∀ l : List Nat, (ordd s l).length ≤ l.length * s.length
  | [] => Nat.zero_le _
  | t :: l => by
    have e : ordd s (t :: l) = ((List.range s.length).filter fun i => (sat s i).tx == t) ++ ordd s l := by unfold ordd; rw [List.flatMap_cons]
    rw [e, List.length_append, List.length_cons, Nat.succ_mul]
    have h1 := ordd_len s l
    have h2 := List.length_filter_le (fun i => (sat s i).tx == t) (List.range s.length)
    rw [List.length_range] at h2
    omega
theorem orP_len {s : List SAct} {r : List Nat} {k t i : Nat} (hs : s.length ≤ 24) (hr : r.length = 5) (hi : i ≤ 24) : (orP s r k t i).length ≤ 1000 := by
  unfold orP
  rw [List.length_append]
  have h1 := ordd_len s (r.take k)
  have h2 := List.length_filter_le (fun x => (sat s x).tx == t) (List.range i)
  rw [List.length_range] at h2
  have h3 : (r.take k).length ≤ 5 := by rw [List.length_take]; omega
  have h4 : (r.take k).length * s.length ≤ 5 * 24 := Nat.mul_le_mul h3 hs
  omega
end M
end Go.Proofs.YtlkdclifcmohlaaDoor
