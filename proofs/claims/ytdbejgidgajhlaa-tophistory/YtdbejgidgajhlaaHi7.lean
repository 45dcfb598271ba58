/- What a try does to a search: an op more in the row, and one less; which ops stand, and what the objects have. No walk. -/
import Derived.Test.YtdbejgidgajhlaaHi6
namespace Go.Proofs.Ytdbejgidgajhlaa
open Go.RowKit

theorem tb_or (d i k : Nat) : tb (d ||| 2 ^ i) k = (tb d k || decide (i = k)) := M.bit_more d i k
theorem opsC_set (d i : Nat) (hi : i < 10) : (opsC d).setIfInBounds i (.bool true) = opsC (d ||| 2 ^ i) := by
  simp only [opsC, tb_or]
  match i, hi with
  | 0, _ => simp
  | 1, _ => simp
  | 2, _ => simp
  | 3, _ => simp
  | 4, _ => simp
  | 5, _ => simp
  | 6, _ => simp
  | 7, _ => simp
  | 8, _ => simp
  | 9, _ => simp
/-- what object k has behind a value for object o -/
def nv (o u k x : Nat) : Nat := if o = k then u else x
theorem vaC_set (x y z o u : Nat) (ho : o < 3) : (vaC x y z).setIfInBounds o (.int .i64 ((u : Nat) : Int)) = vaC (nv o u 0 x) (nv o u 1 y) (nv o u 2 z) := by
  match o, ho with
  | 0, _ => simp [vaC, nv]
  | 1, _ => simp [vaC, nv]
  | 2, _ => simp [vaC, nv]
theorem vf_nv (x y z o u : Nat) (ho : o < 3) : M.vf [nv o u 0 x, nv o u 1 y, nv o u 2 z] = M.setv (M.vf [x, y, z]) o u := by
  rw [← M.vf_set (l := [x, y, z]) (by simpa using ho)]
  match o, ho with
  | 0, _ => rfl
  | 1, _ => rfl
  | 2, _ => rfl
theorem nv_lt {o u k x B : Nat} (hx : x < B) (hu : u < B) : nv o u k x < B := by unfold nv; split <;> assumption
theorem or_lt {d i : Nat} (hd : d < 1024) (hi : i < 10) : d ||| 2 ^ i < 1024 := by
  have h2 : 2 ^ i < 2 ^ 10 := Nat.pow_lt_pow_right (by omega) hi
  exact Nat.or_lt_two_pow (n := 10) hd h2
theorem memo_more {all : Bool} {h : List M.HOp} {L : Nat → List (List Nat)} {d k : Nat} {x : List Nat} (hm : M.Memo all h fun e l => l ∈ L e) (hk : M.cnt h.length d + k = h.length) (hb : M.best all h k d (M.vf x) = none) : M.Memo all h fun e l => l ∈ moreL L d x e := by
  intro e l hl
  refine hm.more hk hb e l ?_
  unfold moreL at hl
  by_cases c : e = d
  · rw [if_pos c, List.mem_append, List.mem_singleton] at hl
    rcases hl with h | h
    · exact .inl h
    · exact .inr ⟨c, h⟩
  · rw [if_neg c] at hl
    exact .inl hl
/-- how many more are kept in mind, at most, by a try of k more -/
def tryT : Nat → Nat
  | 0 => 0
  | k + 1 => 10 * tryT k + 2
theorem tryT_le {k : Nat} (h : k ≤ 10) : tryT k ≤ 2222222222 := by
  have : ∀ k, k < 11 → tryT k ≤ 2222222222 := by decide
  exact this k (by omega)
theorem owns_take {w : World} {base m cap g : Nat} {e : TypeId} {xs : List Value} {x : Value} (h : w.ownsRow base e 1 (.slice (some ⟨g, 0, none⟩) (m + 1) cap) (m + 1) (xs ++ [x])) (hx : xs.length = m) : w.ownsRow base e 1 (.slice (some ⟨g, 0, none⟩) m cap) m xs := by
  refine ⟨by omega, ?_⟩
  rcases h.2 with ⟨h2, _⟩ | ⟨g', cap', cur, h2, hb, hg, h3, h4, h5, h6⟩
  · cases h2
  · cases h2
    refine .inr ⟨g, cap, cur, rfl, hb, hg, by omega, h4, h5, ?_⟩
    rw [Nat.mul_one] at h6 ⊢
    have := congrArg (List.take m) h6
    rw [List.take_take, show min m (m + 1) = m by omega] at this
    rw [this, ← hx, List.take_left]
section
variable {O : Nat → Prop} {S c Mb : Nat} {hv fv v : Value} {t : List Nat} {L : Nat → List (List Nat)} {ib : Nat → Option Nat} {w : World}
/-- one op more in the row -/
theorem Sr.push {w5 : World} (h : Sr O S hv fv t L c v Mb ib w) {i g cap : Nat} (ho : w5.ownsRow 0 3 1 (.slice (some ⟨g, 0, none⟩) (t.length + 1) cap) (t.length + 1) (icells t ++ [.int .i64 (i : Nat)])) (hb : ∀ k, k < w.heap.size → v.ownBlock ≠ some k → w5.heap[k]? = w.heap[k]?)
    (hat : v.ownBlock = some g ∨ w.heap.size ≤ g) (hO : O g) : Sr O S hv fv (t ++ [i]) L c (.slice (some ⟨g, 0, none⟩) (t.length + 1) cap) Mb ib (w5.setCell ⟨S, 2, none⟩ (.slice (some ⟨g, 0, none⟩) (t.length + 1) cap)) := by
  have hS5 : Blk w5 S #[hv, fv, v, .map (some Mb)] 46 := (hb S h.blk.lt h.neSR).trans h.blk
  have hgS : g ≠ S := fun e => by
    rcases hat with a | a
    · exact h.neSR (e ▸ a)
    · have := h.blk.lt; omega
  refine ⟨hS5.set 2 _, ?_, (h.om.at_ (hb Mb h.om.lt h.neMR)).at_ (Below.heap_setCell _ _ _ _ (Ne.symm h.neSM)), fun d B hd => (((h.kv d B hd).at_ (hb B (h.kv d B hd).lt (h.neBR hd))).at_ (Below.heap_setCell _ _ _ _ (Ne.symm (h.neSB hd)))), h.kn, h.inj, h.nM, h.oS, h.oM, fun g' e => ?_, h.oB⟩
  · rw [icells_snoc, List.length_append]
    exact owns_blk ho (fun g' e => Below.heap_setCell _ _ _ _ (by obtain rfl : g = g' := by simpa [Value.ownBlock] using e
                                                                  exact hgS))
  · obtain rfl : g = g' := by simpa [Value.ownBlock] using e
    exact hO
/-- one op less -/
theorem Sr.pop {i g cap : Nat} (h : Sr O S hv fv (t ++ [i]) L c (.slice (some ⟨g, 0, none⟩) (t.length + 1) cap) Mb ib w) : Sr O S hv fv t L c (.slice (some ⟨g, 0, none⟩) t.length cap) Mb ib (w.setCell ⟨S, 2, none⟩ (.slice (some ⟨g, 0, none⟩) t.length cap)) := by
  have hgS : g ≠ S := fun e => h.neSR (e ▸ rfl)
  refine ⟨h.blk.set 2 _, ?_, h.om.at_ (Below.heap_setCell _ _ _ _ (Ne.symm h.neSM)), fun d B hd => ((h.kv d B hd).at_ (Below.heap_setCell _ _ _ _ (Ne.symm (h.neSB hd)))), h.kn, h.inj, h.nM, h.oS, h.oM, fun g' e => h.oR g' e, h.oB⟩
  have hr := h.row
  rw [icells_snoc, List.length_append] at hr
  exact owns_blk (owns_take hr (by simp [icells])) (fun g' e => Below.heap_setCell _ _ _ _ (by obtain rfl : g = g' := by simpa [Value.ownBlock] using e
                                                                                               exact hgS))
theorem Sr.slice {i : Nat} (h : Sr O S hv fv (t ++ [i]) L c v Mb ib w) : ∃ g cap, v = .slice (some ⟨g, 0, none⟩) (t.length + 1) cap ∧ t.length + 1 ≤ cap ∧ cap ≤ maxLen := by
  have hr := h.row
  rw [List.length_append] at hr
  rcases hr.2 with ⟨_, h2⟩ | ⟨g', cap', cur, h2, hb, hg, h3, h4, h5, h6⟩
  · simp at h2
  · exact ⟨g', cap', h2, h3, h4⟩
end
end Go.Proofs.Ytdbejgidgajhlaa
