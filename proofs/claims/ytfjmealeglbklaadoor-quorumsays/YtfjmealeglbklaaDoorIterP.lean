/- The iterator over the things of a set (package set, Things), where it may be stopped: what came up so far is how the set's things begin: it hands out all things of the set, the least first, to whatever loop body keeps the memory that lay below a mark; at sets of at most twelve things, the library's table lying where its variable is. -/
import Derived.RangeFuncNested
import Derived.RangeFuncBound
import Derived.RangeFuncCalls
import Derived.RangeFuncLeaves
import Derived.Shelf.Abstract
import Derived.Shelf.RegionOpen
import Derived.WalkKit
import Derived.OwnWalkIn
import Derived.TacticsInMore
import Derived.LoopNIn
import Derived.LoopIn
import Derived.Outline
import Derived.Test.YtfjmealeglbklaaDoorIter
namespace Go.Proofs.YtfjmealeglbklaaDoor
open Go.RowKit Go.Shelf
attribute [local go_sem] Oper.semAt_some

set_option maxRecDepth 100000 in
set_option maxHeartbeats 2000000 in
theorem things1_pre (n : Nat) (l Bs n₀ k s : Nat) (hk : k ≤ 12) (hs : s < 2 ^ k) (hn₀ : 2 < n₀) (J Jx : List (Fin k) → World → Prop)
    (hY : ∀ pre x W, J pre W → pre.length < 12 → YieldAt Fence.wide (n - 1) Tryd.prog l #[.int .i64 ((x : Fin k).1 : Nat)] W fun e W' =>
      (e = .returned (.bool true) ∧ J (pre ++ [x]) W' ∧ Below n₀ W W') ∨ (e = .returned (.bool false) ∧ Jx (pre ++ [x]) W'))
    (W : World) (hT : Tab W) (hBs : W.cell? ⟨Bs, 0, none⟩ = some (.int .i64 s)) (h0 : J [] W) :
    CallsIn Fence.wide n Tryd.prog 59 #[.func (.yield l) #[] #[], .pointer (some ⟨Bs, 0, none⟩)] W fun e W' => (∃ v, e = .returned v) ∧
      ((∃ ys, List.map (fun x : Fin k => x.1) ys = M.bits s ∧ J ys W') ∨ (∃ pre, (∃ r, M.bits s = List.map (fun x : Fin k => x.1) pre ++ r) ∧ Jx pre W')) := by
  have h4 := pow_lt k hk
  refine callsIn_of_wp Tryd.func59 rfl trivial ?_ rfl
  simp only [Tryd.ntmps59, List.size_toArray, List.length_cons, List.length_nil, Nat.reduceAdd, Nat.reduceSub, Array.replicate_succ, Array.replicate_zero, List.push_toArray, List.append_toArray, List.nil_append, List.cons_append]
  gi_wp2
  gi_loopw [3] (fun r wr => ∃ (pre : List (Fin k)) (t : Nat), r = .int .u64 t ∧ t < 2 ^ k ∧ M.bits s = pre.map (fun x : Fin k => x.1) ++ M.bits t ∧ J pre wr ∧ Below n₀ W wr)
    (fun r _ => (intOf r).toNat)
  case atStart => exact ⟨[], s, rfl, hs, by simp, h0, Below.refl _ _⟩
  case round =>
    obtain ⟨pre, t, rfl, ht, hb, hJ, hB⟩ := hrel
    by_cases hz : t = 0
    · subst hz
      gi_wp2
      go_end0
      exact ⟨⟨_, rfl⟩, .inl ⟨pre, by rw [hb, bits_zero]; simp, hJ⟩⟩
    · have hp : 0 < t := by omega
      have ht4 : t < 4096 := by omega
      obtain ⟨-, -, hbits, hrest⟩ := look_one t ht4 hp
      have hlt := least_lt ht hk hp
      have hlen : pre.length < 12 := by
        have h12 := bits_len s
        rw [hb, hbits] at h12
        simp at h12; omega
      obtain ⟨fn, tmps, assign, body, hy, hR⟩ := hY pre ⟨least t, hlt⟩ wr hJ hlen
      dsimp only at hy
      have hTr := hT.below hB hn₀
      have htz := (callsIn_wide (n := n - 1)).2 (tz t wr ht4 hp hTr)
      have hne : ((t : Int) == 0) = false := by simp; omega
      have hra := rest_and t ht4 hp
      have HB : Hid (M.bits s = pre.map (fun x : Fin k => x.1) ++ M.bits t) := hb
      have HT : Hid (M.bits t = least t :: M.bits (rest t)) := hbits
      clear hb hbits
      gi_wp2_with (refine ⟨trivial, (fun h => by cases h), ?_⟩; refine htz.mono ?_; rintro e w' ⟨rfl, rfl⟩)
      refine ⟨(fun h => by cases h), hR.mono ?_⟩
      rintro e W3 (⟨rfl, hJ3, hk3⟩ | ⟨rfl, hJx3⟩)
      · gi_wp2
        go_roundw
        case rel => exact ⟨pre ++ [⟨least t, hlt⟩], rest t, rfl, by omega, by rw [HB.out, HT.out]; simp, hJ3, hB.trans hk3⟩
        case measure => simp [intOf]; omega
      · gi_wp2
        refine bodyPost_ret (results_none rfl _ _ _) rfl ?_
        exact ⟨⟨_, rfl⟩, .inr ⟨_, ⟨M.bits (rest t), by rw [HB.out, HT.out]; simp⟩, hJx3⟩⟩

/-- The things of a set, as the laws of a range over a function want them. -/
theorem things_stopsP (n : Nat) (Bs n₀ k s : Nat) (hk : k ≤ 12) (hs : s < 2 ^ k) (hn₀ : 2 < n₀) (w : World) (hBs : Bs < w.heap.size) (hle : n₀ ≤ w.heap.size) (hT : Tab w) (hc : w.cell? ⟨Bs, 0, none⟩ = some (.int .i64 s)) :
    SeqStopsK Fence.wide n Tryd.prog 59 #[.pointer (some ⟨Bs, 0, none⟩)] (fun x : Fin k => #[Value.int .i64 ((x.1 : Nat) : Int)]) (Below n₀)
      (fun ys => List.map (fun x : Fin k => x.1) ys = M.bits s) (fun ys => ∃ r, M.bits s = List.map (fun x : Fin k => x.1) ys ++ r) 12 w := fun l J Jx W hW _ _ hY h0 =>
  things1_pre n l Bs n₀ k s hk hs hn₀ J Jx hY W (hT.below hW (by omega)) ((hW.cell (p := ⟨Bs, 0, none⟩) hBs).trans hc) h0
end Go.Proofs.YtfjmealeglbklaaDoor
