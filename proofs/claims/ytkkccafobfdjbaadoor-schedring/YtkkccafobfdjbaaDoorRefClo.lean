/- The document's own closure (package whensteadref1, Closed): at rows that are all sets, at most twelve, the closed rows in a new list; what lay in memory lies as it lay. -/
import Derived.Test.YtkkccafobfdjbaaDoorRefSet
import Derived.Test.YtkkccafobfdjbaaDoorRefMath
import Derived.Test.YtkkccafobfdjbaaDoorFaces
import Derived.WalkSpells
import Derived.OwnWalk
namespace Go.Proofs.YtkkccafobfdjbaaDoor
open Go.RowKit

/-- The first k of some sets, as cells. -/
def cellsOf (m : List Nat) (k : Nat) : List Value := (m.take k).map fun x => Value.int .i64 ((x : Nat) : Int)
theorem cellsOf_succ (m : List Nat) (k : Nat) (h : k < m.length) : cellsOf m (k + 1) = cellsOf m k ++ [.int .i64 (M.row m k : Nat)] := by
  unfold cellsOf M.row
  rw [List.take_succ_eq_append_getElem h, List.map_append]
  congr 1
  simp [h]
theorem has_of_owns {w : World} {base n : Nat} {v : Value} {m : List Nat} (hm : m.length = n) (h : w.ownsRow base 3 1 v n (cellsOf m n)) : ∃ p cap, v = .slice p n cap ∧ Has (ints m) p w := by
  rcases h.2 with ⟨rfl, rfl⟩ | ⟨g, cap, cur, rfl, hb, hg, h1, h2, h3, h4⟩
  · exact ⟨none, 0, rfl, fun j hj => by rw [ints_length] at hj; omega⟩
  · refine ⟨_, cap, rfl, fun j hj => ⟨g, 0, rfl, (Array.getElem?_eq_some_iff.1 hg).1, ?_⟩⟩
    rw [ints_length] at hj
    have hc := h.cellAt j (by omega)
    rw [Nat.zero_add, hc, ints_get]
    unfold cellsOf M.row
    rw [List.getElem?_map, List.getElem?_take, if_pos (by omega)]
    simp [hj]

set_option maxRecDepth 10000 in
set_option maxHeartbeats 2000000 in
theorem closed_any (m : List Nat) (p : Option Addr) (n cap : Nat) (w : World) (hl : m.length = n) (hm : M.Ok m) (hn : n ≤ 12) (hc : Has (ints m) p w) :
    Calls Tryd.prog 22 #[.slice p n cap] w fun e w' => ∃ q c, e = .returned (.slice q n c) ∧ Has (ints (M.clo m)) q w' ∧ Below w.heap.size w w' := by
  obtain ⟨i0, hi, hz0, hz1, hz2⟩ := info_parts Tryd.info3
  have hp := pow_lt n hn
  have hcl : (M.clo m).length = n := by rw [M.clo_length, hl]
  go_enter Tryd.func22, Tryd.ntmps22
  go_wp2
  go_loopw [3, 4] (fun v c wr => ∃ k : Nat, k ≤ n ∧ c = .int .i64 k ∧ wr.ownsRow w.heap.size 3 1 v k (cellsOf (M.clo m) k) ∧ Below w.heap.size w wr) (fun _ c _ => n - (intOf c).toNat)
  case atStart => exact ⟨0, Nat.zero_le _, rfl, World.ownsRow_nil _ _ _ _, Below.refl _ _⟩
  case round =>
    obtain ⟨k, hk, rfl, hown, hB⟩ := hrel
    by_cases hlt : k < n
    · have hcr := hc.later hB
      obtain ⟨b, off, rfl, hb, hcell⟩ := hcr k (by rw [ints_length]; omega)
      rw [ints_get] at hcell
      have hrk : M.row m k < 4096 := by have := hm k; rw [hl] at this; omega
      go_wp2
      go_loop [5, 6] (fun v c => ∃ (q t : Nat), q ≤ n ∧ Hid (t = M.iter (M.hstep m) q (M.row m k)) ∧ t < 4096 ∧ v = .int .i64 t ∧ c = .int .i64 q) (fun _ c => n - (intOf c).toNat)
      case atStart => exact ⟨0, M.row m k, Nat.zero_le _, show _ = _ by rfl, hrk, rfl, rfl⟩
      case round =>
        obtain ⟨q, t, hq, ht, ht4, rfl, rfl⟩ := hrel
        by_cases hql : q < n
        · have htl : t < 2 ^ n := by rw [ht.out, ← hl]; exact M.iterh_lt hm k q
          go_wp2
          go_loop [5, 7] (fun v c => ∃ (j s : Nat), j ≤ n ∧ Hid (s = M.hTo m t j) ∧ s < 4096 ∧ v = .int .i64 s ∧ c = .int .i64 j) (fun _ c => n - (intOf c).toNat)
          case atStart => exact ⟨0, t, Nat.zero_le _, show _ = _ by rfl, ht4, rfl, rfl⟩
          case round =>
            obtain ⟨j, s, hj, hs, hs4, rfl, rfl⟩ := hrel
            by_cases hjl : j < n
            · obtain ⟨b', off', e', hb', hcell'⟩ := hcr j (by rw [ints_length]; omega)
              cases e'
              rw [ints_get] at hcell'
              have hrj : M.row m j < 4096 := by have := hm j; rw [hl] at this; omega
              cases hbit : s.testBit j with
              | false =>
                have hs1 : Hid (s = M.hTo m t (j + 1)) := by show _ = _; simp only [M.hTo]; rw [← hs.out, if_neg (by rw [hbit]; simp)]
                go_wp2_with (go_at_call 20; refine (bit_any _ _ _ (by omega) (by omega)).mono ?_; rintro e w' ⟨rfl, rfl⟩)
                go_round
                case rel => exact ⟨j + 1, s, by omega, hs1, hs4, rfl, by go_num⟩
                case measure => simp [intOf]; omega
              | true =>
                have hs1 : Hid (s ||| M.row m j = M.hTo m t (j + 1)) := by show _ = _; simp only [M.hTo]; rw [← hs.out, if_pos hbit]
                have hs2 : s ||| M.row m j < 4096 := by rw [hs1.out]; have := M.hTo_lt hm (by rw [hl]; exact htl) (j + 1); rw [hl] at this; omega
                obtain ⟨s', hs'⟩ : ∃ s', s ||| M.row m j = s' := ⟨_, rfl⟩
                have hei := fun W => either_any s (M.row m j) W hs4 hrj
                rw [hs'] at hs1 hs2 hei
                clear hs'
                go_wp2_with (first | (go_at_call 20; refine (bit_any _ _ _ (by omega) (by omega)).mono ?_; rintro e w' ⟨rfl, rfl⟩) | (go_at_call 34; refine (hei _).mono ?_; rintro e w' ⟨rfl, rfl⟩))
                go_round
                case rel => exact ⟨j + 1, s', by omega, hs1, hs2, rfl, by go_num⟩
                case measure => simp [intOf]; omega
            · obtain rfl : j = n := by omega
              have hst : Hid (s = M.iter (M.hstep m) (q + 1) (M.row m k)) := by show s = M.hstep m (M.iter (M.hstep m) q (M.row m k)); rw [← ht.out]; unfold M.hstep; rw [hl]; exact hs.out
              go_wp2
              go_round
              case rel => exact ⟨q + 1, s, by omega, hst, hs4, rfl, by go_num⟩
              case measure => simp [intOf]; omega
        · obtain rfl : q = n := by omega
          have htc : Hid (t = M.row (M.clo m) k) := by show _ = _; rw [ht.out, ← hl, M.iterh_row hm k (by omega)]
          go_wp2_with (at_builtin; refine wpList_append_own _ rfl _ _ 23 rfl w.heap.size 3 i0 (.int .i64 0) 1 8 Tryd.underlying23 hi hz0 hz1 hz2 rfl (by decide) _ _ _ rfl (hown.alloc _) ⟨wr.heap.size, 0, none⟩ 1 1 [.int .i64 (t : Nat)] rfl rfl (cell_one_new _ _ _) (by simp [Value.oneCell']) (by unfold maxLen; omega) (by omega) (by have := hB.size; simp; omega) ?_; intro v' w1 hown' hgrow _)
          have hcs : Hid (cellsOf (M.clo m) (k + 1) = cellsOf (M.clo m) k ++ [.int .i64 (t : Nat)]) := by show _ = _; rw [cellsOf_succ _ _ (by omega), ← htc.out]
          have hB1 : Below w.heap.size w w1 := (hB.alloc hB.size _).grown hgrow (by have := hB.size; simp; omega) (fun j e => (hown.lt j e).1)
          first | go_roundw | skip
          case rel => exact ⟨k + 1, by omega, by go_num, by rw [hcs.out]; exact hown', hB1⟩
          case measure => simp [intOf]; omega
    · obtain rfl : k = n := by omega
      obtain ⟨pq, cq, rfl, hh⟩ := has_of_owns hcl hown
      go_wp2
      go_ret
      exact ⟨pq, cq, rfl, hh, hB⟩
end Go.Proofs.YtkkccafobfdjbaaDoor
