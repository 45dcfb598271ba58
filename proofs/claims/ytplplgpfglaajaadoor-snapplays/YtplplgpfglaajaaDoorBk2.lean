/- What waits on a way, copied (package slices, Clone, at integers), and without its first (Delete, at integers). -/
import Derived.Test.YtplplgpfglaajaaDoorBk1
import Derived.Lib.LazyBuf
namespace Go.Proofs.YtplplgpfglaajaaDoor
open Go.RowKit

set_option maxHeartbeats 1000000 in
theorem cloneZ_ok (l : List Int) (b off n cap : Nat) (w : World) (hm : l.length = n) (hn : n ≤ 100) (hb : b < w.heap.size) (hc : ∀ j, j < n → w.cell? ⟨b, off + j, none⟩ = some (.int .i64 (l[j]?.getD 0))) :
    Calls Tryd.prog 26 #[.slice (some ⟨b, off, none⟩) n cap] w fun e w' => ∃ p c, e = .returned (.slice p n c) ∧ w'.ownsRow w.heap.size 3 1 (.slice p n c) n (zc l) ∧ Below w.heap.size w w' := by
  obtain ⟨i0, hi0, hz0, hz1, hz2⟩ := info_parts infoIn
  have hq : ∀ w' : World, (binOp .eql 22 (.slice (some ⟨b, off, none⟩) n cap) (.slice none 0 0)).run Tryd.prog w' = .ok (.bool false) w' := fun w' => Lib.run_eql_slice_nil w' _ _ (some ⟨b, off, none⟩) n cap 0 0 Tryd.underlying22
  have A : Hid (∀ j, j < n → w.cell? ⟨b, off + j, none⟩ = some (.int .i64 (l[j]?.getD 0))) := hc
  clear hc
  go_enter Tryd.func26, Tryd.ntmps26
  go_wp2_with (at_builtin; refine wpList_append_own _ rfl _ _ 22 rfl w.heap.size 3 i0 (.int .i64 0) 1 8 Tryd.underlying22 hi0 hz0 hz1 hz2 rfl (by decide) _ _ _ rfl (World.ownsRow_made w #[] 0 (Nat.le_refl _) (Nat.zero_le _) rfl) ⟨b, off, none⟩ n cap (zc l) rfl ?c1 ?c2 ?c3 ?c4 ?c5 ?c6 ?_)
  case c1 => simp [zc, hm]
  case c2 =>
    intro j u hj
    have h1 : j < l.length := by have := (List.getElem?_eq_some_iff.1 hj).1; rwa [zc_length] at this
    rw [zc_at h1] at hj
    rw [addr_add, ← hj]
    exact ((bel_al (Below.refl _ w) _).cell (p := ⟨b, off + j, none⟩) hb).trans (A.out j (by omega))
  case c3 => exact zc_one l
  case c4 => unfold maxLen; omega
  case c5 => omega
  case c6 => simp
  intro v' w1 hown hgrow _
  obtain ⟨q', c', rfl⟩ := owns_slice hown
  go_wp2_with fail
  go_ret
  refine ⟨q', c', rfl, hown, (bel_al (Below.refl _ w) _).grown hgrow (by simp) (by intro k hk; simp [Value.ownBlock] at hk; omega)⟩
theorem rowIs_take {w : World} {g cap m : Nat} {t : TypeId} {f : Nat → Value} {l : List Int} (h : w.rowIs g t cap f) (hl : l.length = m) (hm : m ≤ cap) (hmax : cap ≤ maxLen) (hf : ∀ j, j < m → f j = .int .i64 (l[j]?.getD 0)) : w.ownsRow 0 t 1 (.slice (some ⟨g, 0, none⟩) m cap) m (zc l) := by
  obtain ⟨c, hc, hs, hi⟩ := h
  refine ⟨by rw [zc_length, hl, Nat.mul_one], .inr ⟨g, cap, c, rfl, Nat.zero_le _, hc, hm, hmax, by rw [Nat.mul_one]; exact hs, ?_⟩⟩
  rw [Nat.mul_one]
  apply List.ext_getElem?
  intro j
  rw [List.getElem?_take]
  by_cases e : j < m
  · rw [if_pos e, Array.getElem?_toList, hi j (by omega), hf j e, zc_at (by omega)]
  · rw [if_neg e, List.getElem?_eq_none (by rw [zc_length]; omega)]
theorem grown_sets {w : World} (g : Nat) : ∀ (vs : List Value) (o : Nat) (w' : World), w.grownBy w' (some g) → w.grownBy (w'.setCells g o vs) (some g)
  | [], _, _, h => h
  | v :: r, o, w', h => grown_sets g r (o + 1) _ ⟨h.os, h.tape, h.output, by simpa [World.setCell] using h.size, fun k hk hne => (Below.heap_setCell _ _ _ _ (fun e => hne (by rw [e]))).trans (h.block k hk hne)⟩
set_option maxRecDepth 100000 in
set_option maxHeartbeats 2000000 in
theorem deleteZ_core (g cap L : Nat) (x : Int) (r : List Int) (w : World) (f : Nat → Value) (h1L : 1 ≤ L) (hm : r.length = L - 1) (hcap : L ≤ cap) (hmax : cap ≤ maxLen) (hrow : w.rowIs g 3 cap f) (hf : ∀ j, j < L → f j = .int .i64 ((x :: r)[j]?.getD 0)) :
    Calls Tryd.prog 31 #[.slice (some ⟨g, 0, none⟩) L cap, .int .i64 0, .int .i64 1] w fun e w' => e = .returned (.slice (some ⟨g, 0, none⟩) (L - 1) cap) ∧ w'.ownsRow 0 3 1 (.slice (some ⟨g, 0, none⟩) (L - 1) cap) (L - 1) (zc r) ∧ w.grownBy w' (some g) := by
  obtain ⟨i0, hi0, hz0, hz1, hz2⟩ := info_parts infoIn
  unfold maxLen at hmax
  have hrd : w.drew.rowIs g 3 cap f := hrow.drew
  obtain ⟨A, hA, hsrc⟩ : ∃ A : Addr, (if cap = 1 then some (⟨g, 0, none⟩ : Addr) else some ⟨g, 1, none⟩) = some A ∧ Hid (∀ t u, (zc r)[t]? = some u → w.drew.cell? (A.add t) = some u) := by
    by_cases h : cap = 1
    · refine ⟨⟨g, 0, none⟩, by simp [h], fun t u hu => ?_⟩
      have h0 : r = [] := List.length_eq_zero_iff.1 (by omega)
      subst h0
      simp [zc] at hu
    · refine ⟨⟨g, 1, none⟩, by simp [h], fun t u hu => ?_⟩
      have ht : t < r.length := by have := (List.getElem?_eq_some_iff.1 hu).1; rwa [zc_length] at this
      rw [zc_at ht] at hu
      rw [addr_add, hrd.cell (i := 1 + t) (by omega), hf (1 + t) (by omega), ← hu, Nat.add_comm 1 t]
      rfl
  have s1 : Hid ((zc r).length = (L - 1) * 1) := by rw [Nat.mul_one, zc_length]; exact hm
  have s2 : Hid (∀ u ∈ zc r, u.oneCell' = true) := zc_one r
  have s3 : Hid (∀ t, t < (zc r).length → (w.drew.cell? ⟨g, 0 + 0 * 1 + t, none⟩).isSome = true ∧ w.drew.frozen? ⟨g, 0 + 0 * 1 + t, none⟩ = false) := by
    intro t ht
    rw [zc_length] at ht
    rw [show 0 + 0 * 1 + t = t by omega]
    exact ⟨by rw [hrd.cell (i := t) (by omega)]; rfl, hrd.frozen t⟩
  obtain ⟨W1, hW1⟩ : ∃ W1, W1 = w.drew.setCells g (0 + 0 * 1) (zc r) := ⟨_, rfl⟩
  have hR1 : W1.rowIs g 3 cap (fun j => if 0 + 0 * 1 ≤ j ∧ j < 0 + 0 * 1 + (zc r).length then (zc r)[j - (0 + 0 * 1)]?.getD default else f j) := by rw [hW1]; exact rowIs_setCells (zc r) (0 + 0 * 1) w.drew f hrd
  have hg1 : w.grownBy W1 (some g) := by rw [hW1]; exact grown_sets g _ _ _ ⟨rfl, rfl, rfl, Nat.le_refl _, fun _ _ _ => rfl⟩
  have hcl : ∀ ty, (Builtin.clear_ #[22] ty #[.slice (some ⟨g, L - 1, none⟩) (L - (L - 1)) (cap - (L - 1))]).run Tryd.prog W1 = .ok (.tuple #[]) (W1.setCells g (L - 1) (List.replicate (L - (L - 1)) (.int .i64 0))) :=
    fun ty => Lib.run_clear_slice W1 _ _ ty _ Tryd.underlying22 (by intro w; rfl) rfl rfl g (L - 1) _ _ (by omega) (fun t ht => by rw [hR1.cell (i := L - 1 + t) (by omega)]; rfl) (fun t ht => hR1.frozen _)
  have FIN : Hid ((W1.setCells g (L - 1) (List.replicate (L - (L - 1)) (.int .i64 0))).ownsRow 0 3 1 (.slice (some ⟨g, 0, none⟩) (L - 1) cap) (L - 1) (zc r) ∧ w.grownBy (W1.setCells g (L - 1) (List.replicate (L - (L - 1)) (.int .i64 0))) (some g)) := by
    refine ⟨rowIs_take (rowIs_setCells _ (L - 1) W1 _ hR1) hm (by omega) (by unfold maxLen; omega) (fun j hj => ?_), grown_sets g _ _ _ hg1⟩
    rw [if_neg (by omega), if_pos (by rw [zc_length]; omega), show j - (0 + 0 * 1) = j by omega, zc_at (by omega)]
    rfl
  have hW : Hid (W1 = w.drew.setCells g (0 + 0 * 1) (zc r)) := hW1
  clear hW1 hR1 hg1 hrd hrow hf
  have h1c : 1 ≤ cap := by omega
  have h1z : (1 : Int) ≤ (L : Int) := by omega
  have hLc : L - 1 ≤ cap := by omega
  have hLz : ((L - 1 : Nat) : Int) ≤ (L : Int) := by omega
  go_enter Tryd.func31, Tryd.ntmps31
  go_wp2_with fail
  go_region_law (refine step_append_room rfl (.tmp 22) (.tmp 25) 22 rfl 3 i0 1 Tryd.underlying22 hi0 hz1 g 0 0 cap (by simp [Act.eval, Act.put]) A (L - 1) (cap - 1) (zc r) (by simp [Act.eval, Act.put]) s1.out hsrc.out s2.out (by omega) s3.out ?_; rw [← hW.out])
  all_goals go_wp2
  all_goals go_ret
  all_goals exact ⟨by simp, by simpa using FIN.out⟩
end Go.Proofs.YtplplgpfglaajaaDoor
