/- Whether a number is a sum, or a process of a bank (package snap, isSum, has); what is sent waits last (send); what waits on a way, copied (package slices, Clone, at integers), and without its first (Delete). -/
import Derived.Test.YtplplgpfglaajaaDoorBkv
import Derived.Lib.SliceRun
import Derived.Deep.RegionLaw
import Derived.Deep.AppendLies
import Derived.WalkMore
namespace Go.Proofs.YtplplgpfglaajaaDoor
open Go.RowKit

theorem infoIn : (Tryd.prog.info? 3).map (fun i => (i.zero, i.size, i.bytes)) = some (some (.int .i64 0), 1, 8) := by kernel_rfl
/-- Is a number a sum? -/
def sumZ (x : Int) : Bool := decide (0 ≤ x ∧ x ≤ 1000)
set_option maxHeartbeats 400000 in
theorem isSum_ok (x : Int) (w : World) :
    Calls Tryd.prog 15 #[.int .i64 x] w fun e w' => e = .returned (.bool (sumZ x)) ∧ w = w' := by
  by_cases hx : x < 0
  · go_enter Tryd.func15, Tryd.ntmps15
    go_wp2
    go_ret
    exact ⟨bool_ret (by unfold sumZ; rw [eq_comm, decide_eq_false_iff_not]; omega), rfl⟩
  · have hx' : 0 ≤ x := by omega
    go_enter Tryd.func15, Tryd.ntmps15
    go_wp2
    go_ret
    exact ⟨bool_ret (by unfold sumZ; rw [Bool.eq_iff_iff]; simp [hx']), rfl⟩
set_option maxHeartbeats 400000 in
theorem has_ok {O : Nat → Prop} {S n : Nat} {b : M.Bk} (z : Int) (w : World) (h : BV O S n b w) :
    Calls Tryd.prog 21 #[.pointer (some ⟨S, 0, none⟩), .int .i64 z] w fun e w' => e = .returned (.bool (thingZ z n)) ∧ w = w' := by
  obtain ⟨Pb, v, h1, _⟩ := h
  have hc := h1.procs
  clear h1
  go_enter Tryd.func21, Tryd.ntmps21
  go_wp2_with fail
  refine (isThing_z z n w).mono ?_
  rintro e w' ⟨rfl, rfl⟩
  go_wp2_with fail
  go_ret
  exact ⟨rfl, rfl⟩
set_option maxRecDepth 100000 in
set_option maxHeartbeats 1000000 in
theorem send_ok {O : Nat → Prop} {S n : Nat} {b : M.Bk} (p q : Nat) (x : Int) (w : World) (h : BV O S n b w) (hO : ∀ k, w.heap.size ≤ k → O k) (hp : p < 5) (hq : q < 5) (hl : (b.wy p q).length ≤ 100) :
    Calls Tryd.prog 30 #[.pointer (some ⟨S, 0, none⟩), .int .i64 p, .int .i64 q, .int .i64 x] w fun e w' => (∃ u, e = .returned u) ∧ BV O S n (M.sendB b p q x) w' ∧ Frm O w w' := by
  obtain ⟨Pb, v, h1, h2⟩ := h
  obtain ⟨i0, hi0, hz0, hz1, hz2⟩ := info_parts infoIn
  have hown := h1.way q p hq hp
  have hc := h1.waits hq hp
  have hfr := h1.blk.frozen (1 + q * 15 + p * 3)
  have hne := h1.neS hq hp
  have hS := h1.ltS
  have FIN : Hid (∀ g cap w5, w5.ownsRow 0 3 1 (.slice (some ⟨g, 0, none⟩) ((b.wy p q).length + 1) cap) ((b.wy p q).length + 1) (zc (b.wy p q) ++ [.int .i64 x]) → (w.alloc (.cells #[.int .i64 x] 3)).grownBy w5 (v q p).ownBlock → ((v q p).ownBlock = some g ∨ g = w.heap.size + 1) →
      BV O S n (M.sendB b p q x) (w5.setCell ⟨S, 1 + q * 15 + p * 3, none⟩ (.slice (some ⟨g, 0, none⟩) ((b.wy p q).length + 1) cap)) ∧ Frm O w (w5.setCell ⟨S, 1 + q * 15 + p * 3, none⟩ (.slice (some ⟨g, 0, none⟩) ((b.wy p q).length + 1) cap))) := by
    intro g cap w5 ho hg hat
    have hOg : O g := by
      rcases hat with e | e
      · exact h2.v q p g hq hp e
      · exact hO g (by omega)
    refine ⟨⟨Pb, _, h1.setW hq hp (l := b.wy p q ++ [x]) (fun k hk e => ?_) ?_ (fun g' e => ?_), h2.set (fun g' e => ?_)⟩, ?_⟩
    · exact (hg.block k (Nat.lt_of_lt_of_le hk (by simp)) (Ne.symm e)).trans (Below.heap_alloc w _ k hk)
    · rw [zc_snoc, List.length_append]; exact ho
    · obtain rfl : g = g' := by simpa [Value.ownBlock] using e
      rcases hat with e | e
      · exact .inl e
      · exact .inr (by omega)
    · obtain rfl : g = g' := by simpa [Value.ownBlock] using e
      exact hOg
    · exact (((Frm.refl O w).alloc _).grown hg (fun k hk => h2.v q p k hq hp hk)).set (p := ⟨S, 1 + q * 15 + p * 3, none⟩) h2.s _
  obtain ⟨L, hL⟩ : ∃ L, L = (b.wy p q).length := ⟨_, rfl⟩
  rw [← hL] at hown hl FIN
  clear hL
  have hbS := h1.blk
  have hp' : (p : Int) < 5 := by omega
  have hq' : (q : Int) < 5 := by omega
  clear h1 h2 hO
  obtain ⟨V, hV⟩ : ∃ V, V = v q p := ⟨_, rfl⟩
  obtain ⟨l, hl'⟩ : ∃ l, l = b.wy p q := ⟨_, rfl⟩
  rw [← hV] at hown hc FIN hne
  rw [← hl'] at hown FIN
  clear hV hl'
  obtain ⟨ad, c0, rfl⟩ := owns_slice hown
  go_enter Tryd.func30, Tryd.ntmps30
  go_wp2_with (at_builtin; refine wpList_append_lies _ rfl _ _ 22 rfl 0 3 i0 (.int .i64 0) 1 8 Tryd.underlying22 hi0 hz0 hz1 hz2 rfl (by decide) (.slice ad L c0) L (zc l) rfl (hown.alloc _) ⟨w.heap.size, 0, none⟩ 1 1 [.int .i64 x] rfl rfl (World.news_of_block (cs := #[.int .i64 x]) (t := 3) (fr := (0, 0)) (heap_alloc_new w _)) (by simp [Value.oneCell']) (by omega) (by unfold maxLen; omega) (by omega) (Nat.zero_le _) (w.heap.size + 1) (by simp) ?_)
  intro g cap w5 ho hg hat _
  have hb5 := hbS.of_block (w' := w5) ((hg.block S (Nat.lt_of_lt_of_le hS (by simp)) (Ne.symm hne)).trans (Below.heap_alloc w _ S hS))
  have hc5 := hb5.cell (i := 1 + q * 15 + p * 3) (by omega)
  have hf5 := hb5.frozen (1 + q * 15 + p * 3)
  have F2 : Hid _ := FIN.out g cap w5 ho hg hat
  clear hc hfr hb5 hbS ho hg hat FIN hown
  go_wp2_with fail
  go_end0
  exact ⟨⟨_, rfl⟩, F2.out⟩
end Go.Proofs.YtplplgpfglaajaaDoor
