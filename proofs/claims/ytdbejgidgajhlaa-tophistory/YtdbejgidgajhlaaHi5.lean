/- From somewhere no row goes on: that is kept in mind (package hist, giveUp). -/
import Derived.Test.YtdbejgidgajhlaaHi4
import Derived.Deep.CutRange
import Derived.Deep.CutBlock
import Derived.RegionTactic
namespace Go.Proofs.Ytdbejgidgajhlaa
open Go.RowKit

abbrev vaC (x y z : Nat) : Array Value := #[.int .i64 ((x : Nat) : Int), .int .i64 ((y : Nat) : Int), .int .i64 ((z : Nat) : Int)]
set_option maxRecDepth 100000 in
set_option maxHeartbeats 4000000 in
theorem giveUp_new {O : Nat → Prop} {S c Mb : Nat} {hv fv v : Value} {t : List Nat} {L : Nat → List (List Nat)} {ib : Nat → Option Nat} (d x y z : Nat) (w : World) (h : Sr O S hv fv t L c v Mb ib w) (hd : d < 1024) (hib : ib d = none)
    (hx : x < 4611686018427387904) (hy : y < 4611686018427387904) (hz : z < 4611686018427387904) (hc : c ≤ 70368744177664) (hO : ∀ k, w.heap.size ≤ k → O k) :
    Calls Try.prog 19 #[.pointer (some ⟨S, 0, none⟩), opsV d, vaV x y z] w fun e w' => (∃ u, e = .returned u) ∧ SV O S hv fv t (moreL L d [x, y, z]) (c + 2) w' ∧ Frm O w w' := by
  obtain ⟨w1, hw1⟩ : ∃ w1, (w.alloc (.cells (opsC d) 49)).alloc (.cells (vaC x y z) 51) = w1 := ⟨_, rfl⟩
  have hB1 : Below w.heap.size w w1 := hw1 ▸ bel_al (bel_al (Below.refl _ _) _) _
  have s1 : w1.heap.size = w.heap.size + 2 := by subst hw1; simp
  have b4 : Blk w1 w.heap.size (opsC d) 49 := hw1 ▸ (Blk.new _ _ _).alloc _
  have b5 : Blk w1 (w.heap.size + 1) (vaC x y z) 51 := by
    have := Blk.new (w.alloc (.cells (opsC d) 49)) (vaC x y z) 51
    rw [hw1] at this
    simpa using this
  have h1 := h.later hB1
  have hl1 : (Instr.lookup 44 (.map (some Mb)) (opsV d) false).run Try.prog w1.drew = .ok (.map none) w1.drew := by
    have := om_look (w := w1.drew) h1.om hd
    rwa [hib] at this
  have hmk := run_make_vset
  have hbe := run_eql_nomap
  have hS3 := h1.blk.cell 3
  have hSl := h1.blk.lt
  have o0 := b4.cell 0
  have o1 := b4.cell 1
  have o2 := b4.cell 2
  have o3 := b4.cell 3
  have o4 := b4.cell 4
  have o5 := b4.cell 5
  have o6 := b4.cell 6
  have o7 := b4.cell 7
  have o8 := b4.cell 8
  have o9 := b4.cell 9
  have l4 := b4.lt
  go_enter Try.func19, Try.ntmps19
  go_wp2_with fail
  go_still_tail 6, (by kernel_rfl)
  go_wp2_with fail
  have hom1 : Om ib c Mb (w1.alloc (.map #[] 0)) := h1.om.at_ (Below.heap_alloc _ _ _ h1.om.lt)
  obtain ⟨w2, hst, hom2, hg2⟩ := om_store (w := (w1.alloc (.map #[] 0)).drew.drew) hom1 (by unfold maxLen; omega) hd (w.heap.size + 2)
  have hz1 := h1.blk.alloc (.map #[] 0)
  have hz2 := b4.alloc (.map #[] 0)
  have hS3' := hz1.cell 3
  have o0' := hz2.cell 0
  have o1' := hz2.cell 1
  have o2' := hz2.cell 2
  have o3' := hz2.cell 3
  have o4' := hz2.cell 4
  have o5' := hz2.cell 5
  have o6' := hz2.cell 6
  have o7' := hz2.cell 7
  have o8' := hz2.cell 8
  have o9' := hz2.cell 9
  clear hz1 hz2
  go_region
  have hN : w1.heap.size = w.heap.size + 2 := s1
  have k2 : ∀ k, k < w1.heap.size → k ≠ Mb → w2.heap[k]? = w1.heap[k]? := fun k hk hne => (hg2.block k (Nat.lt_of_lt_of_le hk (by simp)) (fun e => hne (Option.some.inj e))).trans (Below.heap_alloc w1 _ k hk)
  have hkv2 : Kv [] c (w.heap.size + 2) w2 := by
    have := kv_made w1 c
    rw [s1] at this
    refine this.at_ (hg2.block _ (by simp; omega) (fun e => ?_))
    have h8 := h1.om.lt
    have := Option.some.inj e
    omega
  have h2 := h1.open hib (N := w.heap.size + 2) (by omega) (hO _ (by omega)) hom2 hkv2 k2
  obtain ⟨ib2, hib2e⟩ : ∃ f, f = fun e => if e = d then some (w.heap.size + 2) else ib e := ⟨_, rfl⟩
  have hib2 : ib2 d = some (w.heap.size + 2) := by rw [hib2e]; show (if d = d then some (w.heap.size + 2) else ib d) = _; rw [if_pos rfl]
  rw [← hib2e] at h2
  have b42 : Blk w2 w.heap.size (opsC d) 49 := (k2 _ l4 (fun e => by have := h.om.lt; omega)).trans b4
  have b52 : Blk w2 (w.heap.size + 1) (vaC x y z) 51 := (k2 _ b5.lt (fun e => by have := h.om.lt; omega)).trans b5
  have hF2 : Frm O w w2 := ((Frm.of_below hB1).alloc _).drew.drew.grown hg2 (fun k e => by cases e; exact h.oM)
  have hkd : Kv (L d) (c + 1) (w.heap.size + 2) w2.drew := h2.kv d _ hib2
  obtain ⟨w3, hst3, hkv3, hg3⟩ := kv_store hkd (by unfold maxLen; omega) hx hy hz
  have h3 := h2.add (w2 := w3) hib2 hkv3 (fun k hk hne => hg3.block k hk (fun e => hne (Option.some.inj e)))
  have hF3 : Frm O w w3 := hF2.drew.grown hg3 (fun k e => by cases e; exact hO _ (by omega))
  have HEND : Hid (SV O S hv fv t (moreL L d [x, y, z]) (c + 2) w3 ∧ Frm O w w3) := ⟨⟨v, Mb, _, h3⟩, hF3⟩
  have hl2 : (Instr.lookup 44 (.map (some Mb)) (opsV d) false).run Try.prog w2.drew = .ok (.map (some (w.heap.size + 2))) w2.drew := by
    have := om_look (w := w2.drew) h2.om hd
    rwa [hib2] at this
  clear hS3 o0 o1 o2 o3 o4 o5 o6 o7 o8 o9 hS3' o0' o1' o2' o3' o4' o5' o6' o7' o8' o9' hst hmk hbe hl1 hib2 hF2 hF3 hkv2 k2 hg2 hg3 hkv3 h3 hkd hom1 hom2
  have hS3 := h2.blk.cell 3
  have o0 := b42.cell 0
  have o1 := b42.cell 1
  have o2 := b42.cell 2
  have o3 := b42.cell 3
  have o4 := b42.cell 4
  have o5 := b42.cell 5
  have o6 := b42.cell 6
  have o7 := b42.cell 7
  have o8 := b42.cell 8
  have o9 := b42.cell 9
  have v0 := b52.cell 0
  have v1 := b52.cell 1
  have v2 := b52.cell 2
  clear h1 h2 b4 b5 b42 b52 h hB1
  go_wp2_with fail
  go_still_tail 8, (by kernel_rfl)
  go_wp2_with fail
  go_end0
  exact ⟨⟨_, rfl⟩, HEND.out⟩
set_option maxRecDepth 100000 in
set_option maxHeartbeats 4000000 in
theorem giveUp_old {O : Nat → Prop} {S c Mb N : Nat} {hv fv v : Value} {t : List Nat} {L : Nat → List (List Nat)} {ib : Nat → Option Nat} (d x y z : Nat) (w : World) (h : Sr O S hv fv t L c v Mb ib w) (hd : d < 1024) (hib : ib d = some N)
    (hx : x < 4611686018427387904) (hy : y < 4611686018427387904) (hz : z < 4611686018427387904) (hc : c ≤ 70368744177664) :
    Calls Try.prog 19 #[.pointer (some ⟨S, 0, none⟩), opsV d, vaV x y z] w fun e w' => (∃ u, e = .returned u) ∧ SV O S hv fv t (moreL L d [x, y, z]) (c + 2) w' ∧ Frm O w w' := by
  obtain ⟨w1, hw1⟩ : ∃ w1, (w.alloc (.cells (opsC d) 49)).alloc (.cells (vaC x y z) 51) = w1 := ⟨_, rfl⟩
  have hB1 : Below w.heap.size w w1 := hw1 ▸ bel_al (bel_al (Below.refl _ _) _) _
  have s1 : w1.heap.size = w.heap.size + 2 := by subst hw1; simp
  have b4 : Blk w1 w.heap.size (opsC d) 49 := hw1 ▸ (Blk.new _ _ _).alloc _
  have b5 : Blk w1 (w.heap.size + 1) (vaC x y z) 51 := by
    have := Blk.new (w.alloc (.cells (opsC d) 49)) (vaC x y z) 51
    rw [hw1] at this
    simpa using this
  have h1 := h.later hB1
  have hl1 : (Instr.lookup 44 (.map (some Mb)) (opsV d) false).run Try.prog w1.drew = .ok (.map (some N)) w1.drew := by
    have := om_look (w := w1.drew) h1.om hd
    rwa [hib] at this
  obtain ⟨wd, hwd⟩ : ∃ wd, w1.drew = wd := ⟨_, rfl⟩
  have hl2 : (Instr.lookup 44 (.map (some Mb)) (opsV d) false).run Try.prog wd.drew = .ok (.map (some N)) wd.drew := by
    subst hwd
    have := om_look (w := w1.drew.drew) h1.om hd
    rwa [hib] at this
  have hkd : Kv (L d) c N wd.drew := by subst hwd; exact h1.kv d _ hib
  obtain ⟨w3, hst3, hkv3, hg3⟩ := kv_store hkd (by unfold maxLen; omega) hx hy hz
  have h3 := h1.add (w2 := w3) hib hkv3 (fun k hk hne => by subst hwd; exact hg3.block k hk (fun e => hne (Option.some.inj e)))
  have hF3 : Frm O w w3 := Frm.grown (by subst hwd; exact (Frm.of_below hB1).drew.drew) hg3 (fun k e => by cases e; exact h.oB d _ hib)
  have HEND : Hid (SV O S hv fv t (moreL L d [x, y, z]) (c + 2) w3 ∧ Frm O w w3) := ⟨⟨v, Mb, _, h3.mono (Nat.le_succ _)⟩, hF3⟩
  have hbe := run_eql_map N
  have hS3 := h1.blk.cell 3
  have hSl := h1.blk.lt
  have o0 := b4.cell 0
  have o1 := b4.cell 1
  have o2 := b4.cell 2
  have o3 := b4.cell 3
  have o4 := b4.cell 4
  have o5 := b4.cell 5
  have o6 := b4.cell 6
  have o7 := b4.cell 7
  have o8 := b4.cell 8
  have o9 := b4.cell 9
  have v0 := b5.cell 0
  have v1 := b5.cell 1
  have v2 := b5.cell 2
  have hwz : ∀ a, wd.cell? a = w1.cell? a := fun a => by subst hwd; rfl
  have q3 := (hwz _).trans hS3
  have p0 := (hwz _).trans o0
  have p1 := (hwz _).trans o1
  have p2 := (hwz _).trans o2
  have p3 := (hwz _).trans o3
  have p4 := (hwz _).trans o4
  have p5 := (hwz _).trans o5
  have p6 := (hwz _).trans o6
  have p7 := (hwz _).trans o7
  have p8 := (hwz _).trans o8
  have p9 := (hwz _).trans o9
  have u0 := (hwz _).trans v0
  have u1 := (hwz _).trans v1
  have u2 := (hwz _).trans v2
  have HWD : Hid (w1.drew = wd) := hwd
  clear hwd hwz
  clear hg3 h3 hF3 hkv3 hkd h h1 b4 b5 hB1
  go_enter Try.func19, Try.ntmps19
  go_wp2_with fail
  go_still_tail 6, (by kernel_rfl)
  go_wp2_with fail
  simp only [HWD.out]
  go_still_tail 8, (by kernel_rfl)
  go_wp2_with fail
  go_end0
  exact ⟨⟨_, rfl⟩, HEND.out⟩
theorem giveUp_ok {O : Nat → Prop} {S c : Nat} {hv fv : Value} {t : List Nat} {L : Nat → List (List Nat)} (d x y z : Nat) (w : World) (h : SV O S hv fv t L c w) (hd : d < 1024)
    (hx : x < 4611686018427387904) (hy : y < 4611686018427387904) (hz : z < 4611686018427387904) (hc : c ≤ 70368744177664) (hO : ∀ k, w.heap.size ≤ k → O k) :
    Calls Try.prog 19 #[.pointer (some ⟨S, 0, none⟩), opsV d, vaV x y z] w fun e w' => (∃ u, e = .returned u) ∧ SV O S hv fv t (moreL L d [x, y, z]) (c + 2) w' ∧ Frm O w w' := by
  obtain ⟨v, Mb, ib, h⟩ := h
  cases hib : ib d with
  | none => exact giveUp_new d x y z w h hd hib hx hy hz hc hO
  | some N => exact giveUp_old d x y z w h hd hib hx hy hz hc
end Go.Proofs.Ytdbejgidgajhlaa
