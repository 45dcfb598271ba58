/- Whether one was stuck there already (whensteadref3, has). -/
import Derived.Test.YtcmlkioaclkgnaaDoorRefH2
import Derived.BigRegion
namespace Go.Proofs.YtcmlkioaclkgnaaDoor
open Go.RowKit

theorem take_mem {L : List (List Nat)} {i : Nat} (hi : i < L.length) (x : List Nat) : x ∈ L.take (i + 1) ↔ x ∈ L.take i ∨ x = L[i]?.getD [] := by
  rw [List.take_add_one, List.getElem?_eq_getElem hi, List.mem_append]
  simp
set_option maxRecDepth 100000 in
set_option maxHeartbeats 4000000 in
theorem has_ok {O : Nat → Prop} {X N c : Nat} {L : Nat → List (List Nat)} (d x y z : Nat) (w : World) (h : SX O X N L c w) (hd : d < N) (hc : c ≤ 70368744177664) :
    Calls Tryd.prog 23 #[.pointer (some ⟨X, 0, none⟩), .int .i64 (d : Nat), .agg (tvC x y z)] w fun e w' => e = .returned (.bool (decide ([x, y, z] ∈ L d))) ∧ Below w.heap.size w w' := by
  obtain ⟨G, f, h0⟩ := h
  obtain ⟨w1, hw1⟩ : ∃ w1, w.alloc (.cells (tvC x y z) 46) = w1 := ⟨_, rfl⟩
  have hB1 : Below w.heap.size w w1 := hw1 ▸ bel_al (Below.refl _ _) _
  have b5 : Blk w1 w.heap.size (tvC x y z) 46 := hw1 ▸ Blk.new _ _ _
  have h1 := h0.later hB1
  have hlen := h1.len d hd
  have htri := h1.tri d hd
  have hrow := h1.own d hd
  obtain ⟨K, hK⟩ : ∃ K, L d = K := ⟨_, rfl⟩
  rw [hK] at hlen htri hrow ⊢
  obtain ⟨V, hV⟩ : ∃ V, f d = V := ⟨_, rfl⟩
  rw [hV] at hrow
  obtain ⟨pv, cv, rfl⟩ := owns_slice hrow
  have hdN : (d : Int) < (N : Int) := by omega
  have q0 := h1.blk.cell 0
  have qd := h1.row.cell (i := d) hd
  rw [hV] at qd
  have hXl := h1.blk.lt
  have hGl := h1.row.lt
  obtain ⟨m, hm⟩ : ∃ m, K.length = m := ⟨_, rfl⟩
  have HM : Hid (K.length = m) := hm
  rw [hm] at hlen hrow qd
  have hTRI : Hid (∀ t, t ∈ K → t.length = 3) := htri
  have H1 : Hid (Sx O X G N f L c w1) := h1
  have HB1 : Hid (Below w.heap.size w w1) := hB1
  clear hm htri h1 h0 hB1 hK hV
  go_enter Tryd.func23, Tryd.ntmps23
  go_wp2_with fail
  go_loopw [7] (fun u wr => ∃ i : Nat, u = .int .i64 i ∧ i ≤ m ∧ Hid ([x, y, z] ∉ K.take i) ∧ Below w1.heap.size w1 wr) (fun u _ => m - (intOf u).toNat)
  case atStart => exact ⟨0, rfl, Nat.zero_le _, (show _ ∉ _ by simp), Below.refl _ _⟩
  case round =>
    obtain ⟨i, rfl, hi, hno, hB⟩ := hrel
    have q0 := (H1.out.blk.below hB hXl).cell 0
    have qd := (hB.cell (p := ⟨G, d, none⟩) hGl).trans qd
    have b5r := b5.below hB b5.lt
    have v0 := b5r.cell 0
    have v1 := b5r.cell 1
    have v2 := b5r.cell 2
    have HBW : Hid (Below w.heap.size w wr) := bel_on HB1.out hB
    clear b5r
    by_cases hlt : i < m
    · have hrow2 := owns_below hrow hB
      have hpos : 0 < m := by omega
      rcases hrow2.2 with ⟨_, h2⟩ | ⟨g, cap', cur, h2, hb, hg, h3, h4, h5, h6⟩
      · omega
      · cases h2
        have hil : i < K.length := by rw [HM.out]; exact hlt
        obtain ⟨e0, e1, e2⟩ := tcells_at K i hil
        have k0 : wr.cell? ⟨g, i * 3, none⟩ = _ := (hrow2.cellAt (i * 3) (by omega)).trans e0
        have k1 : wr.cell? ⟨g, i * 3 + 1, none⟩ = _ := (hrow2.cellAt (i * 3 + 1) (by omega)).trans e1
        have k2 : wr.cell? ⟨g, i * 3 + 2, none⟩ = _ := (hrow2.cellAt (i * 3 + 2) (by omega)).trans e2
        have hgl : g < wr.heap.size := (Array.getElem?_eq_some_iff.1 hg).1
        obtain ⟨t, ht⟩ : ∃ t, K[i]?.getD [] = t := ⟨_, rfl⟩
        rw [ht] at k0 k1 k2
        have ht3 : t.length = 3 := hTRI.out t (by rw [← ht, List.getElem?_eq_getElem hil]; exact List.getElem_mem hil)
        have HT : Hid (K[i]?.getD [] = t) := ht
        have HT3 : Hid (t = [M.row t 0, M.row t 1, M.row t 2]) := tri_eq ht3
        obtain ⟨a, ha⟩ : ∃ a, M.row t 0 = a := ⟨_, rfl⟩
        obtain ⟨b, hb'⟩ : ∃ b, M.row t 1 = b := ⟨_, rfl⟩
        obtain ⟨cc, hcc⟩ : ∃ cc, M.row t 2 = cc := ⟨_, rfl⟩
        rw [ha] at k0
        rw [hb'] at k1
        rw [hcc] at k2
        have HTE : Hid (t = [a, b, cc]) := by show _ = _; rw [← ha, ← hb', ← hcc]; exact HT3.out
        have hq := fun W => eql_tri a b cc x y z W
        have him : (i : Int) < (m : Int) := by omega
        clear ha hb' hcc ht ht3 e0 e1 e2 hrow2 h3 h4 h5 h6 hg hb
        by_cases heq : [a, b, cc] = [x, y, z]
        · rw [decide_eq_true heq] at hq
          have HIN : Hid ([x, y, z] ∈ K) := by
            show _ ∈ _
            rw [← heq, ← HTE.out, ← HT.out, List.getElem?_eq_getElem hil]
            exact List.getElem_mem hil
          clear heq
          go_wp2_with fail
          go_big_quiet (fail)
          go_wp2_with fail
          go_ret
          exact ⟨by rw [decide_eq_true HIN.out]; rfl, bel_drN HBW.out _⟩
        · rw [decide_eq_false heq] at hq
          have HNX : Hid ([x, y, z] ∉ K.take (i + 1)) := by
            show _ ∉ _
            rw [take_mem hil]
            rintro (h | h)
            · exact hno.out h
            · rw [HT.out, HTE.out] at h
              exact heq h.symm
          clear heq
          go_wp2_with fail
          go_big_quiet (fail)
          go_wp2_with fail
          go_roundw
          case rel => exact ⟨i + 1, by go_num, by omega, HNX, bel_drN hB _⟩
          case measure => simp [intOf]; omega
    · obtain rfl : i = m := by omega
      have HNO : Hid ([x, y, z] ∉ K) := by
        have := hno.out
        rw [← HM.out, List.take_length] at this
        exact this
      clear hno
      go_wp2_with fail
      go_ret
      exact ⟨by rw [decide_eq_false HNO.out]; rfl, HBW.out⟩
end Go.Proofs.YtcmlkioaclkgnaaDoor
