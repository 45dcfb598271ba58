/- The least of all words that are the same (package fold, leastOf); what lay in memory lies as it lay. -/
import Derived.Test.YtejnjokjkinpkaaDoorFo2
import Derived.Test.YtejnjokjkinpkaaDoorOwnI
import Derived.Laws.CopyOwn
namespace Go.Proofs.YtejnjokjkinpkaaDoor
open Go.RowKit

theorem icells_splice (l xs : List Nat) (k : Nat) : splice (icells l) k (icells xs) = icells (splice l k xs) := by
  unfold splice icells
  simp
namespace M
theorem splice_set {l : List Nat} {k t x : Nat} (h : k + t < l.length) (hx : row l (k + t) = x) : (splice l (k + 1) ((l.drop k).take t)).set k x = drawn l k t := by
  have hkl : k < l.length := by omega
  have hl : ((l.drop k).take t).length = t := by simp; omega
  unfold splice drawn
  rw [hl, hx]
  have e1 : l.take (k + 1) = l.take k ++ [row l k] := take_row hkl
  rw [e1, List.append_assoc, List.set_append_right _ _ (by simp; omega)]
  have e2 : (l.take k).length = k := by simp; omega
  rw [e2, Nat.sub_self]
  have e3 : l.drop (k + 1 + t) = (l.drop k).drop (t + 1) := by rw [List.drop_drop]; congr 1; omega
  rw [e3]
  rfl
end M
set_option maxRecDepth 100000 in
set_option maxHeartbeats 4000000 in
theorem lof_ok (F u : List Nat) (p : Option Addr) (n cap : Nat) (q : Option Addr) (m cap2 : Nat) (w : World) (hl : F.length = n) (hF : FOk F) (hc : HasI (ints F) p w) (hl2 : u.length = m) (hU : WOk F u) (hd : HasI (ints u) q w) :
    Calls Tryd.prog 51 #[.slice p n cap, .slice q m cap2] w fun e w' => ∃ A, e = .returned (.slice (some ⟨A, 0, none⟩) m m) ∧ RowAt 3 w' A (M.lword (M.fr F) n u) ∧ w.heap.size ≤ A ∧ Below w.heap.size w w' := by
  have hm : m ≤ 24 := hl2 ▸ hU.len
  have hn6 := hF.len
  have hmk0 := run_make_row' (P := Tryd.prog) 22 3 (.int .i64 0) 8 Tryd.underlying22 Tryd.info3 rfl .i64 .i64 m (by omega) (by omega)
  obtain ⟨W1, hcp, hg1, hgr⟩ := run_copy_whole (P := Tryd.prog) (w.alloc (.cells (madeCells #[.int .i64 0] m) 3)) 22 22 3 3 Tryd.underlying22 Tryd.info3s m q cap2 w.heap.size (madeCells #[.int .i64 0] m) 3 (World.alloc_heap_new w _) (size_madeCells _ _) (u.map fun x => Value.int .i64 ((x : Nat) : Int)) (by simp [hl2]) (by
      intro h0
      obtain ⟨b, off, rfl, hb, -⟩ := hd 0 (by rw [ints_length]; omega)
      refine ⟨_, rfl, fun j v hj => ?_⟩
      have hjl : j < u.length := by
        have := (List.getElem?_eq_some_iff.1 hj).1; simpa using this
      obtain ⟨b', off', e, hb', hcell⟩ := hd j (by rw [ints_length]; exact hjl)
      cases e
      rw [ints_get] at hcell
      have hv : v = .int .i64 (M.row u j : Nat) := by
        rw [List.getElem?_map, List.getElem?_eq_getElem hjl] at hj
        simp [M.row, hjl] at hj ⊢
        exact hj.symm
      subst hv
      rw [addr_add, World.cell?_alloc_lt _ _ _ (by simpa using hb)]
      exact hcell) (by simp [Value.oneCell'])
  have hrow0 : RowAt 3 W1 w.heap.size u := hg1
  have hB1 : Below w.heap.size w W1 := ((Below.refl _ w).alloc (Nat.le_refl _) _).grown hgr (by simp) (fun k e => by cases e; exact Nat.le_refl _)
  have hst := M.LwAt.start (F := F) (m := n) (w := u) (by rw [← hl]; exact hU.lt)
  have HST : Hid (M.LwAt F n u u 0) := hst
  clear hg1 hgr hst hd
  go_enter Tryd.func51, Tryd.ntmps51
  go_wp2_with fail
  go_loopw [17] (fun v wr => ∃ (k : Nat) (l : List Nat), v = .int .i64 k ∧ k ≤ m ∧ l.length = m ∧ Hid (M.LwAt F n u l k) ∧ RowAt 3 wr w.heap.size l ∧ Below w.heap.size w wr) (fun v _ => m - (intOf v).toNat)
  case atStart => exact ⟨0, u, rfl, Nat.zero_le _, hl2, HST, hrow0, hB1⟩
  case round =>
    clear hrow0 hB1 hcp HST hmk0
    obtain ⟨k, l, rfl, hk, hll, hL, hrow, hB⟩ := hrel
    by_cases hlt : k < m
    · obtain ⟨s1, s2⟩ := M.LwAt.step hF.fr hL.out (by omega)
      rw [hl2] at s1 s2
      have hlm := hL.out.2.2.1
      obtain ⟨t, ht⟩ : ∃ t, M.lat F (l.drop k) (m - k) = t := ⟨_, rfl⟩
      rw [ht] at s1 s2
      have hlf := fun W p' (h : HasI (ints F) p W) c h2 => lfirst_ok F (l.drop k) p n cap p' (m - k) c W hl hF h (by rw [List.length_drop]; omega) (by omega) (by omega) (fun x hx => hlm x (List.mem_of_mem_drop hx)) h2
      rw [ht] at hlf
      have HS : Hid (M.LwAt F n u (M.drawn l k t) (k + 1)) := s2
      have hdr : HasI (ints (l.drop k)) (some ⟨w.heap.size, k, none⟩) wr := fun j hj => by
        rw [ints_length, List.length_drop] at hj
        refine ⟨w.heap.size, k, rfl, hrow.lt, ?_⟩
        rw [ints_get, M.row_drop]
        exact hrow.cell (by omega)
      have HDR : Hid (HasI (ints (l.drop k)) (some ⟨w.heap.size, k, none⟩) wr) := hdr
      have HRW : Hid (RowAt 3 wr w.heap.size l) := hrow
      obtain ⟨e, hke⟩ : ∃ e, k + t = e := ⟨_, rfl⟩
      have hck := hrow.cell (k := e) (by omega)
      clear s2 hlm ht
      have hcB := hc.later hB
      have hkm : (k : Int) < (m : Int) := by omega
      have hsum : (k : Int) + (t : Int) = (e : Int) := by omega
      have hem : (e : Int) < (m : Int) := by omega
      have hem' : e < m := by omega
      obtain ⟨xs, hxs⟩ : ∃ xs, (l.drop k).take t = xs := ⟨_, rfl⟩
      have hxl : xs.length = t := by rw [← hxs, List.length_take, List.length_drop]; omega
      have hxr : ∀ j, j < t → M.row xs j = M.row l (k + j) := fun j hj => by rw [← hxs, ← M.row_drop]; unfold M.row; rw [List.getElem?_take, if_pos hj]
      obtain ⟨c, hcc⟩ : ∃ c, M.row l e = c := ⟨_, rfl⟩
      have hH : Hid ((splice l (k + 1) xs).set k c = M.drawn l k t) := by show _ = _; rw [← hxs]; exact M.splice_set (by omega) (by rw [hke]; exact hcc)
      rw [hcc] at hck
      obtain ⟨cs, hcs⟩ : ∃ cs, icells xs = cs := ⟨_, rfl⟩
      have hcl : cs.length = t := by rw [← hcs]; simp [icells, hxl]
      have hcw : Hid (∀ (W : World), RowAt 3 W w.heap.size l → ∀ j v, cs[j]? = some v → W.cell? ((⟨w.heap.size, k, none⟩ : Addr).add j) = some v) := fun W hW j v hj => by
        have hjt : j < t := by rw [← hcl]; exact (List.getElem?_eq_some_iff.1 hj).1
        rw [addr_add, hW.cell (k := k + j) (by omega), ← hxr j hjt, ← hj, ← hcs]
        unfold icells M.row
        rw [List.getElem?_map, List.getElem?_eq_getElem (by omega)]
        rfl
      have h1c : Hid (∀ v ∈ cs, v.oneCell' = true) := by show ∀ v ∈ cs, _; rw [← hcs]; simp [icells, Value.oneCell']
      obtain ⟨cl, hclw⟩ : ∃ cl, icells l = cl := ⟨_, rfl⟩
      have hcll : cl.length = m := by rw [← hclw]; simp [icells, hll]
      have hsp : Hid (splice cl (k + 1) cs = icells (splice l (k + 1) xs)) := by show _ = _; rw [← hclw, ← hcs]; exact icells_splice l xs (k + 1)
      have hspl : (splice l (k + 1) xs).length = m := by rw [length_splice _ _ _ (by rw [hxl]; omega)]; exact hll
      have hG : Hid (∀ N, (wr.drewN N).heap[w.heap.size]? = some (.cells cl.toArray 3 (0, 0))) := fun N => by rw [← hclw]; exact hrow.below (below_drewN _ N) hrow.lt
      obtain ⟨nl, hnl⟩ : ∃ nl, splice l (k + 1) xs = nl := ⟨_, rfl⟩
      rw [hnl] at hH hsp hspl
      obtain ⟨k1, hk1⟩ : ∃ k1, k + 1 = k1 := ⟨_, rfl⟩
      rw [hk1] at hsp
      obtain ⟨e1, he1⟩ : ∃ e1, e + 1 = e1 := ⟨_, rfl⟩
      have hw1 : IntKind.i64.wrap ((k : Int) + 1) = (k1 : Int) := by have := i64_wrap_nat (k + 1) (by omega); rw [hk1] at this; rw [← this]; congr 1; omega
      have hw2 : IntKind.i64.wrap ((e : Int) + 1) = (e1 : Int) := by have := i64_wrap_nat (e + 1) (by omega); rw [he1] at this; rw [← this]; congr 1; omega
      have i1 : (e1 : Int) ≤ (m : Int) := by omega
      have i2 : (k1 : Int) ≤ (e1 : Int) := by omega
      have i3 : (k : Int) ≤ (e : Int) := by omega
      have i4 : (e : Int) ≤ (m : Int) := by omega
      have i1' : e1 ≤ m := by omega
      have i2' : k1 ≤ e1 := by omega
      have i3' : k ≤ e := by omega
      have i4' : e ≤ m := by omega
      have x1 : max (e1 : Int) 0 = (e1 : Int) := by omega
      have x2 : max (e : Int) 0 = (e : Int) := by omega
      have hmk : (m = k) = False := by simp; omega
      clear hxs hxr hcs hclw hnl hcc hdr hrow
      go_wp2_with fail
      refine (hlf _ _ hcB _ HDR.out).mono ?_
      rintro ee w2 ⟨rfl, rfl⟩
      go_wp2_with fail
      have hfin : ∀ w4 : World, Hid (w4.heap[w.heap.size]? = some (.cells (splice cl k1 cs).toArray 3 (0, 0))) → RowAt 3 w4 w.heap.size nl := fun w4 h => by have := h.out; rw [hsp.out] at this; exact this
      have HF : Hid (∀ w4 : World, _ → RowAt 3 w4 w.heap.size nl) := hfin
      clear hfin
      by_cases hkm1 : k1 = m
      · obtain rfl : t = 0 := by omega
        obtain rfl : k = e := by omega
        obtain rfl : k1 = e1 := by omega
        obtain rfl : k1 = m := hkm1
        clear hw2
        go_still_tail 10, (by kernel_rfl)
        refine wpList_copy_splice rfl (.tmp 36) (.tmp 40) 22 22 rfl 3 Tryd.underlying22 Tryd.info3s _ _ 0 _ 0 _ (by rfl) (by rfl) w.heap.size k1 cl 3 (hG.out 1) cs (by rw [hcl]; rfl) (fun h => absurd h (by omega)) (by omega) h1c.out w.heap.size w (bel_drN hB 1) (Nat.le_refl _) ?_
        intro w4 HG4 hB4
        have hr4 := HF.out w4 HG4
        have hf4 := hr4.frozen k
        have hc4 := hr4.cell (k := k) (by omega)
        have hl4 := hr4.lt
        have hd4 : RowAt 3 (w4.setCell ⟨w.heap.size, k, none⟩ (.int .i64 (c : Nat))) w.heap.size (M.drawn l k 0) := by rw [← hH.out]; exact hr4.set k c
        have HD4 : Hid (RowAt 3 (w4.setCell ⟨w.heap.size, k, none⟩ (.int .i64 (c : Nat))) w.heap.size (M.drawn l k 0)) := hd4
        have HB4 : Hid (Below w.heap.size w (w4.setCell ⟨w.heap.size, k, none⟩ (.int .i64 (c : Nat)))) := hB4.setCell (p := ⟨w.heap.size, k, none⟩) (Nat.le_refl _) _
        have HLN : Hid ((M.drawn l k 0).length = k1) := by show _ = _; rw [← hH.out, List.length_set]; exact hspl
        clear hd4 hr4 hB4 HG4
        go_wp2_with fail
        go_roundw
        case rel => exact ⟨k + 1, M.drawn l k 0, by go_num, by omega, HLN.out, HS, HD4.out, HB4.out⟩
        case measure => simp [intOf]; omega
      · have hmk1 : (m = k1) = False := by simp; omega
        go_still_tail 10, (by kernel_rfl)
        refine wpList_copy_splice rfl (.tmp 36) (.tmp 40) 22 22 rfl 3 Tryd.underlying22 Tryd.info3s _ _ (e1 - k1) _ (e - k) _ (by rfl) (by rfl) w.heap.size k1 cl 3 (hG.out 1) cs (by rw [hcl]; show t = min (e - k) (e1 - k1); omega) (fun h => ⟨rfl, _, rfl, hcw.out _ (HRW.out.below (below_drewN _ 1) HRW.out.lt)⟩) (by omega) h1c.out w.heap.size w (bel_drN hB 1) (Nat.le_refl _) ?_
        intro w4 HG4 hB4
        have hr4 := HF.out w4 HG4
        have hf4 := hr4.frozen k
        have hc4 := hr4.cell (k := k) (by omega)
        have hl4 := hr4.lt
        have hd4 : RowAt 3 (w4.setCell ⟨w.heap.size, k, none⟩ (.int .i64 (c : Nat))) w.heap.size (M.drawn l k t) := by rw [← hH.out]; exact hr4.set k c
        have HD4 : Hid (RowAt 3 (w4.setCell ⟨w.heap.size, k, none⟩ (.int .i64 (c : Nat))) w.heap.size (M.drawn l k t)) := hd4
        have HB4 : Hid (Below w.heap.size w (w4.setCell ⟨w.heap.size, k, none⟩ (.int .i64 (c : Nat)))) := hB4.setCell (p := ⟨w.heap.size, k, none⟩) (Nat.le_refl _) _
        have HLN : Hid ((M.drawn l k t).length = m) := by show _ = _; rw [← hH.out, List.length_set]; exact hspl
        clear hd4 hr4 hB4 HG4
        go_wp2_with fail
        go_roundw
        case rel => exact ⟨k + 1, M.drawn l k t, by go_num, by omega, HLN.out, HS, HD4.out, HB4.out⟩
        case measure => simp [intOf]; omega
    · obtain rfl : k = m := by omega
      have hlw : Hid (l = M.lword (M.fr F) n u) := (by have := hL.out; rw [← hl2] at this; exact this.done : l = M.lword (M.fr F) n u)
      go_wp2_with fail
      go_ret
      exact ⟨w.heap.size, rfl, by rw [← hlw.out]; exact hrow, Nat.le_refl _, hB⟩
end Go.Proofs.YtejnjokjkinpkaaDoor
