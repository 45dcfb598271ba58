/- A commit (package view, commit): whether another one committed, unseen, what it wrote. -/
import Derived.Test.YtajiichehffaaaaDoorBVd
import Derived.WalkMore
namespace Go.Proofs.YtajiichehffaaaaDoor
open Go.RowKit
theorem infoV : (Tryd.prog.info? 3).map (fun i => (i.zero, i.size, i.bytes)) = some (some (.int .i64 0), 1, 8) := by kernel_rfl
theorem infoV_parts {P : Program} {t : TypeId} {z : Value} {s b : Nat} (h : (P.info? t).map (fun i => (i.zero, i.size, i.bytes)) = some (some z, s, b)) : ∃ i, P.info? t = some i ∧ i.zero = some z ∧ i.size = s ∧ i.bytes = b := by
  cases e : P.info? t with
  | none => rw [e] at h; simp at h
  | some i =>
    rw [e] at h
    simp at h
    exact ⟨i, rfl, h.1, h.2.1, h.2.2⟩
/-- a slice of numbers of its own: nothing, or a block -/
theorem row_at {w : World} {L : Nat} {p : Option Addr} {c : Nat} {m : List Nat} (hm : m.length = L) (h : w.ownsRow 0 3 1 (.slice p L c) L (icells m)) : (p = none ∧ L = 0 ∧ c = 0) ∨ ∃ g, p = some ⟨g, 0, none⟩ ∧ L ≤ c ∧ c ≤ maxLen ∧ g < w.heap.size ∧ ∀ j, j < L → w.cell? ⟨g, j, none⟩ = some (.int .i64 (M.row m j : Nat)) := by
  have hh := hasI_of_owns hm h
  rcases h.2 with ⟨e1, e2⟩ | ⟨g, cap, cur, e1, hb, hg, h1, h2, h3, h4⟩
  · simp only [Value.slice.injEq] at e1
    exact .inl ⟨e1.1, by omega, e1.2.2⟩
  · simp only [Value.slice.injEq] at e1
    obtain ⟨rfl, _, rfl⟩ := e1
    refine .inr ⟨g, rfl, h1, h2, (Array.getElem?_eq_some_iff.1 hg).1, fun j hj => ?_⟩
    obtain ⟨b, off, e, _, hc⟩ := hh j (by rw [ints_length]; omega)
    cases e
    rw [ints_get] at hc
    simpa using hc
theorem VVr.push {w w6 : World} {S g cap n : Nat} {s : M.Vw} {v : Value} (h : VVr w S s v) (t : Nat) (hn : s.ro.length = n) {x : Obj} (ho : w6.ownsRow 0 3 1 (.slice (some ⟨g, 0, none⟩) (n + 1) cap) (n + 1) (icells s.ro ++ [.int .i64 (t : Nat)])) (hg : (w.alloc x).grownBy w6 v.ownBlock) :
    VVr (w6.setCell ⟨S, 20, none⟩ (.slice (some ⟨g, 0, none⟩) (n + 1) cap)) S { s with ro := s.ro ++ [t] } (.slice (some ⟨g, 0, none⟩) (n + 1) cap) := by
  refine h.did (s' := { s with ro := s.ro ++ [t] }) rfl rfl rfl rfl (fun k hk hne => (hg.block k (Nat.lt_of_lt_of_le hk (by simp)) (Ne.symm hne)).trans (Below.heap_alloc w _ k hk)) ?_
  show w6.ownsRow _ _ _ _ (s.ro ++ [t]).length (icells (s.ro ++ [t]))
  rw [icells_snoc, List.length_append, hn]; exact ho
theorem clash_no {s : M.Vw} {t z L x : Nat} (hz : s.se t = z) (hL : s.ro.length = L) (hx : s.wr t = x) (h : ∀ j, j < L - z → (s.wr (M.row s.ro (z + j)) &&& x) = 0) : M.clashB s t = false := by
  subst hz hL hx
  cases e : M.clashB s t with
  | false => rfl
  | true =>
    unfold M.clashB at e
    rw [List.any_eq_true] at e
    obtain ⟨u, hu, hn⟩ := e
    obtain ⟨j, hj, rfl⟩ := List.getElem_of_mem hu
    rw [List.length_drop] at hj
    have := h j hj
    rw [← M.drop_row] at this
    have e2 : M.row (s.ro.drop (s.se t)) j = (s.ro.drop (s.se t))[j]'(by rw [List.length_drop]; exact hj) := by unfold M.row; rw [List.getElem?_eq_getElem (by rw [List.length_drop]; exact hj)]; rfl
    rw [e2] at this
    rw [this] at hn
    simp at hn
theorem clash_yes {s : M.Vw} {t z L x j : Nat} (hz : s.se t = z) (hL : s.ro.length = L) (hx : s.wr t = x) (hj : j < L - z) (h : (s.wr (M.row s.ro (z + j)) &&& x) ≠ 0) : M.clashB s t = true := by
  subst hz hL hx
  unfold M.clashB
  rw [List.any_eq_true]
  refine ⟨M.row (s.ro.drop (s.se t)) j, M.row_memV (by rw [List.length_drop]; exact hj), ?_⟩
  rw [M.drop_row]
  simpa using h
/-- what a commit leaves, where no other one stands in its way -/
theorem vcom_fin {O : Nat → Prop} {S : Nat} {s : M.Vw} {t L c : Nat} {p : Option Addr} {w wr : World} (h : VV O S s w) (hro : w.cell? ⟨S, 20, none⟩ = some (.slice p L c)) (hL : s.ro.length = L) (hO : ∀ k, w.heap.size ≤ k → O k) (ht : t < 5) (hB : Below w.heap.size w wr) :
    ∃ wd, wr.setCell ⟨S, t * 4, none⟩ (.int .i64 2) = wd ∧ Hid (wd.heap.size = wr.heap.size) ∧ wd.cell? ⟨S, 20, none⟩ = some (.slice p L c) ∧ wd.ownsRow 0 3 1 (.slice p L c) L (icells s.ro) ∧
    ∀ g cap w6, w6.ownsRow 0 3 1 (.slice (some ⟨g, 0, none⟩) (L + 1) cap) (L + 1) (icells s.ro ++ [.int .i64 (t : Nat)]) → (wd.alloc (.cells #[.int .i64 (t : Nat)] 3)).grownBy w6 (Value.slice p L c).ownBlock → ((Value.slice p L c).ownBlock = some g ∨ g = wd.heap.size + 1) →
      VV O S (M.vCom s t) (w6.setCell ⟨S, 20, none⟩ (.slice (some ⟨g, 0, none⟩) (L + 1) cap)) ∧ Frm O w (w6.setCell ⟨S, 20, none⟩ (.slice (some ⟨g, 0, none⟩) (L + 1) cap)) ∧ w6.cell? ⟨S, 20, none⟩ = some (.slice p L c) ∧ w6.frozen? ⟨S, 20, none⟩ = false ∧ S < w6.heap.size := by
  subst hL
  obtain ⟨v, h1, hOS, hOv⟩ := h
  have e : v = .slice p s.ro.length c := by have := h1.ro; rw [hro] at this; exact (Option.some.inj this).symm
  subst e
  have h2 := h1.below hB
  have h3 := h2.setDg ht 2
  refine ⟨_, rfl, (show _ = _ by simp [World.setCell]), h3.ro, h3.row, fun g cap w6 ho hg hat => ?_⟩
  have h4 := h3.push t rfl ho hg
  have hs : S < w6.heap.size := by have := h4.lt; simpa [World.setCell] using this
  have keep : w6.heap[S]? = (wr.setCell ⟨S, t * 4, none⟩ (.int .i64 (2 : Nat))).heap[S]? := (hg.block S (Nat.lt_of_lt_of_le h3.lt (by simp)) (Ne.symm h3.neS)).trans (Below.heap_alloc _ _ S h3.lt)
  refine ⟨⟨_, h4, hOS, fun g' e => ?_⟩, ?_, (World.cell?_of_block (a := ⟨S, 20, none⟩) keep).trans h3.ro, (h3.blk.of_block keep).frozen 20, hs⟩
  · obtain rfl : g = g' := by simpa [Value.ownBlock] using e
    rcases hat with k | k
    · exact hOv g k
    · exact hO g (by rw [k]; have := hB.size; simp [World.setCell]; omega)
  · exact ((((Frm.of_below hB).set (p := ⟨S, t * 4, none⟩) hOS _).alloc _).grown hg (fun k hk => hOv k hk)).set (p := ⟨S, 20, none⟩) hOS _
/-- what a commit leaves, tells, and what is wrong -/
def M.cmDo (s : M.Vw) (t : Nat) : M.Vw × Int × Nat := if M.clashB s t = true then (M.vStop s t, 0, 6) else (M.vCom s t, -1, 0)
set_option maxRecDepth 100000 in
set_option maxHeartbeats 4000000 in
theorem vcommit_ok {O : Nat → Prop} {S : Nat} {s : M.Vw} (t : Nat) (w : World) (h : VV O S s w) (hI : M.VI s) (hO : ∀ k, w.heap.size ≤ k → O k) (ht : t < 5) :
    Calls Tryd.prog 24 #[.pointer (some ⟨S, 0, none⟩), .int .i64 (t : Nat)] w fun e w' => e = .returned (.tuple #[.int .i64 (M.cmDo s t).2.1, terr (M.cmDo s t).2.2]) ∧ VV O S (M.cmDo s t).1 w' ∧ Frm O w w' := by
  have HV : Hid (VV O S s w) := h
  have HI : Hid (M.VI s) := hI
  have HO : Hid (∀ k, w.heap.size ≤ k → O k) := hO
  obtain ⟨p, c, v1, _, hOS, hOv⟩ := h.parts
  have hrow := row_at rfl v1.row
  have l1 := v1.lt
  have c1 := v1.se ht
  have c3 := v1.wr ht
  have cr := v1.ro
  have hse := hI.se t
  have hlen := hI.len
  have hti : (t : Int) < 5 := by omega
  have hw16 := hI.wb t
  obtain ⟨z, hz⟩ : ∃ z, s.se t = z := ⟨_, rfl⟩
  obtain ⟨L, hL⟩ : ∃ L, s.ro.length = L := ⟨_, rfl⟩
  obtain ⟨x, hx⟩ : ∃ x, s.wr t = x := ⟨_, rfl⟩
  have HZ : Hid (s.se t = z ∧ s.ro.length = L ∧ s.wr t = x) := ⟨hz, hL, hx⟩
  rw [hz] at c1 hse
  rw [hL] at hrow cr hse hlen
  rw [hx] at c3 hw16
  clear hz hL hx v1 h hI hO hOS hOv
  go_enter Tryd.func24, Tryd.ntmps24
  go_wp2_with fail
  have hLc : L ≤ c := by rcases hrow with ⟨_, h2, h3⟩ | ⟨g, _, h2, _⟩ <;> omega
  have HRW : Hid _ := hrow
  clear hrow
  have hzi : (z : Int) ≤ L := by omega
  have hzc : (z : Int) ≤ c := by omega
  have HCR : Hid (w.cell? ⟨S, 20, none⟩ = some (.slice p L c)) := cr
  go_quiet (fail)
  obtain ⟨P, hP⟩ : ∃ P, (if c = z then p else Option.map (fun x => x.add z) p) = P := ⟨_, rfl⟩
  obtain ⟨m, hm⟩ : ∃ m, L - z = m := ⟨_, rfl⟩
  obtain ⟨cc, hcc⟩ : ∃ cc, c - z = cc := ⟨_, rfl⟩
  rw [hP, hm, hcc]
  have HP : Hid (∀ k, k < m → ∃ g, P = some ⟨g, z, none⟩ ∧ g < w.heap.size ∧ w.cell? ⟨g, z + k, none⟩ = some (.int .i64 (M.row s.ro (z + k) : Nat))) := fun k hk => by
    rcases HRW.out with ⟨_, h2, h3⟩ | ⟨g, h1, h2, h3, h4, h5⟩
    · omega
    · refine ⟨g, ?_, h4, h5 _ (by omega)⟩
      rw [← hP, if_neg (by omega), h1]
      simp [Addr.add]
      exact fun e => e.symm
  clear hP
  have HB0 : Hid (Below w.heap.size w (w.drewN nq)) := bel_drN (Below.refl _ _) _
  obtain ⟨wq, hwq⟩ : ∃ wq, w.drewN nq = wq := ⟨_, rfl⟩
  rw [hwq] at HB0 ⊢
  clear hwq cr c1
  go_wp2_with fail
  go_loopw [24] (fun u wr => ∃ k : Nat, u = .int .i64 (k : Nat) ∧ k ≤ m ∧ Hid (∀ j, j < k → (s.wr (M.row s.ro (z + j)) &&& x) = 0) ∧ Hid (Below w.heap.size w wr)) (fun u _ => m - (intOf u).toNat)
  case atStart => exact ⟨0, rfl, Nat.zero_le _, (fun j hj => absurd hj (Nat.not_lt_zero _) : ∀ j, j < 0 → (s.wr (M.row s.ro (z + j)) &&& x) = 0), HB0⟩
  case round =>
    clear HB0
    obtain ⟨k, rfl, hk, hJ, HB⟩ := hrel
    have hlq : S < wr.heap.size := by have := HB.out.size; omega
    obtain ⟨hfq, hdq⟩ : wr.frozen? ⟨S, t * 4, none⟩ = false ∧ wr.cell? ⟨S, t * 4, none⟩ = some (.int .i64 (s.dg t : Nat)) := by
      obtain ⟨v, k1, _⟩ := HV.out
      exact ⟨(k1.below HB.out).fz _, (k1.below HB.out).dg ht⟩
    by_cases hlt : k < m
    · obtain ⟨g, rfl, hgl, hcg⟩ := HP.out k hlt
      have hel := (HB.out.cell (p := ⟨g, z + k, none⟩) hgl).trans hcg
      have hgq : g < wr.heap.size := by have := HB.out.size; omega
      have hu5 := HI.out.row5 (i := z + k) (by have := HZ.out.2.1; omega)
      obtain ⟨hcu, hct, hcx⟩ : wr.cell? ⟨S, M.row s.ro (z + k) * 4 + 3, none⟩ = some (.int .i64 (s.wr (M.row s.ro (z + k)) : Nat)) ∧ wr.cell? ⟨S, t * 4 + 3, none⟩ = some (.int .i64 (x : Nat)) ∧ s.wr (M.row s.ro (z + k)) < 16 := by
        obtain ⟨v, k1, _⟩ := HV.out
        exact ⟨(k1.below HB.out).wr hu5, by rw [← HZ.out.2.2]; exact (k1.below HB.out).wr ht, HI.out.wb _⟩
      have hmi : (k : Int) < m := by omega
      obtain ⟨u, hu⟩ : ∃ u, M.row s.ro (z + k) = u := ⟨_, rfl⟩
      obtain ⟨y, hy⟩ : ∃ y, s.wr u = y := ⟨_, rfl⟩
      rw [hu] at hel hu5 hcu hcx
      rw [hy] at hcu hcx
      have HU : Hid (M.row s.ro (z + k) = u ∧ s.wr u = y) := ⟨hu, hy⟩
      clear hu hy
      have hand := i64_and_nat y x (by omega) (by omega)
      obtain ⟨r, hr⟩ : ∃ r, y &&& x = r := ⟨_, rfl⟩
      rw [hr] at hand
      have HR : Hid (y &&& x = r) := hr
      clear hr
      have hui : (u : Int) < 5 := by omega
      by_cases hr0 : r = 0
      · have hg0 : ((r : Int) != 0) = false := by simp [hr0]
        have HJ : Hid (∀ j, j < k + 1 → (s.wr (M.row s.ro (z + j)) &&& x) = 0) := fun j hj => by
          by_cases e : j = k
          · subst e; rw [HU.out.1, HU.out.2, HR.out]; exact hr0
          · exact hJ.out j (by omega)
        clear hr0 hJ
        go_wp2_with fail
        go_quiet (fail)
        go_wp2_with fail
        go_roundw
        case rel => exact ⟨k + 1, by go_num, by omega, HJ, belowOn HB.out rfl rfl rfl rfl⟩
        case measure => simp [intOf]; omega
      · have hg0 : ((r : Int) != 0) = true := by simp [hr0]
        have HNC : Hid (M.cmDo s t = (M.vStop s t, 0, 6)) := if_pos <| clash_yes HZ.out.1 HZ.out.2.1 HZ.out.2.2 (j := k) (by omega) (by rw [HU.out.1, HU.out.2, HR.out]; exact hr0)
        have HFIN : Hid (∀ n, VV O S (M.vStop s t) ((wr.drewN n).setCell ⟨S, t * 4, none⟩ (.int .i64 3)) ∧ Frm O w ((wr.drewN n).setCell ⟨S, t * 4, none⟩ (.int .i64 3))) := fun n => by
          obtain ⟨v, k1, k2, k3⟩ := HV.out
          have hb := bel_drN HB.out n
          exact ⟨⟨v, (k1.below hb).setDg ht 3, k2, k3⟩, (Frm.of_below hb).set (p := ⟨S, t * 4, none⟩) k2 _⟩
        clear hr0 hJ
        go_wp2_with fail
        go_quiet (fail)
        go_wp2_with fail
        go_ret2
        exact ⟨by rw [HNC.out]; rfl, by rw [HNC.out]; exact (HFIN.out _).1, (HFIN.out _).2⟩
    · obtain rfl : k = m := by omega
      have HNC : Hid (M.cmDo s t = (M.vCom s t, -1, 0)) := if_neg (by rw [clash_no HZ.out.1 HZ.out.2.1 HZ.out.2.2 (fun j hj => hJ.out j (by omega))]; simp)
      clear hJ
      obtain ⟨wd, hwd, _, hcd, hod, FIN⟩ := vcom_fin (wr := wr) HV.out HCR.out HZ.out.2.1 HO.out ht HB.out
      have HF : Hid _ := FIN
      clear FIN
      obtain ⟨i0, hi0, hiz0, hiz1, hiz2⟩ := infoV_parts infoV
      go_wp2_with (at_builtin; (refine wpList_append_lies _ rfl _ _ 32 rfl 0 3 i0 (.int .i64 0) 1 8 Tryd.underlying32 hi0 hiz0 hiz1 hiz2 rfl (by decide) (.slice p L c) L (icells s.ro) rfl (hod.alloc _) ⟨wd.heap.size, 0, none⟩ 1 1 [.int .i64 (t : Nat)] rfl rfl (World.news_of_block (cs := #[.int .i64 (t : Nat)]) (t := 3) (fr := (0, 0)) (World.alloc_heap_new wd _)) (by simp [Value.oneCell']) (by omega) (by unfold maxLen; omega) (by omega) (Nat.zero_le _) (wd.heap.size + 1) (by simp) ?_))
      intro g' cap2 w6 ho hg hat _
      obtain ⟨s7, f7, q20, fz20, lS6⟩ := HF.out g' cap2 w6 ho hg hat
      have H7 : Hid _ := And.intro s7 f7
      clear s7 f7 HF hod ho hg hat
      go_wp2_with fail
      go_ret2
      exact ⟨by rw [HNC.out]; rfl, by rw [HNC.out]; exact H7.out.1, H7.out.2⟩
end Go.Proofs.YtajiichehffaaaaDoor
