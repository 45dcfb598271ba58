/- WHAT IS ATOMIC IS WEAKLY SO (law HistWeaker), the walk. Written by mk_lhw.py. -/
import Derived.Test.YtcmlkioaclkgnaaHig
namespace Go.Proofs.Ytcmlkioaclkgnaa
open Go.RowKit

theorem writes_atom {h : List M.HOp} (hk : HOk h) (h0 : hcd (hz h) = 0) : hcd (hz (h.filter fun a => a.wr == 1)) = 0 ∧ (M.best true (h.filter fun a => a.wr == 1) (h.filter fun a => a.wr == 1).length 0 (fun _ => 0)).isSome = true := by
  have h1 : hcd (hz (h.filter fun a => a.wr == 1)) = 0 := hcd_sub h0 (by unfold hz; exact (List.filter_sublist).map _)
  refine ⟨h1, (best_atom rfl (hok_of h1)).2 (M.atom_writes (fun a ha => ?_) (fun a ha => hk.ops a (List.mem_filter.1 ha).1))⟩
  have := (List.mem_filter.1 ha).2
  intro e
  rw [e] at this
  cases this
theorem filt_all (h : List M.HOp) (q : M.HOp → Bool) : (h.take h.length).filter q = h.filter q := by rw [List.take_length]
set_option maxRecDepth 100000 in
set_option maxHeartbeats 8000000 in
theorem hw_walk (zs : List Oz) (p : Option Addr) (n cap : Nat) (w : World) (hl : zs.length = n) (hmax : n ≤ maxLen) (hcap : n ≤ cap) (hc : HasO zs p w) :
    Calls Try.prog 5 #[.slice p n cap] w fun e w' => e = .returned (.bool true) ∧ Below w.heap.size w w' := by
  go_enter Try.func5, Try.ntmps5
  go_wp2_with fail
  refine (histFact_ok w).mono ?_
  rintro e w1 ⟨rfl, hB1⟩
  have hc1 := hc.later hB1
  by_cases h0 : hcd zs = 0
  · obtain ⟨h, rfl, hk⟩ := hcd_get h0
    rw [hz_len] at hl
    have hn10 := hk.len
    obtain ⟨a, ha⟩ : ∃ a, (M.best true h n 0 (fun _ => 0)).isSome = a := ⟨_, rfl⟩
    obtain ⟨b, hb⟩ : ∃ b, (M.best false h n 0 (fun _ => 0)).isSome = b := ⟨_, rfl⟩
    have hab : a = true → b = true := fun e => by
      rw [← ha] at e
      rw [← hb]
      exact (best_atom hl hk).2 ((best_atom hl hk).1 e).weak
    have HWR : Hid _ := writes_atom hk h0
    go_wp2_with fail
    refine (atomic_ok h p n cap w1 hl hk h0 hcap hc1).mono ?_
    rintro e w2 ⟨v1, rfl, -, -, hB2⟩
    rw [ha]
    have hc2 := hc1.later hB2
    go_wp2_with fail
    refine (weak_ok h p n cap w2 hl hk h0 hcap hc2).mono ?_
    rintro e w3 ⟨v2, rfl, -, -, hB3⟩
    rw [hb]
    have hc3 := hc2.later hB3
    have hC3 := bel_on (bel_on hB1 hB2) hB3
    obtain ⟨i0, hi0, hz0, hz1, hz2⟩ := infoIh_parts infoOp
    have H0 : Hid (hcd (hz h) = 0) := h0
    clear ha hb h0 hc hc1 hc2 hB1 hB2 hB3 hmax
    cases a with
    | true =>
      obtain rfl := hab rfl
      clear hab
      go_wp2_with fail
      go_loopw [10, 11] (fun sv iv wr => ∃ i : Nat, iv = .int .i64 i ∧ i ≤ n ∧ wr.ownsRow w3.heap.size 32 6 sv ((h.take i).filter fun a => a.wr == 1).length (ocells ((h.take i).filter fun a => a.wr == 1)) ∧ Below w3.heap.size w3 wr) (fun _ iv _ => n - (intOf iv).toNat)
      case atStart => exact ⟨0, rfl, Nat.zero_le _, ⟨rfl, .inl ⟨rfl, rfl⟩⟩, Below.refl _ _⟩
      case round =>
        obtain ⟨i, rfl, hi, hown, hB⟩ := hrel
        by_cases hlt : i < n
        · obtain ⟨bk, off, rfl, hop⟩ := (hc3.later hB) i (by rw [hz_len]; omega)
          rw [oAt_hzO] at hop
          have hwr2 := hk.wr i
          have hhit := fun e => @filt_hit h (fun a => a.wr == 1) i (by omega) e
          have hmiss := fun e => @filt_miss h (fun a => a.wr == 1) i (by omega) e
          obtain ⟨A, hA⟩ : ∃ A, M.hop h i = A := ⟨_, rfl⟩
          rw [hA] at hop hwr2 hhit hmiss
          obtain ⟨pr, ob, wt, va, fr, te⟩ := A
          simp only [hzO] at hop
          obtain ⟨hbl, k0, k1, k2, k3, k4, k5⟩ := hop
          simp only at hwr2 hhit hmiss
          have hin : (i : Int) < (n : Int) := by omega
          have hfl : ((h.take i).filter fun a => a.wr == 1).length ≤ 10 := Nat.le_trans (List.length_filter_le _ _) (by rw [List.length_take]; omega)
          obtain ⟨F, hF⟩ : ∃ F, (h.take i).filter (fun a => a.wr == 1) = F := ⟨_, rfl⟩
          rw [hF] at hown hhit hmiss hfl
          clear hA hF
          by_cases hw1 : wt = 1
          · have hd : ((wt : Int) == 1) = true := by subst hw1; rfl
            have H1 : Hid ((h.take (i + 1)).filter (fun a => a.wr == 1) = F ++ [⟨pr, ob, wt, va, fr, te⟩]) := hhit (by simpa using hw1)
            clear hhit hmiss hw1 hwr2
            obtain ⟨pv, cv, rfl⟩ := owns_slice hown
            have hszr := hB.size
            go_wp2_with (at_builtin; (refine wpList_append_lies _ rfl _ _ 22 rfl w3.heap.size 32 i0 (.agg #[.int .i64 0, .int .i64 0, .int .i64 0, .int .i64 0, .int .i64 0, .int .i64 0]) 6 48 Try.underlying22 hi0 hz0 hz1 hz2 rfl (by decide) (.slice pv F.length cv) F.length (ocells F) rfl (hown.alloc _) ⟨wr.heap.size, 0, none⟩ 1 1 [.int .i64 (pr : Nat), .int .i64 (ob : Nat), .int .i64 (wt : Nat), .int .i64 (va : Nat), .int .i64 (fr : Nat), .int .i64 (te : Nat)] rfl rfl (World.news_of_block (cs := #[.int .i64 (pr : Nat), .int .i64 (ob : Nat), .int .i64 (wt : Nat), .int .i64 (va : Nat), .int .i64 (fr : Nat), .int .i64 (te : Nat)]) (t := 32) (fr := (0, 0)) (heap_alloc_new wr _)) (by simp [Value.oneCell']) (by omega) (by unfold maxLen; omega) (by omega) (by simp; omega) (wr.heap.size + 1) (by simp) ?_))
            intro g cap2 w6 ho hg hat _
            have hB6 : Below w3.heap.size w3 w6 := (bel_al hB _).grown hg (by simp; omega) (fun k e => (hown.lt k e).1)
            have ho6 : w6.ownsRow w3.heap.size 32 6 (.slice (some ⟨g, 0, none⟩) (F.length + 1) cap2) ((h.take (i + 1)).filter fun a => a.wr == 1).length (ocells ((h.take (i + 1)).filter fun a => a.wr == 1)) := by
              rw [H1.out, ocells_snoc, List.length_append]; exact ho
            clear ho hg hat hown hB k0 k1 k2 k3 k4 k5
            go_wp2_with fail
            go_roundw
            case rel => exact ⟨i + 1, by go_num, by omega, ho6, hB6⟩
            case measure => simp [intOf]; omega
          · have hd : ((wt : Int) == 1) = false := by simpa using (by omega : ¬ (wt : Int) = 1)
            have H1 : Hid ((h.take (i + 1)).filter (fun a => a.wr == 1) = F) := hmiss (by simpa using hw1)
            have ho6 : wr.ownsRow w3.heap.size 32 6 u10 ((h.take (i + 1)).filter fun a => a.wr == 1).length (ocells ((h.take (i + 1)).filter fun a => a.wr == 1)) := by
              rw [H1.out]; exact hown
            clear hhit hmiss hw1 hwr2 hown
            go_wp2_with fail
            go_roundw
            case rel => exact ⟨i + 1, by go_num, by omega, ho6, hB⟩
            case measure => simp [intOf]; omega
        · obtain rfl : i = n := by omega
          have hall : (h.take i).filter (fun a => a.wr == 1) = h.filter (fun a => a.wr == 1) := by rw [← hl]; exact filt_all h _
          rw [hall] at hown
          obtain ⟨pv, cv, rfl, hcv⟩ := owns_cap hown
          have hF0 := HWR.out.1
          have hhas := hasO_of_owns rfl hown
          have hcall := atomic_ok (h.filter fun a => a.wr == 1) pv _ cv wr rfl (hok_of hF0) hF0 hcv hhas
          obtain ⟨m, hm⟩ : ∃ m, (h.filter fun a => a.wr == 1).length = m := ⟨_, rfl⟩
          have HM : Hid ((M.best true (h.filter fun a => a.wr == 1) m 0 (fun _ => 0)).isSome = true) := by have := HWR.out.2; rwa [hm] at this
          rw [hm] at hcall
          have hC := bel_on hC3 hB
          rw [hm]
          clear hown hF0 hhas hB hall hm hcv
          go_wp2_with fail
          refine hcall.mono ?_
          rintro e w7 ⟨v3, rfl, -, -, hB7⟩
          rw [HM.out]
          have HB : Hid (Below w.heap.size w w7) := bel_on hC hB7
          clear hcall hB7 hC
          go_wp2_with fail
          go_ret
          exact ⟨rfl, HB.out⟩
    | false =>
      clear hab
      go_wp2_with fail
      go_loopw [10, 11] (fun sv iv wr => ∃ i : Nat, iv = .int .i64 i ∧ i ≤ n ∧ wr.ownsRow w3.heap.size 32 6 sv ((h.take i).filter fun a => a.wr == 1).length (ocells ((h.take i).filter fun a => a.wr == 1)) ∧ Below w3.heap.size w3 wr) (fun _ iv _ => n - (intOf iv).toNat)
      case atStart => exact ⟨0, rfl, Nat.zero_le _, ⟨rfl, .inl ⟨rfl, rfl⟩⟩, Below.refl _ _⟩
      case round =>
        obtain ⟨i, rfl, hi, hown, hB⟩ := hrel
        by_cases hlt : i < n
        · obtain ⟨bk, off, rfl, hop⟩ := (hc3.later hB) i (by rw [hz_len]; omega)
          rw [oAt_hzO] at hop
          have hwr2 := hk.wr i
          have hhit := fun e => @filt_hit h (fun a => a.wr == 1) i (by omega) e
          have hmiss := fun e => @filt_miss h (fun a => a.wr == 1) i (by omega) e
          obtain ⟨A, hA⟩ : ∃ A, M.hop h i = A := ⟨_, rfl⟩
          rw [hA] at hop hwr2 hhit hmiss
          obtain ⟨pr, ob, wt, va, fr, te⟩ := A
          simp only [hzO] at hop
          obtain ⟨hbl, k0, k1, k2, k3, k4, k5⟩ := hop
          simp only at hwr2 hhit hmiss
          have hin : (i : Int) < (n : Int) := by omega
          have hfl : ((h.take i).filter fun a => a.wr == 1).length ≤ 10 := Nat.le_trans (List.length_filter_le _ _) (by rw [List.length_take]; omega)
          obtain ⟨F, hF⟩ : ∃ F, (h.take i).filter (fun a => a.wr == 1) = F := ⟨_, rfl⟩
          rw [hF] at hown hhit hmiss hfl
          clear hA hF
          by_cases hw1 : wt = 1
          · have hd : ((wt : Int) == 1) = true := by subst hw1; rfl
            have H1 : Hid ((h.take (i + 1)).filter (fun a => a.wr == 1) = F ++ [⟨pr, ob, wt, va, fr, te⟩]) := hhit (by simpa using hw1)
            clear hhit hmiss hw1 hwr2
            obtain ⟨pv, cv, rfl⟩ := owns_slice hown
            have hszr := hB.size
            go_wp2_with (at_builtin; (refine wpList_append_lies _ rfl _ _ 22 rfl w3.heap.size 32 i0 (.agg #[.int .i64 0, .int .i64 0, .int .i64 0, .int .i64 0, .int .i64 0, .int .i64 0]) 6 48 Try.underlying22 hi0 hz0 hz1 hz2 rfl (by decide) (.slice pv F.length cv) F.length (ocells F) rfl (hown.alloc _) ⟨wr.heap.size, 0, none⟩ 1 1 [.int .i64 (pr : Nat), .int .i64 (ob : Nat), .int .i64 (wt : Nat), .int .i64 (va : Nat), .int .i64 (fr : Nat), .int .i64 (te : Nat)] rfl rfl (World.news_of_block (cs := #[.int .i64 (pr : Nat), .int .i64 (ob : Nat), .int .i64 (wt : Nat), .int .i64 (va : Nat), .int .i64 (fr : Nat), .int .i64 (te : Nat)]) (t := 32) (fr := (0, 0)) (heap_alloc_new wr _)) (by simp [Value.oneCell']) (by omega) (by unfold maxLen; omega) (by omega) (by simp; omega) (wr.heap.size + 1) (by simp) ?_))
            intro g cap2 w6 ho hg hat _
            have hB6 : Below w3.heap.size w3 w6 := (bel_al hB _).grown hg (by simp; omega) (fun k e => (hown.lt k e).1)
            have ho6 : w6.ownsRow w3.heap.size 32 6 (.slice (some ⟨g, 0, none⟩) (F.length + 1) cap2) ((h.take (i + 1)).filter fun a => a.wr == 1).length (ocells ((h.take (i + 1)).filter fun a => a.wr == 1)) := by
              rw [H1.out, ocells_snoc, List.length_append]; exact ho
            clear ho hg hat hown hB k0 k1 k2 k3 k4 k5
            go_wp2_with fail
            go_roundw
            case rel => exact ⟨i + 1, by go_num, by omega, ho6, hB6⟩
            case measure => simp [intOf]; omega
          · have hd : ((wt : Int) == 1) = false := by simpa using (by omega : ¬ (wt : Int) = 1)
            have H1 : Hid ((h.take (i + 1)).filter (fun a => a.wr == 1) = F) := hmiss (by simpa using hw1)
            have ho6 : wr.ownsRow w3.heap.size 32 6 u10 ((h.take (i + 1)).filter fun a => a.wr == 1).length (ocells ((h.take (i + 1)).filter fun a => a.wr == 1)) := by
              rw [H1.out]; exact hown
            clear hhit hmiss hw1 hwr2 hown
            go_wp2_with fail
            go_roundw
            case rel => exact ⟨i + 1, by go_num, by omega, ho6, hB⟩
            case measure => simp [intOf]; omega
        · obtain rfl : i = n := by omega
          have hall : (h.take i).filter (fun a => a.wr == 1) = h.filter (fun a => a.wr == 1) := by rw [← hl]; exact filt_all h _
          rw [hall] at hown
          obtain ⟨pv, cv, rfl, hcv⟩ := owns_cap hown
          have hF0 := HWR.out.1
          have hhas := hasO_of_owns rfl hown
          have hcall := atomic_ok (h.filter fun a => a.wr == 1) pv _ cv wr rfl (hok_of hF0) hF0 hcv hhas
          obtain ⟨m, hm⟩ : ∃ m, (h.filter fun a => a.wr == 1).length = m := ⟨_, rfl⟩
          have HM : Hid ((M.best true (h.filter fun a => a.wr == 1) m 0 (fun _ => 0)).isSome = true) := by have := HWR.out.2; rwa [hm] at this
          rw [hm] at hcall
          have hC := bel_on hC3 hB
          rw [hm]
          clear hown hF0 hhas hB hall hm hcv
          go_wp2_with fail
          refine hcall.mono ?_
          rintro e w7 ⟨v3, rfl, -, -, hB7⟩
          rw [HM.out]
          have HB : Hid (Below w.heap.size w w7) := bel_on hC hB7
          clear hcall hB7 hC
          go_wp2_with fail
          go_ret
          exact ⟨rfl, HB.out⟩
  · obtain ⟨c, hcc⟩ : ∃ c, hcd zs = c := ⟨_, rfl⟩
    rw [hcc] at h0
    go_wp2_with fail
    refine (atomic_err zs p n cap c w1 hl hmax hcap hc1 hcc h0).mono ?_
    rintro e w2 ⟨rfl, hB2⟩
    go_wp2_with fail
    refine (weak_err zs p n cap c w2 hl hmax hcap (hc1.later hB2) hcc h0).mono ?_
    rintro e w3 ⟨rfl, hB3⟩
    rw [terr_ne h0]
    have HB : Hid (Below w.heap.size w w3) := bel_on (bel_on hB1 hB2) hB3
    clear h0 hcc hB1 hB2 hB3 hc hc1
    go_wp2_with fail
    go_ret
    exact ⟨rfl, HB.out⟩
end Go.Proofs.Ytcmlkioaclkgnaa
