/- HERLIHY, WING: ALL IS WELL JUST IF EACH OBJECT IS (law HistLocal), the walk. Written by mk_llo.py. -/
import Derived.Test.YtcmlkioaclkgnaaHig
namespace Go.Proofs.Ytcmlkioaclkgnaa
open Go.RowKit

theorem part_fine {h : List M.HOp} (h0 : hcd (hz h) = 0) (q : M.HOp → Bool) : hcd (hz (h.filter q)) = 0 := hcd_sub h0 (by unfold hz; exact (List.filter_sublist).map _)
theorem filt_all2 (h : List M.HOp) (q : M.HOp → Bool) : (h.take h.length).filter q = h.filter q := by rw [List.take_length]
theorem hop_ob {h : List M.HOp} (hk : HOk h) : ∀ a, a ∈ h → a.ob < 3 := fun a ha => by
  obtain ⟨i, hi, rfl⟩ := List.getElem_of_mem ha
  have := hk.ob i
  unfold M.hop at this
  rwa [List.getElem?_eq_getElem hi] at this
/-- all parts that were looked at are fine -/
def partsB (h : List M.HOp) (o : Nat) : Prop := ∀ o', o' < o → M.Atom true (h.filter fun a => a.ob == o')
set_option maxRecDepth 100000 in
set_option maxHeartbeats 8000000 in
theorem lo_walk (zs : List Oz) (p : Option Addr) (n cap : Nat) (w : World) (hl : zs.length = n) (hmax : n ≤ maxLen) (hcap : n ≤ cap) (hc : HasO zs p w) :
    Calls Try.prog 4 #[.slice p n cap] w fun e w' => e = .returned (.bool true) ∧ Below w.heap.size w w' := by
  go_enter Try.func4, Try.ntmps4
  go_wp2_with fail
  refine (histFact_ok w).mono ?_
  rintro e w1 ⟨rfl, hB1⟩
  have hc1 := hc.later hB1
  by_cases h0 : hcd zs = 0
  · obtain ⟨h, rfl, hk⟩ := hcd_get h0
    rw [hz_len] at hl
    have hn10 := hk.len
    obtain ⟨a, ha⟩ : ∃ a, (M.best true h n 0 (fun _ => 0)).isSome = a := ⟨_, rfl⟩
    have HA : Hid (a = true ↔ partsB h 3) := by
      show _ ↔ _
      rw [← ha, best_atom hl hk, M.atom_local (hop_ob hk) hk.ops]
      exact Iff.rfl
    go_wp2_with fail
    refine (atomic_ok h p n cap w1 hl hk h0 hcap hc1).mono ?_
    rintro e w2 ⟨v1, rfl, -, -, hB2⟩
    rw [ha]
    have hc2 := hc1.later hB2
    have hC2 := bel_on hB1 hB2
    obtain ⟨i0, hi0, hz0, hz1, hz2⟩ := infoIh_parts infoOp
    have H0 : Hid (hcd (hz h) = 0) := h0
    clear ha h0 hc hc1 hB1 hB2 hmax
    go_wp2_with fail
    go_loopw [7, 8] (fun gv ov wr => ∃ (o : Nat) (g : Bool), ov = .int .i64 o ∧ gv = .bool g ∧ o ≤ 3 ∧ Hid (g = true ↔ partsB h o) ∧ Below w2.heap.size w2 wr) (fun _ ov _ => 3 - (intOf ov).toNat)
    case atStart => exact ⟨0, true, rfl, rfl, Nat.zero_le _, ⟨fun _ o' ho' => absurd ho' (Nat.not_lt_zero _), fun _ => rfl⟩, Below.refl _ _⟩
    case round =>
      obtain ⟨o, g, rfl, rfl, ho3, hG, hBo⟩ := hrel
      obtain ⟨w3, hw3⟩ : ∃ w3, w3 = wr := ⟨_, rfl⟩
      subst hw3
      by_cases ho : o < 3
      · have hoi : (o : Int) < 3 := by omega
        have hc3 := hc2.later hBo
        have HC3 : Hid (Below w2.heap.size w2 w3) := hBo
        clear hBo
        go_wp2_with fail
        go_loopw [9, 10] (fun sv iv wr => ∃ i : Nat, iv = .int .i64 i ∧ i ≤ n ∧ wr.ownsRow w3.heap.size 32 6 sv ((h.take i).filter fun a => a.ob == o).length (ocells ((h.take i).filter fun a => a.ob == o)) ∧ Below w3.heap.size w3 wr) (fun _ iv _ => n - (intOf iv).toNat)
        case atStart => exact ⟨0, rfl, Nat.zero_le _, ⟨rfl, .inl ⟨rfl, rfl⟩⟩, Below.refl _ _⟩
        case round =>
          obtain ⟨i, rfl, hi, hown, hB⟩ := hrel
          by_cases hlt : i < n
          · obtain ⟨bk, off, rfl, hop⟩ := (hc3.later hB) i (by rw [hz_len]; omega)
            rw [oAt_hzO] at hop
            have hhit := fun e => @filt_hit h (fun a => a.ob == o) i (by omega) e
            have hmiss := fun e => @filt_miss h (fun a => a.ob == o) i (by omega) e
            obtain ⟨A, hA⟩ : ∃ A, M.hop h i = A := ⟨_, rfl⟩
            rw [hA] at hop hhit hmiss
            obtain ⟨pr, ob, wt, va, fr, te⟩ := A
            simp only [hzO] at hop
            obtain ⟨hbl, k0, k1, k2, k3, k4, k5⟩ := hop
            simp only at hhit hmiss
            have hin : (i : Int) < (n : Int) := by omega
            have hfl : ((h.take i).filter fun a => a.ob == o).length ≤ 10 := Nat.le_trans (List.length_filter_le _ _) (by rw [List.length_take]; omega)
            obtain ⟨F, hF⟩ : ∃ F, (h.take i).filter (fun a => a.ob == o) = F := ⟨_, rfl⟩
            rw [hF] at hown hhit hmiss hfl
            clear hA hF
            by_cases hw1 : ob = o
            · have hd : ((ob : Int) == (o : Int)) = true := by simp; omega
              have H1 : Hid ((h.take (i + 1)).filter (fun a => a.ob == o) = F ++ [⟨pr, ob, wt, va, fr, te⟩]) := hhit (by simpa using hw1)
              clear hhit hmiss hw1
              obtain ⟨pv, cv, rfl⟩ := owns_slice hown
              have hszr := hB.size
              go_wp2_with (at_builtin; (refine wpList_append_lies _ rfl _ _ 22 rfl w3.heap.size 32 i0 (.agg #[.int .i64 0, .int .i64 0, .int .i64 0, .int .i64 0, .int .i64 0, .int .i64 0]) 6 48 Try.underlying22 hi0 hz0 hz1 hz2 rfl (by decide) (.slice pv F.length cv) F.length (ocells F) rfl (hown.alloc _) ⟨wr.heap.size, 0, none⟩ 1 1 [.int .i64 (pr : Nat), .int .i64 (ob : Nat), .int .i64 (wt : Nat), .int .i64 (va : Nat), .int .i64 (fr : Nat), .int .i64 (te : Nat)] rfl rfl (World.news_of_block (cs := #[.int .i64 (pr : Nat), .int .i64 (ob : Nat), .int .i64 (wt : Nat), .int .i64 (va : Nat), .int .i64 (fr : Nat), .int .i64 (te : Nat)]) (t := 32) (fr := (0, 0)) (heap_alloc_new wr _)) (by simp [Value.oneCell']) (by omega) (by unfold maxLen; omega) (by omega) (by simp; omega) (wr.heap.size + 1) (by simp) ?_))
              intro gg cap2 w6 ho6 hg hat _
              have hB6 : Below w3.heap.size w3 w6 := (bel_al hB _).grown hg (by simp; omega) (fun k e => (hown.lt k e).1)
              have ho6' : w6.ownsRow w3.heap.size 32 6 (.slice (some ⟨gg, 0, none⟩) (F.length + 1) cap2) ((h.take (i + 1)).filter fun a => a.ob == o).length (ocells ((h.take (i + 1)).filter fun a => a.ob == o)) := by
                rw [H1.out, ocells_snoc, List.length_append]; exact ho6
              clear ho6 hg hat hown hB k0 k1 k2 k3 k4 k5
              go_wp2_with fail
              go_roundw
              case rel => exact ⟨i + 1, by go_num, by omega, ho6', hB6⟩
              case measure => simp [intOf]; omega
            · have hd : ((ob : Int) == (o : Int)) = false := by simp; omega
              have H1 : Hid ((h.take (i + 1)).filter (fun a => a.ob == o) = F) := hmiss (by simpa using hw1)
              have ho6 : wr.ownsRow w3.heap.size 32 6 u9 ((h.take (i + 1)).filter fun a => a.ob == o).length (ocells ((h.take (i + 1)).filter fun a => a.ob == o)) := by
                rw [H1.out]; exact hown
              clear hhit hmiss hw1 hown
              go_wp2_with fail
              go_roundw
              case rel => exact ⟨i + 1, by go_num, by omega, ho6, hB⟩
              case measure => simp [intOf]; omega
          · obtain rfl : i = n := by omega
            have hall : (h.take i).filter (fun a => a.ob == o) = h.filter (fun a => a.ob == o) := by rw [← hl]; exact filt_all2 h _
            rw [hall] at hown
            obtain ⟨pv, cv, rfl, hcv⟩ := owns_cap hown
            have hF0 := part_fine H0.out (fun a => a.ob == o)
            have hhas := hasO_of_owns rfl hown
            have hcall := atomic_ok (h.filter fun a => a.ob == o) pv _ cv wr rfl (hok_of hF0) hF0 hcv hhas
            have hba := best_atom (all := true) (h := h.filter fun a => a.ob == o) rfl (hok_of hF0)
            obtain ⟨m, hm⟩ : ∃ m, (h.filter fun a => a.ob == o).length = m := ⟨_, rfl⟩
            rw [hm] at hcall hba
            obtain ⟨r, hr⟩ : ∃ r, (M.best true (h.filter fun a => a.ob == o) m 0 (fun _ => 0)).isSome = r := ⟨_, rfl⟩
            rw [hr] at hba
            have HR : Hid ((M.best true (h.filter fun a => a.ob == o) m 0 (fun _ => 0)).isSome = r) := hr
            have HG : Hid ((g && r) = true ↔ partsB h (o + 1)) := by
              show _ ↔ _
              rw [Bool.and_eq_true, hG.out, hba]
              constructor
              · rintro ⟨h1, h2⟩ o' ho'
                by_cases e : o' = o
                · subst e; exact h2
                · exact h1 o' (by omega)
              · intro h1
                exact ⟨fun o' ho' => h1 o' (by omega), h1 o (by omega)⟩
            have hC := bel_on HC3.out hB
            rw [hm]
            clear hown hF0 hhas hB hall hm hcv hba hr hG
            go_wp2_with fail
            refine hcall.mono ?_
            rintro e w7 ⟨v3, rfl, -, -, hB7⟩
            rw [HR.out]
            have hC7 := bel_on hC hB7
            clear hcall hB7 hC
            cases g with
            | true =>
              go_wp2_with fail
              go_roundw
              case rel => exact ⟨o + 1, r, by go_num, rfl, by omega, (show _ ↔ _ by simpa using HG.out), hC7⟩
              case measure => simp [intOf]; omega
            | false =>
              go_wp2_with fail
              go_roundw
              case rel => exact ⟨o + 1, false, by go_num, rfl, by omega, (show _ ↔ _ by simpa using HG.out), hC7⟩
              case measure => simp [intOf]; omega
      · obtain rfl : o = 3 := by omega
        have hag : a = g := by
          have : a = true ↔ g = true := HA.out.trans hG.out.symm
          cases a <;> cases g <;> simp at this ⊢
        subst hag
        have HB : Hid (Below w.heap.size w w3) := bel_on hC2 hBo
        clear hBo hG HA
        go_wp2_with fail
        go_ret
        exact ⟨by simp, HB.out⟩
  · obtain ⟨c, hcc⟩ : ∃ c, hcd zs = c := ⟨_, rfl⟩
    rw [hcc] at h0
    go_wp2_with fail
    refine (atomic_err zs p n cap c w1 hl hmax hcap hc1 hcc h0).mono ?_
    rintro e w2 ⟨rfl, hB2⟩
    rw [terr_ne h0]
    have HB : Hid (Below w.heap.size w w2) := bel_on hB1 hB2
    clear h0 hcc hB1 hB2 hc hc1
    go_wp2_with fail
    go_ret
    exact ⟨rfl, HB.out⟩
end Go.Proofs.Ytcmlkioaclkgnaa
