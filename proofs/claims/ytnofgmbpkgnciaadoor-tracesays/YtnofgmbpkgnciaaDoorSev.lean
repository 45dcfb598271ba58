/- Whether all events of a trace are in another one that has as many, and heard of the same there (package trace, sameEvents); what lay in memory lies as it lay. -/
import Derived.Test.YtnofgmbpkgnciaaDoorPlc
import Derived.Test.YtnofgmbpkgnciaaDoorNeq
namespace Go.Proofs.YtnofgmbpkgnciaaDoor
open Go.RowKit

theorem link_hnm {P Q : Int} {T U : List (Int × Int)} (hT : M.TOk P T) (hU : M.TOk Q U) {i j : Nat} (hi : i < T.length) (hj : j < U.length) : M.linkB T U i j = true ↔ hnm T (M.fm T i) = hnm U (M.fm U j) := by
  have a1 := hT.fm0 i hi
  have a2 := hT.fmI i hi
  have b1 := hU.fm0 j hj
  have b2 := hU.fmI j hj
  unfold M.linkB hnm
  by_cases h1 : M.fm T i < 0
  · by_cases h2 : M.fm U j < 0
    · rw [if_pos h1, if_pos h2]; simp [h1, h2]
    · rw [if_pos h1, if_neg h2]
      have := hU.pr0 (M.fm U j).toNat (by omega)
      simp only [Bool.or_eq_true, Bool.and_eq_true, decide_eq_true_eq, beq_iff_eq, Prod.mk.injEq]
      constructor
      · rintro (h | h)
        · omega
        · omega
      · intro h; omega
  · by_cases h2 : M.fm U j < 0
    · rw [if_neg h1, if_pos h2]
      have := hT.pr0 (M.fm T i).toNat (by omega)
      simp only [Bool.or_eq_true, Bool.and_eq_true, decide_eq_true_eq, beq_iff_eq, Prod.mk.injEq]
      constructor
      · rintro (h | h)
        · omega
        · omega
      · intro h; omega
    · rw [if_neg h1, if_neg h2]
      simp only [Bool.or_eq_true, Bool.and_eq_true, decide_eq_true_eq, beq_iff_eq, Prod.mk.injEq]
      constructor
      · rintro (h | h)
        · omega
        · exact ⟨h.1.2, by rw [h.2]⟩
      · intro h; exact .inr ⟨⟨⟨by omega, by omega⟩, h.1⟩, by omega⟩
theorem foundTo_none {T U : List (Int × Int)} {i n : Nat} (h : ∀ j, j < n → ¬ M.keyB T U i j = true) : M.foundTo T U i n = false := by
  cases e : M.foundTo T U i n with
  | false => rfl
  | true =>
    obtain ⟨j, hj, h1, _⟩ := (M.foundTo_iff n).1 e
    exact absurd h1 (h j hj)
theorem foundTo_one {T U : List (Int × Int)} {i j n : Nat} (hj : j < n) (h : M.keyB T U i j = true) : M.foundTo T U i n = M.linkB T U i j := by
  rw [Bool.eq_iff_iff, M.foundTo_iff]
  constructor
  · rintro ⟨k, _, h1, h2⟩
    rw [M.keyB_one h h1]; exact h2
  · intro h2; exact ⟨j, hj, h, h2⟩
theorem sameTo_false {T U : List (Int × Int)} {i n : Nat} (hi : i < n) (h : M.foundTo T U i U.length = false) : M.sameTo T U n = false := by
  cases e : M.sameTo T U n with
  | false => rfl
  | true =>
    obtain ⟨j, hj, h1, h2⟩ := (M.sameTo_iff n).1 e i hi
    rw [foundTo_one hj h1, h2] at h
    cases h

theorem nm_cell0 {w : World} {N : Nat} (h : w.heap.size = N) (a f : Int) : (w.alloc (.cells #[.int .i64 a, .int .i64 f] 71)).cell? ⟨N, 0, none⟩ = some (.int .i64 a) := by subst h; simp
theorem nm_cell1 {w : World} {N : Nat} (h : w.heap.size = N) (a f : Int) : (w.alloc (.cells #[.int .i64 a, .int .i64 f] 71)).cell? ⟨N, 1, none⟩ = some (.int .i64 f) := by subst h; simp
set_option maxRecDepth 100000 in
set_option maxHeartbeats 4000000 in
theorem sameEvents_ok (P Q : Int) (T U : List (Int × Int)) (p q : Option Addr) (n cap cap' : Nat) (w : World) (hl : T.length = n) (hl' : U.length = n) (hc : HasE T p w) (hc' : HasE U q w) (hT : M.TOk P T) (hU : M.TOk Q U) :
    Calls Tryd.prog 30 #[trV P p n cap, trV Q q n cap'] w fun e w' => e = .returned (.bool (M.sameTo T U n)) ∧ Below w.heap.size w w' := by
  have hn : n ≤ 24 := hl ▸ hT.len
  have hB0 : Below w.heap.size w ((w.alloc (.cells #[.int .i64 P, .slice p n cap] 24)).alloc (.cells #[.int .i64 Q, .slice q n cap'] 24)) := bel_al (bel_al (Below.refl _ _) _) _
  have hb1 := (tbox_new w P p n cap).later (bel_al (Below.refl _ _) (.cells #[.int .i64 Q, .slice q n cap'] 24)) (by simp)
  have hb2 := tbox_new (w.alloc (.cells #[.int .i64 P, .slice p n cap] 24)) Q q n cap'
  rw [show (w.alloc (.cells #[.int .i64 P, .slice p n cap] 24)).heap.size = w.heap.size + 1 by simp] at hb2
  obtain ⟨wb, hwb⟩ : ∃ wb, (w.alloc (.cells #[.int .i64 P, .slice p n cap] 24)).alloc (.cells #[.int .i64 Q, .slice q n cap'] 24) = wb := ⟨_, rfl⟩
  rw [hwb] at hB0 hb1 hb2
  have hcb := hc.later hB0
  have hcb' := hc'.later hB0
  have hn1 : ∀ W, Below wb.heap.size wb W → Calls Tryd.prog 40 #[.agg #[.int .i64 P, .slice p n cap]] W fun e w' => ∃ A, e = .returned (.slice (some ⟨A, 0, none⟩) n n) ∧ RowAt 71 w' A (M.nml T n n) ∧ wb.heap.size ≤ A ∧ Below W.heap.size W w' ∧ Below wb.heap.size wb w' := fun W hW => by
    refine (names_ok P T p n cap W hl (hcb.later hW) hT).mono ?_
    rintro e w' ⟨A, h1, h2, h3, h4⟩
    exact ⟨A, h1, h2, Nat.le_trans hW.size h3, h4, bel_on hW h4⟩
  have hn2 : ∀ W, Below wb.heap.size wb W → Calls Tryd.prog 40 #[.agg #[.int .i64 Q, .slice q n cap']] W fun e w' => ∃ A, e = .returned (.slice (some ⟨A, 0, none⟩) n n) ∧ RowAt 71 w' A (M.nml U n n) ∧ W.heap.size ≤ A ∧ Below W.heap.size W w' ∧ Below wb.heap.size wb w' := fun W hW => by
    refine (names_ok Q U q n cap' W hl' (hcb'.later hW) hU).mono ?_
    rintro e w' ⟨A, h1, h2, h3, h4⟩
    exact ⟨A, h1, h2, h3, h4, bel_on hW h4⟩
  have hmk : ∀ W', Below wb.heap.size wb W' → W'.cell? ⟨w.heap.size, 0, none⟩ = some (.int .i64 P) ∧ W'.cell? ⟨w.heap.size, 1, none⟩ = some (.slice p n cap) ∧ W'.cell? ⟨w.heap.size + 1, 0, none⟩ = some (.int .i64 Q) ∧ W'.cell? ⟨w.heap.size + 1, 1, none⟩ = some (.slice q n cap') ∧ Below wb.heap.size wb W' := fun W' h => ⟨(hb1.later h hb1.lt).procs, (hb1.later h hb1.lt).events, (hb2.later h hb2.lt).procs, (hb2.later h hb2.lt).events, h⟩
  go_enter Tryd.func30, Tryd.ntmps30
  go_wp2_with fail
  refine wp_region_held_drew (S := (fun w' => w'.cell? ⟨w.heap.size, 0, none⟩ = some (.int .i64 P) ∧ w'.cell? ⟨w.heap.size, 1, none⟩ = some (.slice p n cap) ∧ w'.cell? ⟨w.heap.size + 1, 0, none⟩ = some (.int .i64 Q) ∧ w'.cell? ⟨w.heap.size + 1, 1, none⟩ = some (.slice q n cap') ∧ Below wb.heap.size wb w')) (by kernel_rfl) (hmk _ (Below.refl _ _).drew) (fun hHeld => ?_)
  refine wpAnyH_take (i := 0) (oi := { dst := some 14, op := Op.load 24 (Operand.tmp 2), type := 24, pos := "name.go:24", after := #[], guard := none }) (v := ?_) rfl (by kernel_rfl) (by kernel_rfl) (by kernel_rfl) (fun _ _ _ h => h) (Or.inl ⟨by rfl, ?_⟩) hHeld ?_
  rotate_left 1
  · intro w9 hSw
    try dsimp only at hSw
    go_simp
    try with_reducible rfl
  try simp only [Act.put, List.setIfInBounds_toArray, List.set_cons_zero, List.set_cons_succ]
  refine wpAnyH_take (i := 2) (oi := { dst := some 16, op := Op.load 24 (Operand.tmp 3), type := 24, pos := "name.go:24", after := #[], guard := none }) (v := ?_) rfl (by kernel_rfl) (by kernel_rfl) (by kernel_rfl) (fun _ _ _ h => h) (Or.inl ⟨by rfl, ?_⟩) hHeld ?_
  rotate_left 1
  · intro w9 hSw
    try dsimp only at hSw
    go_simp
    try with_reducible rfl
  try simp only [Act.put, List.setIfInBounds_toArray, List.set_cons_zero, List.set_cons_succ]
  refine wpAnyH_ready (rs := [1]) (by kernel_rfl) (by simp) ?_
  refine AllReadyH.cons (o := { dst := some 15, op := Op.call { callee := Callee.value (Operand.func 40), args := #[Operand.tmp 14], argTypes := #[24] }, type := 67, pos := "name.go:24", after := #[{ on := 0, ground := Ground.data }], guard := none }) rfl (fun K hK => ?_) AllReadyH.nil
  go_simp
  go_at_call 40
  refine (hn1 _ hHeld.2.2.2.2).mono ?_
  rintro e w1 ⟨A, rfl, hr1, hA, hBa, hBb⟩
  go_wp2_with fail
  refine hK.out _ _ (hmk _ hBb) (fun hHeld => ?_)
  clear hK K
  try simp only [Act.put, List.setIfInBounds_toArray, List.set_cons_zero, List.set_cons_succ]
  refine wpAnyH_ready (rs := [3]) (by kernel_rfl) (by simp) ?_
  refine AllReadyH.cons (o := { dst := some 17, op := Op.call { callee := Callee.value (Operand.func 40), args := #[Operand.tmp 16], argTypes := #[24] }, type := 67, pos := "name.go:24", after := #[{ on := 2, ground := Ground.data }, { on := 1, ground := Ground.chain }], guard := none }) rfl (fun K hK => ?_) AllReadyH.nil
  go_simp
  go_at_call 40
  refine (hn2 _ hHeld.2.2.2.2).mono ?_
  rintro e w2 ⟨A', rfl, hr2, hA', hBa', hBb'⟩
  go_wp2_with fail
  refine hK.out _ _ (hmk _ hBb') (fun hHeld => ?_)
  clear hK K
  try simp only [Act.put, List.setIfInBounds_toArray, List.set_cons_zero, List.set_cons_succ]
  refine wpAnyH_take (i := 4) (oi := { dst := some 5, op := Op.assign (Operand.tmp 15), type := 67, pos := "name.go:24", after := #[{ on := 1, ground := Ground.data }, { on := 3, ground := Ground.chain }, { on := 0, ground := Ground.phase }, { on := 1, ground := Ground.phase }, { on := 2, ground := Ground.textOnly Departure.lateStores }, { on := 3, ground := Ground.textOnly Departure.lateStoresUnsure }], guard := none }) (v := ?_) rfl (by kernel_rfl) (by kernel_rfl) (by kernel_rfl) (fun _ _ _ h => h) (Or.inl ⟨by rfl, ?_⟩) hHeld ?_
  rotate_left 1
  · intro w9 hSw
    try dsimp only at hSw
    go_simp
    try with_reducible rfl
  try simp only [Act.put, List.setIfInBounds_toArray, List.set_cons_zero, List.set_cons_succ]
  refine wpAnyH_take (i := 5) (oi := { dst := some 6, op := Op.assign (Operand.tmp 17), type := 67, pos := "name.go:24", after := #[{ on := 3, ground := Ground.data }, { on := 4, ground := Ground.chain }, { on := 0, ground := Ground.phase }, { on := 1, ground := Ground.phase }, { on := 2, ground := Ground.phase }, { on := 3, ground := Ground.phase }, { on := 4, ground := Ground.phase }], guard := none }) (v := ?_) rfl (by kernel_rfl) (by kernel_rfl) (by kernel_rfl) (fun _ _ _ h => h) (Or.inl ⟨by rfl, ?_⟩) hHeld ?_
  rotate_left 1
  · intro w9 hSw
    try dsimp only at hSw
    go_simp
    try with_reducible rfl
  try simp only [Act.put, List.setIfInBounds_toArray, List.set_cons_zero, List.set_cons_succ]
  refine wpAnyH_done (by kernel_rfl) ?_ _
  clear hHeld
  have hmm := run_make_places n
  have hr1' : RowAt 71 w2 A (M.nml T n n) := hr1.below hBa' hr1.lt
  have hAl : A < w2.heap.size := hr1'.lt
  have hAl' : A' < w2.heap.size := hr2.lt
  have hc2 := hcb.later hBb'
  have hc2' := hcb'.later hBb'
  have hb12 := hb1.later hBb' hb1.lt
  have hb22 := hb2.later hBb' hb2.lt
  have hpl := plc_made U w2
  have hBm : Below w2.heap.size w2 (w2.alloc (.map #[] 0)) := (Below.refl _ _).alloc (Nat.le_refl _) _
  have hC2 := bel_on hB0 hBb'
  clear hn1 hn2 hmk hBa hBb hBa' hBb' hr1 hcb hcb' hb1 hb2 hc hc' hwb hA hA' hB0
  go_wp2_with fail
  go_loopw [23] (fun v wr => ∃ k : Nat, v = .int .i64 k ∧ k ≤ n ∧ Plc U k w2.heap.size wr ∧ Below w2.heap.size w2 wr) (fun v _ => n - (intOf v).toNat)
  case atStart => exact ⟨0, rfl, Nat.zero_le _, hpl, hBm⟩
  case round =>
    clear hmm hpl hBm
    obtain ⟨k, rfl, hk, hP, hB⟩ := hrel
    by_cases hlt : k < n
    · have hr3 := hr2.below hB hAl'
      have hl3 := hr3.lt
      have hcx := hr3.cell (k := k * 2) (by rw [M.nml_length]; omega)
      have hcy := hr3.cell (k := k * 2 + 1) (by rw [M.nml_length]; omega)
      rw [M.nml_row0 U hlt hlt] at hcx
      rw [M.nml_row1 U hlt hlt] at hcy
      have h0 := hU.pr0 k (by omega)
      obtain ⟨x, hx⟩ : ∃ x, (M.pr U k).toNat = x := ⟨_, rfl⟩
      obtain ⟨y, hy⟩ : ∃ y, M.nth U k = y := ⟨_, rfl⟩
      rw [hx] at hcx
      rw [hy] at hcy
      have hPa := hP.kept (World.grownBy_alloc wr (.cells #[.int .i64 (x : Nat), .int .i64 (y : Nat)] 71) none) (by simp)
      have hBa := bel_al hB (.cells #[.int .i64 (x : Nat), .int .i64 (y : Nat)] 71)
      have hE0 := nm_cell0 (w := wr) rfl (x : Nat) (y : Nat)
      have hE1 := nm_cell1 (w := wr) rfl (x : Nat) (y : Nat)
      obtain ⟨wa, hwa⟩ : ∃ wa, wr.alloc (.cells #[.int .i64 (x : Nat), .int .i64 (y : Nat)] 71) = wa := ⟨_, rfl⟩
      rw [hwa] at hPa hBa hE0 hE1
      obtain ⟨w', hrun, hP', hg⟩ := plc_store hU hPa (by omega)
      rw [show M.pr U k = ((x : Nat) : Int) by omega, hy] at hrun
      have hB' : Below w2.heap.size w2 w' := hBa.grown hg hBa.size (fun j hj => by cases hj; exact Nat.le_refl _)
      clear hx hy h0 hP hPa hg
      go_wp2_with fail
      go_roundw
      case rel => exact ⟨k + 1, by go_num, by omega, hP', hB'⟩
      case measure => simp [intOf]; omega
    · obtain rfl : k = n := by omega
      have hb13 := hb12.later hB hb12.lt
      have hb23 := hb22.later hB hb22.lt
      have hk1 := hb13.procs
      have hk2 := hb13.events
      have hk3 := hb23.procs
      have hk4 := hb23.events
      have hr13 := hr1'.below hB hAl
      have hr23 := hr2.below hB hAl'
      have hc3 := hc2.later hB
      have hc3' := hc2'.later hB
      have hC3 := bel_on hC2 hB
      obtain ⟨w3, hw3⟩ : ∃ w3, w3 = wr := ⟨_, rfl⟩
      subst hw3
      go_wp2_with fail
      go_loopw [35] (fun v wx => ∃ i : Nat, v = .int .i64 i ∧ i ≤ k ∧ Hid (M.sameTo T U i = true) ∧ Below w3.heap.size w3 wx) (fun v _ => k - (intOf v).toNat)
      case atStart => exact ⟨0, rfl, Nat.zero_le _, (show M.sameTo T U 0 = true from rfl), Below.refl _ _⟩
      case round =>
        clear hk1 hk2 hk3 hk4 hk hlt hHeld
        obtain ⟨i, rfl, hi, hs, hBx⟩ := hrel
        by_cases hlt : i < k
        · obtain ⟨b, off, rfl, hb, hp1, hp2⟩ := (hc3.later hBx) i (by omega)
          have hiT : i < T.length := by omega
          have ha0 := hT.pr0 i hiT
          have haP := hT.prP i hiT
          have hP5 := hT.p5
          have hf0 := hT.fm0 i hiT
          have hfI := hT.fmI i hiT
          obtain ⟨a, ha⟩ : ∃ a : Nat, M.pr T i = a := ⟨(M.pr T i).toNat, by omega⟩
          obtain ⟨f, hf⟩ : ∃ f, M.fm T i = f := ⟨_, rfl⟩
          rw [ha] at hp1
          rw [hf] at hp2
          have hBa := bel_al hBx (.cells #[.int .i64 (a : Nat), .int .i64 f] 50)
          have hE0 := ev_cell0 (w := wr) rfl (a : Nat) f
          have hE1 := ev_cell1 (w := wr) rfl (a : Nat) f
          have hEl : wr.heap.size < (wr.alloc (.cells #[.int .i64 (a : Nat), .int .i64 f] 50)).heap.size := by simp
          obtain ⟨wa, hwa⟩ : ∃ wa, wr.alloc (.cells #[.int .i64 (a : Nat), .int .i64 f] 50) = wa := ⟨_, rfl⟩
          rw [hwa] at hBa hE0 hE1 hEl
          have hPa := hP.below hBa hP.lt
          have hra := hr13.below hBa hr13.lt
          have hra' := hr23.below hBa hr23.lt
          have hcx := hra.cell (k := i * 2) (by rw [M.nml_length]; omega)
          have hcy := hra.cell (k := i * 2 + 1) (by rw [M.nml_length]; omega)
          rw [M.nml_row0 T hlt hlt, ha, Int.toNat_natCast] at hcx
          rw [M.nml_row1 T hlt hlt] at hcy
          have hyb := M.nth_le T i
          obtain ⟨y, hy⟩ : ∃ y, M.nth T i = y := ⟨_, rfl⟩
          rw [hy] at hcy hyb
          have HA : Hid (M.pr T i = (a : Nat)) := ha
          have HF : Hid (M.fm T i = f) := hf
          have HY : Hid (M.nth T i = y) := hy
          have hbx := hb13.later hBa hb13.lt
          have hbx' := hb23.later hBa hb23.lt
          have hk2 := hbx.events
          have hk4 := hbx'.events
          have ha5 : a < 5 := by omega
          clear ha hf hy
          by_cases hex : ∃ j, j < k ∧ M.keyB T U i j = true
          · obtain ⟨j, hj, hkey⟩ := hex
            have hkey2 : M.pr U j = (a : Nat) ∧ M.nth U j = y := by
              unfold M.keyB at hkey
              simp only [Bool.and_eq_true, beq_iff_eq] at hkey
              rw [HA.out, HY.out] at hkey
              exact ⟨hkey.1.symm, hkey.2.symm⟩
            have hlk := plc_hit hU hPa hj (by omega)
            rw [hkey2.1, hkey2.2] at hlk
            have HK : Hid (M.keyB T U i j = true) := hkey
            obtain ⟨b', off', rfl, hb', hq1, hq2⟩ := (hc3'.later hBa) j (by omega)
            rw [hkey2.1] at hq1
            obtain ⟨g, hg⟩ : ∃ g, M.fm U j = g := ⟨_, rfl⟩
            rw [hg] at hq2
            have HG : Hid (M.fm U j = g) := hg
            clear hkey hkey2 hg
            have hjn : (j : Int) < (k : Int) := by omega
            obtain ⟨⟨x1, y1⟩, hn1⟩ : ∃ x, hnm T f = x := ⟨_, rfl⟩
            obtain ⟨⟨x2, y2⟩, hn2⟩ : ∃ x, hnm U g = x := ⟨_, rfl⟩
            have hf0' : -1 ≤ f ∧ f < k := by rw [← HF.out]; omega
            have hg0' : -1 ≤ g ∧ g < k := by have h1 := hU.fm0 j (by omega); have h2 := hU.fmI j (by omega); rw [HG.out] at h1 h2; omega
            have hh1 : ∀ W, Below wa.heap.size wa W → Calls Tryd.prog 41 #[.agg #[.int .i64 (a : Nat), .int .i64 f], .slice (some ⟨A, 0, none⟩) k k] W fun e w' => e = .returned (.agg #[.int .i64 x1, .int .i64 y1]) ∧ Below wa.heap.size wa w' := fun W hW => by
              refine (heardOf_ok T k A (a : Nat) f W (hra.below hW hra.lt) hf0'.2 hf0'.1 (fun h => hT.pr0 _ (by omega))).mono ?_
              rw [hn1]
              rintro e w' ⟨h1, h2⟩
              exact ⟨h1, bel_on hW h2⟩
            have hh2 : ∀ W, Below wa.heap.size wa W → Calls Tryd.prog 41 #[.agg #[.int .i64 (a : Nat), .int .i64 g], .slice (some ⟨A', 0, none⟩) k k] W fun e w' => e = .returned (.agg #[.int .i64 x2, .int .i64 y2]) ∧ Below wa.heap.size wa w' := fun W hW => by
              refine (heardOf_ok U k A' (a : Nat) g W (hra'.below hW hra'.lt) hg0'.2 hg0'.1 (fun h => hU.pr0 _ (by omega))).mono ?_
              rw [hn2]
              rintro e w' ⟨h1, h2⟩
              exact ⟨h1, bel_on hW h2⟩
            have hmk : ∀ w', Below wa.heap.size wa w' → w'.cell? ⟨wr.heap.size, 0, none⟩ = some (.int .i64 (a : Nat)) ∧ w'.cell? ⟨wr.heap.size, 1, none⟩ = some (.int .i64 f) ∧ w'.cell? ⟨w.heap.size + 1, 1, none⟩ = some (.slice (some ⟨b', off', none⟩) k cap') ∧ w'.cell? ⟨b', off' + j * 2, none⟩ = some (.int .i64 (a : Nat)) ∧ w'.cell? ⟨b', off' + j * 2 + 1, none⟩ = some (.int .i64 g) ∧ Below wa.heap.size wa w' := fun w' h => ⟨(h.cell (p := ⟨wr.heap.size, 0, none⟩) hEl).trans hE0, (h.cell (p := ⟨wr.heap.size, 1, none⟩) hEl).trans hE1, (h.cell (p := ⟨w.heap.size + 1, 1, none⟩) hbx'.lt).trans hk4, (h.cell (p := ⟨b', off' + j * 2, none⟩) hb').trans hq1, (h.cell (p := ⟨b', off' + j * 2 + 1, none⟩) hb').trans hq2, h⟩
            have hneq := neq_names x1 y1 x2 y2
            have HL : Hid (M.linkB T U i j = (x1 == x2 && y1 == y2)) := by
              show _ = _
              rw [Bool.eq_iff_iff, link_hnm hT hU (by omega) (by omega), HF.out, HG.out, hn1, hn2]
              simp
            have HFO : Hid (M.foundTo T U i U.length = (x1 == x2 && y1 == y2)) := by
              show _ = _
              rw [foundTo_one (show j < U.length by omega) HK.out]; exact HL.out
            obtain ⟨t, ht⟩ : ∃ t, (x1 == x2 && y1 == y2) = t := ⟨_, rfl⟩
            rw [ht] at hneq HFO
            clear hHeld hn1 hn2 HL ht
            go_wp2_with fail
            refine wp_region_held_drew (S := fun w' => w'.cell? ⟨wr.heap.size, 0, none⟩ = some (.int .i64 (a : Nat)) ∧ w'.cell? ⟨wr.heap.size, 1, none⟩ = some (.int .i64 f) ∧ w'.cell? ⟨w.heap.size + 1, 1, none⟩ = some (.slice (some ⟨b', off', none⟩) k cap') ∧ w'.cell? ⟨b', off' + j * 2, none⟩ = some (.int .i64 (a : Nat)) ∧ w'.cell? ⟨b', off' + j * 2 + 1, none⟩ = some (.int .i64 g) ∧ Below wa.heap.size wa w') (by kernel_rfl) (hmk _ (Below.refl _ _).drew) (fun hHeld => ?_)
            refine wpAnyH_take (i := 0) (oi := { dst := some 49, op := Op.move (Operand.tmp 13), type := 4, pos := "name.go:31", after := #[], guard := none }) (v := ?_) rfl (by kernel_rfl) (by kernel_rfl) (by kernel_rfl) (fun _ _ _ h => h) (Or.inl ⟨by rfl, ?_⟩) hHeld ?_
            rotate_left 1
            · intro w9 hSw
              try dsimp only at hSw
              go_simp
              try with_reducible rfl
            try simp only [Act.put, List.setIfInBounds_toArray, List.set_cons_zero, List.set_cons_succ]
            refine wpAnyH_take (i := 1) (oi := { dst := some 50, op := Op.unOp UnOp.not 4 (Operand.tmp 49), type := 4, pos := "name.go:31", after := #[{ on := 0, ground := Ground.data }], guard := none }) (v := ?_) rfl (by kernel_rfl) (by kernel_rfl) (by kernel_rfl) (fun _ _ _ h => h) (Or.inl ⟨by rfl, ?_⟩) hHeld ?_
            rotate_left 1
            · intro w9 hSw
              try dsimp only at hSw
              go_simp
              try with_reducible rfl
            try simp only [Act.put, List.setIfInBounds_toArray, List.set_cons_zero, List.set_cons_succ]
            refine wpAnyH_take (i := 2) (oi := { dst := some 51, op := Op.move (Operand.tmp 50), type := 4, pos := "name.go:31", after := #[{ on := 1, ground := Ground.data }], guard := none }) (v := ?_) rfl (by kernel_rfl) (by kernel_rfl) (by kernel_rfl) (fun _ _ _ h => h) (Or.inl ⟨by rfl, ?_⟩) hHeld ?_
            rotate_left 1
            · intro w9 hSw
              try dsimp only at hSw
              go_simp
              try with_reducible rfl
            try simp only [Act.put, List.setIfInBounds_toArray, List.set_cons_zero, List.set_cons_succ]
            refine wpAnyH_take (i := 3) (oi := { dst := some 52, op := Op.load 50 (Operand.tmp 11), type := 50, pos := "name.go:31", after := #[{ on := 2, ground := Ground.guard }], guard := some (2, false) }) (v := ?_) rfl (by kernel_rfl) (by kernel_rfl) (by kernel_rfl) (fun _ _ _ h => h) (Or.inl ⟨by rfl, ?_⟩) hHeld ?_
            rotate_left 1
            · intro w9 hSw
              try dsimp only at hSw
              go_simp
              try with_reducible rfl
            try simp only [Act.put, List.setIfInBounds_toArray, List.set_cons_zero, List.set_cons_succ]
            refine wpAnyH_take (i := 4) (oi := { dst := some 53, op := Op.move (Operand.tmp 5), type := 67, pos := "name.go:31", after := #[{ on := 2, ground := Ground.guard }], guard := some (2, false) }) (v := ?_) rfl (by kernel_rfl) (by kernel_rfl) (by kernel_rfl) (fun _ _ _ h => h) (Or.inl ⟨by rfl, ?_⟩) hHeld ?_
            rotate_left 1
            · intro w9 hSw
              try dsimp only at hSw
              go_simp
              try with_reducible rfl
            try simp only [Act.put, List.setIfInBounds_toArray, List.set_cons_zero, List.set_cons_succ]
            refine wpAnyH_take (i := 6) (oi := { dst := some 55, op := Op.fieldAddr 24 (Operand.tmp 3) 1, type := 0, pos := "name.go:31", after := #[{ on := 2, ground := Ground.guard }], guard := some (2, false) }) (v := ?_) rfl (by kernel_rfl) (by kernel_rfl) (by kernel_rfl) (fun _ _ _ h => h) (Or.inl ⟨by rfl, ?_⟩) hHeld ?_
            rotate_left 1
            · intro w9 hSw
              try dsimp only at hSw
              go_simp
              try with_reducible rfl
            try simp only [Act.put, List.setIfInBounds_toArray, List.set_cons_zero, List.set_cons_succ]
            refine wpAnyH_take (i := 7) (oi := { dst := some 56, op := Op.load 22 (Operand.tmp 55), type := 22, pos := "name.go:31", after := #[{ on := 6, ground := Ground.data }, { on := 2, ground := Ground.guard }], guard := some (2, false) }) (v := ?_) rfl (by kernel_rfl) (by kernel_rfl) (by kernel_rfl) (fun _ _ _ h => h) (Or.inl ⟨by rfl, ?_⟩) hHeld ?_
            rotate_left 1
            · intro w9 hSw
              try dsimp only at hSw
              go_simp
              try with_reducible rfl
            try simp only [Act.put, List.setIfInBounds_toArray, List.set_cons_zero, List.set_cons_succ]
            refine wpAnyH_take (i := 8) (oi := { dst := some 57, op := Op.move (Operand.tmp 12), type := 3, pos := "name.go:31", after := #[{ on := 2, ground := Ground.guard }], guard := some (2, false) }) (v := ?_) rfl (by kernel_rfl) (by kernel_rfl) (by kernel_rfl) (fun _ _ _ h => h) (Or.inl ⟨by rfl, ?_⟩) hHeld ?_
            rotate_left 1
            · intro w9 hSw
              try dsimp only at hSw
              go_simp
              try with_reducible rfl
            try simp only [Act.put, List.setIfInBounds_toArray, List.set_cons_zero, List.set_cons_succ]
            refine wpAnyH_take (i := 9) (oi := { dst := some 58, op := Op.indexAddr 22 (Operand.tmp 56) (Operand.tmp 57), type := 0, pos := "name.go:31", after := #[{ on := 7, ground := Ground.data }, { on := 8, ground := Ground.data }, { on := 2, ground := Ground.guard }], guard := some (2, false) }) (v := ?_) rfl (by kernel_rfl) (by kernel_rfl) (by kernel_rfl) (fun _ _ _ h => h) (Or.inl ⟨by rfl, ?_⟩) hHeld ?_
            rotate_left 1
            · intro w9 hSw
              try dsimp only at hSw
              go_simp
              try with_reducible rfl
            try simp only [Act.put, List.setIfInBounds_toArray, List.set_cons_zero, List.set_cons_succ]
            refine wpAnyH_take (i := 10) (oi := { dst := some 59, op := Op.load 50 (Operand.tmp 58), type := 50, pos := "name.go:31", after := #[{ on := 9, ground := Ground.data }, { on := 2, ground := Ground.guard }], guard := some (2, false) }) (v := ?_) rfl (by kernel_rfl) (by kernel_rfl) (by kernel_rfl) (fun _ _ _ h => h) (Or.inl ⟨by rfl, ?_⟩) hHeld ?_
            rotate_left 1
            · intro w9 hSw
              try dsimp only at hSw
              go_simp
              try with_reducible rfl
            try simp only [Act.put, List.setIfInBounds_toArray, List.set_cons_zero, List.set_cons_succ]
            refine wpAnyH_take (i := 11) (oi := { dst := some 60, op := Op.move (Operand.tmp 6), type := 67, pos := "name.go:31", after := #[{ on := 2, ground := Ground.guard }], guard := some (2, false) }) (v := ?_) rfl (by kernel_rfl) (by kernel_rfl) (by kernel_rfl) (fun _ _ _ h => h) (Or.inl ⟨by rfl, ?_⟩) hHeld ?_
            rotate_left 1
            · intro w9 hSw
              try dsimp only at hSw
              go_simp
              try with_reducible rfl
            try simp only [Act.put, List.setIfInBounds_toArray, List.set_cons_zero, List.set_cons_succ]
            refine wpAnyH_ready (rs := [5]) (by kernel_rfl) (by simp) ?_
            refine AllReadyH.cons (o := { dst := some 54, op := Op.call { callee := Callee.value (Operand.func 41), args := #[Operand.tmp 52, Operand.tmp 53], argTypes := #[50, 67] }, type := 71, pos := "name.go:31", after := #[{ on := 3, ground := Ground.data }, { on := 4, ground := Ground.data }, { on := 2, ground := Ground.chain }, { on := 2, ground := Ground.guard }], guard := some (2, false) }) rfl (fun K hK => ?_) AllReadyH.nil
            go_simp
            go_at_call 41
            refine (hh1 _ hHeld.2.2.2.2.2).mono ?_
            rintro e w4 ⟨rfl, hB4⟩
            go_wp2_with fail
            refine hK.out _ _ (hmk _ hB4) (fun hHeld2 => ?_)
            clear hK K hHeld
            have hHeld := hHeld2
            clear hHeld2
            try simp only [Act.put, List.setIfInBounds_toArray, List.set_cons_zero, List.set_cons_succ]
            refine wpAnyH_ready (rs := [12]) (by kernel_rfl) (by simp) ?_
            refine AllReadyH.cons (o := { dst := some 61, op := Op.call { callee := Callee.value (Operand.func 41), args := #[Operand.tmp 59, Operand.tmp 60], argTypes := #[50, 67] }, type := 71, pos := "name.go:31", after := #[{ on := 10, ground := Ground.data }, { on := 11, ground := Ground.data }, { on := 5, ground := Ground.chain }, { on := 2, ground := Ground.guard }], guard := some (2, false) }) rfl (fun K hK => ?_) AllReadyH.nil
            go_simp
            go_at_call 41
            refine (hh2 _ hHeld.2.2.2.2.2).mono ?_
            rintro e w5 ⟨rfl, hB5⟩
            go_wp2_with fail
            refine hK.out _ _ (hmk _ hB5) (fun hHeld2 => ?_)
            clear hK K hHeld
            have hHeld := hHeld2
            clear hHeld2
            try simp only [Act.put, List.setIfInBounds_toArray, List.set_cons_zero, List.set_cons_succ]
            refine wpAnyH_take (i := 13) (oi := { dst := some 62, op := Op.binOp BinOp.neq 71 (Operand.tmp 54) (Operand.tmp 61) 71, type := 4, pos := "name.go:31", after := #[{ on := 5, ground := Ground.data }, { on := 12, ground := Ground.data }, { on := 2, ground := Ground.guard }], guard := some (2, false) }) (v := ?_) rfl (by kernel_rfl) (by kernel_rfl) (by kernel_rfl) (fun _ _ _ h => h) (Or.inl ⟨by rfl, ?_⟩) hHeld ?_
            rotate_left 1
            · intro w9 hSw
              try dsimp only at hSw
              go_simp
              try with_reducible rfl
            try simp only [Act.put, List.setIfInBounds_toArray, List.set_cons_zero, List.set_cons_succ]
            refine wpAnyH_take (i := 14) (oi := { dst := some 63, op := Op.pick (Operand.tmp 51) (Operand.const (Value.bool true)) (Operand.tmp 62), type := 4, pos := "name.go:31", after := #[{ on := 2, ground := Ground.data }, { on := 13, ground := Ground.data }], guard := none }) (v := ?_) rfl (by kernel_rfl) (by kernel_rfl) (by kernel_rfl) (fun _ _ _ h => h) (Or.inl ⟨by rfl, ?_⟩) hHeld ?_
            rotate_left 1
            · intro w9 hSw
              try dsimp only at hSw
              go_simp
              try with_reducible rfl
            try simp only [Act.put, List.setIfInBounds_toArray, List.set_cons_zero, List.set_cons_succ]
            refine wpAnyH_done (by kernel_rfl) ?_ _
            clear hHeld hmk hh1 hh2 hneq
            have hB6 : Below w3.heap.size w3 w5 := hBa.trans (hB5.mono hBa.size)
            cases t with
            | true =>
              have HN : Hid (M.sameTo T U (i + 1) = true) := by
                show _ = _
                simp only [M.sameTo]
                rw [hs.out, HFO.out]; rfl
              go_wp2_with fail
              go_roundw
              case rel => exact ⟨i + 1, by go_num, by omega, HN, hB6⟩
              case measure => simp [intOf]; omega
            | false =>
              have HN : Hid (M.sameTo T U k = false) := sameTo_false hlt HFO.out
              go_wp2_with fail
              go_ret
              exact ⟨bool_ret HN.out.symm, bel_on hC3 hB6⟩
          · have hlk := plc_miss hPa (x := (a : Nat)) (y := (y : Nat)) (i64_wf (by omega) (by omega)) (i64_wf (by omega) (by omega)) (fun j hj h => hex ⟨j, hj, by
              unfold M.keyB
              rw [HA.out, HY.out, h.1, show M.nth U j = y by have := h.2; omega]
              simp⟩)
            have HN : Hid (M.sameTo T U k = false) := sameTo_false hlt (foundTo_none (fun j hj h => hex ⟨j, by omega, h⟩))
            clear hex hHeld
            go_wp2_with fail
            go_big_quiet (fail)
            go_wp2_with fail
            go_ret
            exact ⟨bool_ret HN.out.symm, bel_on hC3 (bel_drN hBa _)⟩
        · obtain rfl : i = k := by omega
          go_wp2_with fail
          go_ret
          exact ⟨bool_ret hs.out.symm, bel_on hC3 hBx⟩
end Go.Proofs.YtnofgmbpkgnciaaDoor
