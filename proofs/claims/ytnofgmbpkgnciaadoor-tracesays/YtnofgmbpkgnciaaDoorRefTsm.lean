/- The document's own answer on whether two traces are one (package whensteadref2, Same), at traces with no fault; what lay in memory lies as it lay. -/
import Derived.Test.YtnofgmbpkgnciaaDoorRefNth
import Derived.Deep.CutRange
namespace Go.Proofs.YtnofgmbpkgnciaaDoor
open Go.RowKit

theorem found_hit {T U : List (Int × Int)} {i j : Nat} (h : M.keyB T U i j = true) : M.foundTo T U i (j + 1) = M.linkB T U i j := by simp only [M.foundTo]; rw [if_pos h]
theorem found_miss {T U : List (Int × Int)} {i j : Nat} (h : M.keyB T U i j = false) : M.foundTo T U i (j + 1) = M.foundTo T U i j := by simp only [M.foundTo]; rw [if_neg (by rw [h]; simp)]
theorem sameTo_not {T U : List (Int × Int)} {i n : Nat} (hi : i < n) (h : M.foundTo T U i U.length = false) : M.sameTo T U n = false := by
  cases e : M.sameTo T U n with
  | false => rfl
  | true =>
    have := (M.foundTo_iff _).2 ((M.sameTo_iff n).1 e i hi)
    rw [h] at this; cases this
set_option maxRecDepth 100000 in
set_option maxHeartbeats 4000000 in
theorem refSame_ok (P Q : Int) (T U : List (Int × Int)) (p q : Option Addr) (n m cap cap' : Nat) (w : World) (hl : T.length = n) (hl' : U.length = m) (hc : HasE T p w) (hc' : HasE U q w) (hT : M.TOk P T) (hU : M.TOk Q U) :
    Calls Tryd.prog 13 #[trV P p n cap, trV Q q m cap'] w fun e w' => e = .returned (.bool (M.sameB P T Q U)) ∧ Below w.heap.size w w' := by
  have hn : n ≤ 24 := hl ▸ hT.len
  have hm : m ≤ 24 := hl' ▸ hU.len
  have hB0 : Below w.heap.size w ((w.alloc (.cells #[.int .i64 P, .slice p n cap] 24)).alloc (.cells #[.int .i64 Q, .slice q m cap'] 24)) := bel_al (bel_al (Below.refl _ _) _) _
  have hb2 := tbox_new (w.alloc (.cells #[.int .i64 P, .slice p n cap] 24)) Q q m cap'
  rw [show (w.alloc (.cells #[.int .i64 P, .slice p n cap] 24)).heap.size = w.heap.size + 1 by simp] at hb2
  obtain ⟨wb, hwb⟩ : ∃ wb, (w.alloc (.cells #[.int .i64 P, .slice p n cap] 24)).alloc (.cells #[.int .i64 Q, .slice q m cap'] 24) = wb := ⟨_, rfl⟩
  have hb1 : TBox wb w.heap.size P p n cap := hwb ▸ (tbox_new w P p n cap).later (bel_al (Below.refl _ _) (.cells #[.int .i64 Q, .slice q m cap'] 24)) (by simp)
  rw [hwb] at hB0 hb2
  have hcb := hc.later hB0
  have hcb' := hc'.later hB0
  have hk1 := hb1.procs
  have hk2 := hb1.events
  have hk3 := hb2.procs
  have hk4 := hb2.events
  by_cases hPQ : P = Q
  · by_cases hnm : n = m
    · subst hPQ hnm
      have HS : Hid (M.sameB P T P U = M.sameTo T U n) := by
        show _ = _
        unfold M.sameB
        rw [hl, hl']; simp
      go_enter Tryd.func13, Tryd.ntmps13
      go_wp2_with fail
      go_loopw [5] (fun v wr => ∃ i : Nat, v = .int .i64 i ∧ i ≤ n ∧ Hid (M.sameTo T U i = true) ∧ Below wb.heap.size wb wr) (fun v _ => n - (intOf v).toNat)
      case atStart => exact ⟨0, rfl, Nat.zero_le _, (show M.sameTo T U 0 = true from rfl), Below.refl _ _⟩
      case round =>
        clear hk1 hk2 hk3 hk4 hwb
        obtain ⟨i, rfl, hi, hs, hB⟩ := hrel
        have hbr1 := hb1.later hB hb1.lt
        have hbr2 := hb2.later hB hb2.lt
        have hk2 := hbr1.events
        have hk4 := hbr2.events
        by_cases hlt : i < n
        · go_wp2_with fail
          go_loopw [6, 7] (fun u v wr => ∃ (j : Nat) (t : Bool), u = .bool t ∧ v = .int .i64 j ∧ j ≤ n ∧ Hid (t = M.foundTo T U i j) ∧ Below wb.heap.size wb wr) (fun _ v _ => n - (intOf v).toNat)
          case atStart => exact ⟨0, false, rfl, rfl, Nat.zero_le _, (show false = M.foundTo T U i 0 from rfl), hB⟩
          case round =>
            clear hk2 hk4
            obtain ⟨j, t, rfl, rfl, hj, ht, hBs⟩ := hrel
            have hbs1 := hb1.later hBs hb1.lt
            have hbs2 := hb2.later hBs hb2.lt
            have hk2 := hbs1.events
            have hk4 := hbs2.events
            by_cases hjn : j < n
            · obtain ⟨b, off, rfl, hb, hp1, hp2⟩ := (hcb.later hBs) i (by omega)
              obtain ⟨b', off', rfl, hb', hq1, hq2⟩ := (hcb'.later hBs) j (by omega)
              obtain ⟨ai, hai⟩ : ∃ a, M.pr T i = a := ⟨_, rfl⟩
              obtain ⟨aj, haj⟩ : ∃ a, M.pr U j = a := ⟨_, rfl⟩
              obtain ⟨fa, hfa⟩ : ∃ a, M.fm T i = a := ⟨_, rfl⟩
              obtain ⟨fb, hfb⟩ : ∃ a, M.fm U j = a := ⟨_, rfl⟩
              obtain ⟨ni, hni⟩ : ∃ a, M.nth T i = a := ⟨_, rfl⟩
              obtain ⟨nj, hnj⟩ : ∃ a, M.nth U j = a := ⟨_, rfl⟩
              rw [hai] at hp1
              rw [haj] at hq1
              rw [hfa] at hp2
              rw [hfb] at hq2
              have hn1 : ∀ W, Below wb.heap.size wb W → Calls Tryd.prog 29 #[.agg #[.int .i64 P, .slice (some ⟨b, off, none⟩) n cap], .int .i64 (i : Nat)] W fun e w' => e = .returned (.int .i64 (ni : Nat)) ∧ Below wb.heap.size wb w' := fun W hW => by
                refine (nth_ok P T (some ⟨b, off, none⟩) n cap i W hl (hcb.later hW) hn (by omega)).mono ?_
                rintro e w' ⟨h1, h2⟩
                exact ⟨by rw [h1, hni], bel_on hW h2⟩
              have hn2 : ∀ W, Below wb.heap.size wb W → Calls Tryd.prog 29 #[.agg #[.int .i64 P, .slice (some ⟨b', off', none⟩) n cap'], .int .i64 (j : Nat)] W fun e w' => e = .returned (.int .i64 (nj : Nat)) ∧ Below wb.heap.size wb w' := fun W hW => by
                refine (nth_ok P U (some ⟨b', off', none⟩) n cap' j W hl' (hcb'.later hW) hn (by omega)).mono ?_
                rintro e w' ⟨h1, h2⟩
                exact ⟨by rw [h1, hnj], bel_on hW h2⟩
              have hmk : ∀ w', Below wb.heap.size wb w' → w'.cell? ⟨w.heap.size, 0, none⟩ = some (.int .i64 P) ∧ w'.cell? ⟨w.heap.size, 1, none⟩ = some (.slice (some ⟨b, off, none⟩) n cap) ∧ w'.cell? ⟨w.heap.size + 1, 0, none⟩ = some (.int .i64 P) ∧ w'.cell? ⟨w.heap.size + 1, 1, none⟩ = some (.slice (some ⟨b', off', none⟩) n cap') ∧ w'.cell? ⟨b, off + i * 2, none⟩ = some (.int .i64 ai) ∧ w'.cell? ⟨b', off' + j * 2, none⟩ = some (.int .i64 aj) ∧ Below wb.heap.size wb w' := fun w' h => ⟨(hb1.later h hb1.lt).procs, (hb1.later h hb1.lt).events, (hb2.later h hb2.lt).procs, (hb2.later h hb2.lt).events, by
                obtain ⟨_, _, e0, _, h1, _⟩ := (hcb.later h) i (by omega)
                cases e0
                rw [hai] at h1
                exact h1, by
                obtain ⟨_, _, e0, _, h1, _⟩ := (hcb'.later h) j (by omega)
                cases e0
                rw [haj] at h1
                exact h1, h⟩
              have hjI : (j : Int) < (n : Int) := by omega
              have hiI : (i : Int) < (n : Int) := by omega
              obtain ⟨t1, ht1⟩ : ∃ t : Bool, (ai != aj) = t := ⟨_, rfl⟩
              obtain ⟨t2, ht2⟩ : ∃ t : Bool, ((ni : Int) != (nj : Int)) = t := ⟨_, rfl⟩
              obtain ⟨nk, hnk⟩ : ∃ t : Bool, (t1 || t2) = t := ⟨_, rfl⟩
              have HK : Hid (M.keyB T U i j = !nk) := by
                show _ = _
                unfold M.keyB
                rw [hai, haj, hni, hnj, ← hnk, ← ht1, ← ht2, Bool.eq_iff_iff]
                simp
                omega
              have HA : Hid (M.fm T i = fa) := hfa
              have HB : Hid (M.fm U j = fb) := hfb
              clear hai haj hfa hfb hni hnj
              have hk1 := hbs1.procs
              have hk3 := hbs2.procs
              go_upto_region 10 with fail
              go_cut [59] from 31 to 109 (fun u w' => u = .bool nk ∧ Below wb.heap.size wb w')
              case first =>
                cases t1 with
                | true =>
                  clear hn1 hn2 hmk
                  go_big_quiet (fail)
                  go_wp2_with fail
                  go_meet
                  case rel => exact ⟨by subst hnk; rfl, bel_drN hBs _⟩
                | false =>
                  refine wp_region_held_drew (S := fun w' => w'.cell? ⟨w.heap.size, 0, none⟩ = some (.int .i64 P) ∧ w'.cell? ⟨w.heap.size, 1, none⟩ = some (.slice (some ⟨b, off, none⟩) n cap) ∧ w'.cell? ⟨w.heap.size + 1, 0, none⟩ = some (.int .i64 P) ∧ w'.cell? ⟨w.heap.size + 1, 1, none⟩ = some (.slice (some ⟨b', off', none⟩) n cap') ∧ w'.cell? ⟨b, off + i * 2, none⟩ = some (.int .i64 ai) ∧ w'.cell? ⟨b', off' + j * 2, none⟩ = some (.int .i64 aj) ∧ Below wb.heap.size wb w') (by kernel_rfl) (hmk _ hBs.drew) (fun hHeld => ?_)
                  refine wpAnyH_take (i := 0) (oi := { dst := some 38, op := Op.fieldAddr 24 (Operand.tmp 2) 1, type := 0, pos := "trace.go:76", after := #[], guard := none }) (v := ?_) rfl (by kernel_rfl) (by kernel_rfl) (by kernel_rfl) (fun _ _ _ h => h) (Or.inl ⟨by rfl, ?_⟩) hHeld ?_
                  rotate_left 1
                  · intro w9 hSw
                    try dsimp only at hSw
                    go_simp
                    try with_reducible rfl
                  try simp only [Act.put, List.setIfInBounds_toArray, List.set_cons_zero, List.set_cons_succ]
                  refine wpAnyH_take (i := 1) (oi := { dst := some 39, op := Op.load 22 (Operand.tmp 38), type := 22, pos := "trace.go:76", after := #[{ on := 0, ground := Ground.data }], guard := none }) (v := ?_) rfl (by kernel_rfl) (by kernel_rfl) (by kernel_rfl) (fun _ _ _ h => h) (Or.inl ⟨by rfl, ?_⟩) hHeld ?_
                  rotate_left 1
                  · intro w9 hSw
                    try dsimp only at hSw
                    go_simp
                    try with_reducible rfl
                  try simp only [Act.put, List.setIfInBounds_toArray, List.set_cons_zero, List.set_cons_succ]
                  refine wpAnyH_take (i := 2) (oi := { dst := some 40, op := Op.move (Operand.tmp 5), type := 3, pos := "trace.go:76", after := #[], guard := none }) (v := ?_) rfl (by kernel_rfl) (by kernel_rfl) (by kernel_rfl) (fun _ _ _ h => h) (Or.inl ⟨by rfl, ?_⟩) hHeld ?_
                  rotate_left 1
                  · intro w9 hSw
                    try dsimp only at hSw
                    go_simp
                    try with_reducible rfl
                  try simp only [Act.put, List.setIfInBounds_toArray, List.set_cons_zero, List.set_cons_succ]
                  refine wpAnyH_take (i := 3) (oi := { dst := some 41, op := Op.indexAddr 22 (Operand.tmp 39) (Operand.tmp 40), type := 0, pos := "trace.go:76", after := #[{ on := 1, ground := Ground.data }, { on := 2, ground := Ground.data }], guard := none }) (v := ?_) rfl (by kernel_rfl) (by kernel_rfl) (by kernel_rfl) (fun _ _ _ h => h) (Or.inl ⟨by rfl, ?_⟩) hHeld ?_
                  rotate_left 1
                  · intro w9 hSw
                    try dsimp only at hSw
                    go_simp
                    try with_reducible rfl
                  try simp only [Act.put, List.setIfInBounds_toArray, List.set_cons_zero, List.set_cons_succ]
                  refine wpAnyH_take (i := 4) (oi := { dst := some 42, op := Op.fieldAddr 50 (Operand.tmp 41) 0, type := 0, pos := "trace.go:76", after := #[{ on := 3, ground := Ground.data }], guard := none }) (v := ?_) rfl (by kernel_rfl) (by kernel_rfl) (by kernel_rfl) (fun _ _ _ h => h) (Or.inl ⟨by rfl, ?_⟩) hHeld ?_
                  rotate_left 1
                  · intro w9 hSw
                    try dsimp only at hSw
                    go_simp
                    try with_reducible rfl
                  try simp only [Act.put, List.setIfInBounds_toArray, List.set_cons_zero, List.set_cons_succ]
                  refine wpAnyH_take (i := 5) (oi := { dst := some 43, op := Op.load 3 (Operand.tmp 42), type := 3, pos := "trace.go:76", after := #[{ on := 4, ground := Ground.data }], guard := none }) (v := ?_) rfl (by kernel_rfl) (by kernel_rfl) (by kernel_rfl) (fun _ _ _ h => h) (Or.inl ⟨by rfl, ?_⟩) hHeld ?_
                  rotate_left 1
                  · intro w9 hSw
                    try dsimp only at hSw
                    go_simp
                    try with_reducible rfl
                  try simp only [Act.put, List.setIfInBounds_toArray, List.set_cons_zero, List.set_cons_succ]
                  refine wpAnyH_take (i := 6) (oi := { dst := some 44, op := Op.fieldAddr 24 (Operand.tmp 3) 1, type := 0, pos := "trace.go:76", after := #[], guard := none }) (v := ?_) rfl (by kernel_rfl) (by kernel_rfl) (by kernel_rfl) (fun _ _ _ h => h) (Or.inl ⟨by rfl, ?_⟩) hHeld ?_
                  rotate_left 1
                  · intro w9 hSw
                    try dsimp only at hSw
                    go_simp
                    try with_reducible rfl
                  try simp only [Act.put, List.setIfInBounds_toArray, List.set_cons_zero, List.set_cons_succ]
                  refine wpAnyH_take (i := 7) (oi := { dst := some 45, op := Op.load 22 (Operand.tmp 44), type := 22, pos := "trace.go:76", after := #[{ on := 6, ground := Ground.data }], guard := none }) (v := ?_) rfl (by kernel_rfl) (by kernel_rfl) (by kernel_rfl) (fun _ _ _ h => h) (Or.inl ⟨by rfl, ?_⟩) hHeld ?_
                  rotate_left 1
                  · intro w9 hSw
                    try dsimp only at hSw
                    go_simp
                    try with_reducible rfl
                  try simp only [Act.put, List.setIfInBounds_toArray, List.set_cons_zero, List.set_cons_succ]
                  refine wpAnyH_take (i := 8) (oi := { dst := some 46, op := Op.move (Operand.tmp 7), type := 3, pos := "trace.go:76", after := #[], guard := none }) (v := ?_) rfl (by kernel_rfl) (by kernel_rfl) (by kernel_rfl) (fun _ _ _ h => h) (Or.inl ⟨by rfl, ?_⟩) hHeld ?_
                  rotate_left 1
                  · intro w9 hSw
                    try dsimp only at hSw
                    go_simp
                    try with_reducible rfl
                  try simp only [Act.put, List.setIfInBounds_toArray, List.set_cons_zero, List.set_cons_succ]
                  refine wpAnyH_take (i := 9) (oi := { dst := some 47, op := Op.indexAddr 22 (Operand.tmp 45) (Operand.tmp 46), type := 0, pos := "trace.go:76", after := #[{ on := 7, ground := Ground.data }, { on := 8, ground := Ground.data }], guard := none }) (v := ?_) rfl (by kernel_rfl) (by kernel_rfl) (by kernel_rfl) (fun _ _ _ h => h) (Or.inl ⟨by rfl, ?_⟩) hHeld ?_
                  rotate_left 1
                  · intro w9 hSw
                    try dsimp only at hSw
                    go_simp
                    try with_reducible rfl
                  try simp only [Act.put, List.setIfInBounds_toArray, List.set_cons_zero, List.set_cons_succ]
                  refine wpAnyH_take (i := 10) (oi := { dst := some 48, op := Op.fieldAddr 50 (Operand.tmp 47) 0, type := 0, pos := "trace.go:76", after := #[{ on := 9, ground := Ground.data }], guard := none }) (v := ?_) rfl (by kernel_rfl) (by kernel_rfl) (by kernel_rfl) (fun _ _ _ h => h) (Or.inl ⟨by rfl, ?_⟩) hHeld ?_
                  rotate_left 1
                  · intro w9 hSw
                    try dsimp only at hSw
                    go_simp
                    try with_reducible rfl
                  try simp only [Act.put, List.setIfInBounds_toArray, List.set_cons_zero, List.set_cons_succ]
                  refine wpAnyH_take (i := 11) (oi := { dst := some 49, op := Op.load 3 (Operand.tmp 48), type := 3, pos := "trace.go:76", after := #[{ on := 10, ground := Ground.data }], guard := none }) (v := ?_) rfl (by kernel_rfl) (by kernel_rfl) (by kernel_rfl) (fun _ _ _ h => h) (Or.inl ⟨by rfl, ?_⟩) hHeld ?_
                  rotate_left 1
                  · intro w9 hSw
                    try dsimp only at hSw
                    go_simp
                    try with_reducible rfl
                  try simp only [Act.put, List.setIfInBounds_toArray, List.set_cons_zero, List.set_cons_succ]
                  refine wpAnyH_take (i := 12) (oi := { dst := some 50, op := Op.binOp BinOp.neq 3 (Operand.tmp 43) (Operand.tmp 49) 3, type := 4, pos := "trace.go:76", after := #[{ on := 5, ground := Ground.data }, { on := 11, ground := Ground.data }], guard := none }) (v := ?_) rfl (by kernel_rfl) (by kernel_rfl) (by kernel_rfl) (fun _ _ _ h => h) (Or.inl ⟨by rfl, ?_⟩) hHeld ?_
                  rotate_left 1
                  · intro w9 hSw
                    try dsimp only at hSw
                    go_simp
                    try with_reducible rfl
                  try simp only [Act.put, List.setIfInBounds_toArray, List.set_cons_zero, List.set_cons_succ]
                  refine wpAnyH_take (i := 13) (oi := { dst := some 51, op := Op.move (Operand.tmp 50), type := 4, pos := "trace.go:76", after := #[{ on := 12, ground := Ground.data }], guard := none }) (v := ?_) rfl (by kernel_rfl) (by kernel_rfl) (by kernel_rfl) (fun _ _ _ h => h) (Or.inl ⟨by rfl, ?_⟩) hHeld ?_
                  rotate_left 1
                  · intro w9 hSw
                    try dsimp only at hSw
                    go_simp
                    try with_reducible rfl
                  try simp only [Act.put, List.setIfInBounds_toArray, List.set_cons_zero, List.set_cons_succ]
                  refine wpAnyH_take (i := 14) (oi := { dst := some 52, op := Op.load 24 (Operand.tmp 2), type := 24, pos := "trace.go:76", after := #[{ on := 13, ground := Ground.guard }], guard := some (13, false) }) (v := ?_) rfl (by kernel_rfl) (by kernel_rfl) (by kernel_rfl) (fun _ _ _ h => h) (Or.inl ⟨by rfl, ?_⟩) hHeld ?_
                  rotate_left 1
                  · intro w9 hSw
                    try dsimp only at hSw
                    go_simp
                    try with_reducible rfl
                  try simp only [Act.put, List.setIfInBounds_toArray, List.set_cons_zero, List.set_cons_succ]
                  refine wpAnyH_take (i := 15) (oi := { dst := some 53, op := Op.move (Operand.tmp 5), type := 3, pos := "trace.go:76", after := #[{ on := 13, ground := Ground.guard }], guard := some (13, false) }) (v := ?_) rfl (by kernel_rfl) (by kernel_rfl) (by kernel_rfl) (fun _ _ _ h => h) (Or.inl ⟨by rfl, ?_⟩) hHeld ?_
                  rotate_left 1
                  · intro w9 hSw
                    try dsimp only at hSw
                    go_simp
                    try with_reducible rfl
                  try simp only [Act.put, List.setIfInBounds_toArray, List.set_cons_zero, List.set_cons_succ]
                  refine wpAnyH_take (i := 17) (oi := { dst := some 55, op := Op.load 24 (Operand.tmp 3), type := 24, pos := "trace.go:76", after := #[{ on := 13, ground := Ground.guard }], guard := some (13, false) }) (v := ?_) rfl (by kernel_rfl) (by kernel_rfl) (by kernel_rfl) (fun _ _ _ h => h) (Or.inl ⟨by rfl, ?_⟩) hHeld ?_
                  rotate_left 1
                  · intro w9 hSw
                    try dsimp only at hSw
                    go_simp
                    try with_reducible rfl
                  try simp only [Act.put, List.setIfInBounds_toArray, List.set_cons_zero, List.set_cons_succ]
                  refine wpAnyH_take (i := 18) (oi := { dst := some 56, op := Op.move (Operand.tmp 7), type := 3, pos := "trace.go:76", after := #[{ on := 13, ground := Ground.guard }], guard := some (13, false) }) (v := ?_) rfl (by kernel_rfl) (by kernel_rfl) (by kernel_rfl) (fun _ _ _ h => h) (Or.inl ⟨by rfl, ?_⟩) hHeld ?_
                  rotate_left 1
                  · intro w9 hSw
                    try dsimp only at hSw
                    go_simp
                    try with_reducible rfl
                  try simp only [Act.put, List.setIfInBounds_toArray, List.set_cons_zero, List.set_cons_succ]
                  refine wpAnyH_ready (rs := [16]) (by kernel_rfl) (by simp) ?_
                  refine AllReadyH.cons (o := { dst := some 54, op := Op.call { callee := Callee.value (Operand.func 29), args := #[Operand.tmp 52, Operand.tmp 53], argTypes := #[24, 3] }, type := 3, pos := "trace.go:76", after := #[{ on := 14, ground := Ground.data }, { on := 15, ground := Ground.data }, { on := 13, ground := Ground.chain }, { on := 13, ground := Ground.guard }], guard := some (13, false) }) rfl (fun K hK => ?_) AllReadyH.nil
                  go_simp
                  go_at_call 29
                  refine (hn1 _ hHeld.2.2.2.2.2.2).mono ?_
                  rintro e w4 ⟨rfl, hB4⟩
                  go_wp2_with fail
                  refine hK.out _ _ (hmk _ hB4) (fun hHeld2 => ?_)
                  clear hK K hHeld
                  have hHeld := hHeld2
                  clear hHeld2
                  try simp only [Act.put, List.setIfInBounds_toArray, List.set_cons_zero, List.set_cons_succ]
                  refine wpAnyH_ready (rs := [19]) (by kernel_rfl) (by simp) ?_
                  refine AllReadyH.cons (o := { dst := some 57, op := Op.call { callee := Callee.value (Operand.func 29), args := #[Operand.tmp 55, Operand.tmp 56], argTypes := #[24, 3] }, type := 3, pos := "trace.go:76", after := #[{ on := 17, ground := Ground.data }, { on := 18, ground := Ground.data }, { on := 16, ground := Ground.chain }, { on := 13, ground := Ground.guard }], guard := some (13, false) }) rfl (fun K hK => ?_) AllReadyH.nil
                  go_simp
                  go_at_call 29
                  refine (hn2 _ hHeld.2.2.2.2.2.2).mono ?_
                  rintro e w5 ⟨rfl, hB5⟩
                  go_wp2_with fail
                  refine hK.out _ _ (hmk _ hB5) (fun hHeld2 => ?_)
                  clear hK K hHeld
                  have hHeld := hHeld2
                  clear hHeld2
                  try simp only [Act.put, List.setIfInBounds_toArray, List.set_cons_zero, List.set_cons_succ]
                  refine wpAnyH_take (i := 20) (oi := { dst := some 58, op := Op.binOp BinOp.neq 3 (Operand.tmp 54) (Operand.tmp 57) 3, type := 4, pos := "trace.go:76", after := #[{ on := 16, ground := Ground.data }, { on := 19, ground := Ground.data }, { on := 13, ground := Ground.guard }], guard := some (13, false) }) (v := ?_) rfl (by kernel_rfl) (by kernel_rfl) (by kernel_rfl) (fun _ _ _ h => h) (Or.inl ⟨by rfl, ?_⟩) hHeld ?_
                  rotate_left 1
                  · intro w9 hSw
                    try dsimp only at hSw
                    go_simp
                    try with_reducible rfl
                  try simp only [Act.put, List.setIfInBounds_toArray, List.set_cons_zero, List.set_cons_succ]
                  refine wpAnyH_take (i := 21) (oi := { dst := some 59, op := Op.pick (Operand.tmp 51) (Operand.const (Value.bool true)) (Operand.tmp 58), type := 4, pos := "trace.go:76", after := #[{ on := 13, ground := Ground.data }, { on := 20, ground := Ground.data }], guard := none }) (v := ?_) rfl (by kernel_rfl) (by kernel_rfl) (by kernel_rfl) (fun _ _ _ h => h) (Or.inl ⟨by rfl, ?_⟩) hHeld ?_
                  rotate_left 1
                  · intro w9 hSw
                    try dsimp only at hSw
                    go_simp
                    try with_reducible rfl
                  try simp only [Act.put, List.setIfInBounds_toArray, List.set_cons_zero, List.set_cons_succ]
                  refine wpAnyH_done (by kernel_rfl) ?_ _
                  clear hHeld
                  clear hn1 hn2 hmk
                  go_wp2_with fail
                  go_meet
                  case rel => exact ⟨by subst hnk; rfl, hB5⟩
              case rest =>
                obtain ⟨rfl, hBc⟩ := hcut
                clear hn1 hn2 hmk hp1 hq1 hk1 hk2 hk3 hk4 ht1 ht2 hnk hp2 hq2
                cases nk with
                | true =>
                  have HN : Hid (t = M.foundTo T U i (j + 1)) := by show _ = _; rw [found_miss HK.out]; exact ht.out
                  go_wp2_with fail
                  go_roundw
                  case rel => exact ⟨j + 1, t, rfl, by go_num, by omega, HN, hBc⟩
                  case measure => simp [intOf]; omega
                | false =>
                  have HL : Hid (M.foundTo T U i (j + 1) = M.linkB T U i j) := found_hit HK.out
                  have hbc1 := hb1.later hBc hb1.lt
                  have hbc2 := hb2.later hBc hb2.lt
                  have hk1 := hbc1.procs
                  have hk2 := hbc1.events
                  have hk3 := hbc2.procs
                  have hk4 := hbc2.events
                  obtain ⟨_, _, e0, _, _, hp2⟩ := (hcb.later hBc) i (by omega)
                  cases e0
                  obtain ⟨_, _, e0, _, _, hq2⟩ := (hcb'.later hBc) j (by omega)
                  cases e0
                  rw [HA.out] at hp2
                  rw [HB.out] at hq2
                  by_cases ha0 : fa < 0
                  · have d1 : decide (fa < 0) = true := decide_eq_true ha0
                    have d2 : decide (0 ≤ fa) = false := decide_eq_false (by omega)
                    by_cases hb0 : fb < 0
                    · have d3 : decide (fb < 0) = true := decide_eq_true hb0
                      have HN : Hid (true = M.foundTo T U i (j + 1)) := by show _ = _; rw [HL.out]; unfold M.linkB; rw [HA.out, HB.out]; simp [ha0, hb0]
                      clear ha0 hb0
                      go_wp2_with fail
                      go_big_quiet (fail)
                      go_wp2_with fail
                      go_roundw
                      case rel => exact ⟨j + 1, true, rfl, by go_num, by omega, HN, bel_drN hBc _⟩
                      case measure => simp [intOf]; omega
                    · have d3 : decide (fb < 0) = false := decide_eq_false hb0
                      have HN : Hid (false = M.foundTo T U i (j + 1)) := by show _ = _; rw [HL.out]; unfold M.linkB; rw [HA.out, HB.out]; simp [ha0, hb0]; omega
                      clear ha0 hb0
                      go_wp2_with fail
                      go_big_quiet (fail)
                      go_wp2_with fail
                      go_roundw
                      case rel => exact ⟨j + 1, false, rfl, by go_num, by omega, HN, bel_drN hBc _⟩
                      case measure => simp [intOf]; omega
                  · have d1 : decide (fa < 0) = false := decide_eq_false ha0
                    have d2 : decide (0 ≤ fa) = true := decide_eq_true (by omega)
                    by_cases hb0 : fb < 0
                    · have d4 : decide (0 ≤ fb) = false := decide_eq_false (by omega)
                      have HN : Hid (false = M.foundTo T U i (j + 1)) := by show _ = _; rw [HL.out]; unfold M.linkB; rw [HA.out, HB.out]; simp [ha0, hb0]; omega
                      clear ha0 hb0
                      go_wp2_with fail
                      go_big_quiet (fail)
                      go_wp2_with fail
                      go_roundw
                      case rel => exact ⟨j + 1, false, rfl, by go_num, by omega, HN, bel_drN hBc _⟩
                      case measure => simp [intOf]; omega
                    · have hfI := hT.fmI i (by omega)
                      have hgI := hU.fmI j (by omega)
                      rw [HA.out] at hfI
                      rw [HB.out] at hgI
                      obtain ⟨x, rfl⟩ : ∃ x : Nat, fa = x := ⟨fa.toNat, by omega⟩
                      obtain ⟨y, rfl⟩ : ∃ y : Nat, fb = y := ⟨fb.toNat, by omega⟩
                      have d4 : decide ((0 : Int) ≤ (y : Int)) = true := decide_eq_true (by omega)
                      have hxn : x < n := by omega
                      have hyn : y < n := by omega
                      have hxI : (x : Int) < (n : Int) := by omega
                      have hyI : (y : Int) < (n : Int) := by omega
                      clear ha0 hb0 hfI hgI
                      obtain ⟨_, _, e0, _, hx1, _⟩ := (hcb.later hBc) x (by omega)
                      cases e0
                      obtain ⟨_, _, e0, _, hy1, _⟩ := (hcb'.later hBc) y (by omega)
                      cases e0
                      obtain ⟨px, hpx⟩ : ∃ a, M.pr T x = a := ⟨_, rfl⟩
                      obtain ⟨py, hpy⟩ : ∃ a, M.pr U y = a := ⟨_, rfl⟩
                      obtain ⟨nx, hnx⟩ : ∃ a, M.nth T x = a := ⟨_, rfl⟩
                      obtain ⟨ny, hny⟩ : ∃ a, M.nth U y = a := ⟨_, rfl⟩
                      rw [hpx] at hx1
                      rw [hpy] at hy1
                      obtain ⟨t3, ht3⟩ : ∃ t : Bool, (px == py) = t := ⟨_, rfl⟩
                      obtain ⟨t4, ht4⟩ : ∃ t : Bool, ((nx : Int) == (ny : Int)) = t := ⟨_, rfl⟩
                      have HN : Hid ((t3 && t4) = M.foundTo T U i (j + 1)) := by
                        show _ = _
                        rw [HL.out]
                        unfold M.linkB
                        rw [HA.out, HB.out, Int.toNat_natCast, Int.toNat_natCast, hpx, hpy, hnx, hny, ← ht3, ← ht4, Bool.eq_iff_iff]
                        simp
                        omega
                      cases t3 with
                      | false =>
                        clear hpx hpy hnx hny ht4
                        go_wp2_with fail
                        go_big_quiet (fail)
                        go_wp2_with fail
                        go_roundw
                        case rel => exact ⟨j + 1, false, rfl, by go_num, by omega, HN, bel_drN hBc _⟩
                        case measure => simp [intOf]; omega
                      | true =>
                        have hn1 : ∀ W, Below wb.heap.size wb W → Calls Tryd.prog 29 #[.agg #[.int .i64 P, .slice (some ⟨b, off, none⟩) n cap], .int .i64 (x : Nat)] W fun e w' => e = .returned (.int .i64 (nx : Nat)) ∧ Below wb.heap.size wb w' := fun W hW => by
                          refine (nth_ok P T (some ⟨b, off, none⟩) n cap x W hl (hcb.later hW) hn (by omega)).mono ?_
                          rintro e w' ⟨h1, h2⟩
                          exact ⟨by rw [h1, hnx], bel_on hW h2⟩
                        have hn2 : ∀ W, Below wb.heap.size wb W → Calls Tryd.prog 29 #[.agg #[.int .i64 P, .slice (some ⟨b', off', none⟩) n cap'], .int .i64 (y : Nat)] W fun e w' => e = .returned (.int .i64 (ny : Nat)) ∧ Below wb.heap.size wb w' := fun W hW => by
                          refine (nth_ok P U (some ⟨b', off', none⟩) n cap' y W hl' (hcb'.later hW) hn (by omega)).mono ?_
                          rintro e w' ⟨h1, h2⟩
                          exact ⟨by rw [h1, hny], bel_on hW h2⟩
                        have hmk : ∀ w', Below wb.heap.size wb w' → w'.cell? ⟨w.heap.size, 0, none⟩ = some (.int .i64 P) ∧ w'.cell? ⟨w.heap.size, 1, none⟩ = some (.slice (some ⟨b, off, none⟩) n cap) ∧ w'.cell? ⟨w.heap.size + 1, 0, none⟩ = some (.int .i64 P) ∧ w'.cell? ⟨w.heap.size + 1, 1, none⟩ = some (.slice (some ⟨b', off', none⟩) n cap') ∧ w'.cell? ⟨b, off + x * 2, none⟩ = some (.int .i64 px) ∧ w'.cell? ⟨b', off' + y * 2, none⟩ = some (.int .i64 py) ∧ Below wb.heap.size wb w' := fun w' h => ⟨(hb1.later h hb1.lt).procs, (hb1.later h hb1.lt).events, (hb2.later h hb2.lt).procs, (hb2.later h hb2.lt).events, by
                          obtain ⟨_, _, e0, _, h1, _⟩ := (hcb.later h) x (by omega)
                          cases e0
                          rw [hpx] at h1
                          exact h1, by
                          obtain ⟨_, _, e0, _, h1, _⟩ := (hcb'.later h) y (by omega)
                          cases e0
                          rw [hpy] at h1
                          exact h1, h⟩
                        clear hpx hpy hnx hny
                        go_wp2_with fail
                        refine wp_region_held_drew (S := fun w' => w'.cell? ⟨w.heap.size, 0, none⟩ = some (.int .i64 P) ∧ w'.cell? ⟨w.heap.size, 1, none⟩ = some (.slice (some ⟨b, off, none⟩) n cap) ∧ w'.cell? ⟨w.heap.size + 1, 0, none⟩ = some (.int .i64 P) ∧ w'.cell? ⟨w.heap.size + 1, 1, none⟩ = some (.slice (some ⟨b', off', none⟩) n cap') ∧ w'.cell? ⟨b, off + x * 2, none⟩ = some (.int .i64 px) ∧ w'.cell? ⟨b', off' + y * 2, none⟩ = some (.int .i64 py) ∧ Below wb.heap.size wb w') (by kernel_rfl) (hmk _ hBc.drew) (fun hHeld => ?_)
                        refine wpAnyH_take (i := 0) (oi := { dst := some 72, op := Op.move (Operand.tmp 8), type := 3, pos := "trace.go:81", after := #[], guard := none }) (v := ?_) rfl (by kernel_rfl) (by kernel_rfl) (by kernel_rfl) (fun _ _ _ h => h) (Or.inl ⟨by rfl, ?_⟩) hHeld ?_
                        rotate_left 1
                        · intro w9 hSw
                          try dsimp only at hSw
                          go_simp
                          try with_reducible rfl
                        try simp only [Act.put, List.setIfInBounds_toArray, List.set_cons_zero, List.set_cons_succ]
                        refine wpAnyH_take (i := 1) (oi := { dst := some 73, op := Op.binOp BinOp.lss 3 (Operand.tmp 72) (Operand.const (Value.int IntKind.i64 0)) 3, type := 4, pos := "trace.go:81", after := #[{ on := 0, ground := Ground.data }], guard := none }) (v := ?_) rfl (by kernel_rfl) (by kernel_rfl) (by kernel_rfl) (fun _ _ _ h => h) (Or.inl ⟨by rfl, ?_⟩) hHeld ?_
                        rotate_left 1
                        · intro w9 hSw
                          try dsimp only at hSw
                          go_simp
                          try with_reducible rfl
                        try simp only [Act.put, List.setIfInBounds_toArray, List.set_cons_zero, List.set_cons_succ]
                        refine wpAnyH_take (i := 2) (oi := { dst := some 74, op := Op.move (Operand.tmp 73), type := 4, pos := "trace.go:81", after := #[{ on := 1, ground := Ground.data }], guard := none }) (v := ?_) rfl (by kernel_rfl) (by kernel_rfl) (by kernel_rfl) (fun _ _ _ h => h) (Or.inl ⟨by rfl, ?_⟩) hHeld ?_
                        rotate_left 1
                        · intro w9 hSw
                          try dsimp only at hSw
                          go_simp
                          try with_reducible rfl
                        try simp only [Act.put, List.setIfInBounds_toArray, List.set_cons_zero, List.set_cons_succ]
                        refine wpAnyH_take (i := 3) (oi := { dst := some 75, op := Op.move (Operand.tmp 9), type := 3, pos := "trace.go:81", after := #[{ on := 2, ground := Ground.guard }], guard := some (2, true) }) (v := undef) rfl (by kernel_rfl) (by kernel_rfl) (by kernel_rfl) (fun _ _ _ h => h) (Or.inr ⟨by rfl, rfl⟩) hHeld ?_
                        try simp only [Act.put, List.setIfInBounds_toArray, List.set_cons_zero, List.set_cons_succ]
                        refine wpAnyH_take (i := 4) (oi := { dst := some 76, op := Op.binOp BinOp.lss 3 (Operand.tmp 75) (Operand.const (Value.int IntKind.i64 0)) 3, type := 4, pos := "trace.go:81", after := #[{ on := 3, ground := Ground.data }, { on := 2, ground := Ground.guard }], guard := some (2, true) }) (v := undef) rfl (by kernel_rfl) (by kernel_rfl) (by kernel_rfl) (fun _ _ _ h => h) (Or.inr ⟨by rfl, rfl⟩) hHeld ?_
                        try simp only [Act.put, List.setIfInBounds_toArray, List.set_cons_zero, List.set_cons_succ]
                        refine wpAnyH_take (i := 5) (oi := { dst := some 77, op := Op.pick (Operand.tmp 74) (Operand.tmp 76) (Operand.const (Value.bool false)), type := 4, pos := "trace.go:81", after := #[{ on := 2, ground := Ground.data }, { on := 4, ground := Ground.data }], guard := none }) (v := ?_) rfl (by kernel_rfl) (by kernel_rfl) (by kernel_rfl) (fun _ _ _ h => h) (Or.inl ⟨by rfl, ?_⟩) hHeld ?_
                        rotate_left 1
                        · intro w9 hSw
                          try dsimp only at hSw
                          go_simp
                          try with_reducible rfl
                        try simp only [Act.put, List.setIfInBounds_toArray, List.set_cons_zero, List.set_cons_succ]
                        refine wpAnyH_take (i := 6) (oi := { dst := some 78, op := Op.move (Operand.tmp 77), type := 4, pos := "trace.go:81", after := #[{ on := 5, ground := Ground.data }, { on := 2, ground := Ground.chain }], guard := none }) (v := ?_) rfl (by kernel_rfl) (by kernel_rfl) (by kernel_rfl) (fun _ _ _ h => h) (Or.inl ⟨by rfl, ?_⟩) hHeld ?_
                        rotate_left 1
                        · intro w9 hSw
                          try dsimp only at hSw
                          go_simp
                          try with_reducible rfl
                        try simp only [Act.put, List.setIfInBounds_toArray, List.set_cons_zero, List.set_cons_succ]
                        refine wpAnyH_take (i := 7) (oi := { dst := some 79, op := Op.move (Operand.tmp 8), type := 3, pos := "trace.go:81", after := #[{ on := 6, ground := Ground.guard }], guard := some (6, false) }) (v := ?_) rfl (by kernel_rfl) (by kernel_rfl) (by kernel_rfl) (fun _ _ _ h => h) (Or.inl ⟨by rfl, ?_⟩) hHeld ?_
                        rotate_left 1
                        · intro w9 hSw
                          try dsimp only at hSw
                          go_simp
                          try with_reducible rfl
                        try simp only [Act.put, List.setIfInBounds_toArray, List.set_cons_zero, List.set_cons_succ]
                        refine wpAnyH_take (i := 8) (oi := { dst := some 80, op := Op.binOp BinOp.geq 3 (Operand.tmp 79) (Operand.const (Value.int IntKind.i64 0)) 3, type := 4, pos := "trace.go:81", after := #[{ on := 7, ground := Ground.data }, { on := 6, ground := Ground.guard }], guard := some (6, false) }) (v := ?_) rfl (by kernel_rfl) (by kernel_rfl) (by kernel_rfl) (fun _ _ _ h => h) (Or.inl ⟨by rfl, ?_⟩) hHeld ?_
                        rotate_left 1
                        · intro w9 hSw
                          try dsimp only at hSw
                          go_simp
                          try with_reducible rfl
                        try simp only [Act.put, List.setIfInBounds_toArray, List.set_cons_zero, List.set_cons_succ]
                        refine wpAnyH_take (i := 9) (oi := { dst := some 81, op := Op.move (Operand.tmp 80), type := 4, pos := "trace.go:81", after := #[{ on := 8, ground := Ground.data }, { on := 6, ground := Ground.chain }, { on := 6, ground := Ground.guard }], guard := some (6, false) }) (v := ?_) rfl (by kernel_rfl) (by kernel_rfl) (by kernel_rfl) (fun _ _ _ h => h) (Or.inl ⟨by rfl, ?_⟩) hHeld ?_
                        rotate_left 1
                        · intro w9 hSw
                          try dsimp only at hSw
                          go_simp
                          try with_reducible rfl
                        try simp only [Act.put, List.setIfInBounds_toArray, List.set_cons_zero, List.set_cons_succ]
                        refine wpAnyH_take (i := 10) (oi := { dst := some 82, op := Op.move (Operand.tmp 9), type := 3, pos := "trace.go:81", after := #[{ on := 9, ground := Ground.guard }], guard := some (9, true) }) (v := ?_) rfl (by kernel_rfl) (by kernel_rfl) (by kernel_rfl) (fun _ _ _ h => h) (Or.inl ⟨by rfl, ?_⟩) hHeld ?_
                        rotate_left 1
                        · intro w9 hSw
                          try dsimp only at hSw
                          go_simp
                          try with_reducible rfl
                        try simp only [Act.put, List.setIfInBounds_toArray, List.set_cons_zero, List.set_cons_succ]
                        refine wpAnyH_take (i := 11) (oi := { dst := some 83, op := Op.binOp BinOp.geq 3 (Operand.tmp 82) (Operand.const (Value.int IntKind.i64 0)) 3, type := 4, pos := "trace.go:81", after := #[{ on := 10, ground := Ground.data }, { on := 9, ground := Ground.guard }], guard := some (9, true) }) (v := ?_) rfl (by kernel_rfl) (by kernel_rfl) (by kernel_rfl) (fun _ _ _ h => h) (Or.inl ⟨by rfl, ?_⟩) hHeld ?_
                        rotate_left 1
                        · intro w9 hSw
                          try dsimp only at hSw
                          go_simp
                          try with_reducible rfl
                        try simp only [Act.put, List.setIfInBounds_toArray, List.set_cons_zero, List.set_cons_succ]
                        refine wpAnyH_take (i := 12) (oi := { dst := some 84, op := Op.pick (Operand.tmp 81) (Operand.tmp 83) (Operand.const (Value.bool false)), type := 4, pos := "trace.go:81", after := #[{ on := 9, ground := Ground.data }, { on := 11, ground := Ground.data }, { on := 6, ground := Ground.guard }], guard := some (6, false) }) (v := ?_) rfl (by kernel_rfl) (by kernel_rfl) (by kernel_rfl) (fun _ _ _ h => h) (Or.inl ⟨by rfl, ?_⟩) hHeld ?_
                        rotate_left 1
                        · intro w9 hSw
                          try dsimp only at hSw
                          go_simp
                          try with_reducible rfl
                        try simp only [Act.put, List.setIfInBounds_toArray, List.set_cons_zero, List.set_cons_succ]
                        refine wpAnyH_take (i := 13) (oi := { dst := some 85, op := Op.move (Operand.tmp 84), type := 4, pos := "trace.go:81", after := #[{ on := 12, ground := Ground.data }, { on := 9, ground := Ground.chain }, { on := 6, ground := Ground.guard }], guard := some (6, false) }) (v := ?_) rfl (by kernel_rfl) (by kernel_rfl) (by kernel_rfl) (fun _ _ _ h => h) (Or.inl ⟨by rfl, ?_⟩) hHeld ?_
                        rotate_left 1
                        · intro w9 hSw
                          try dsimp only at hSw
                          go_simp
                          try with_reducible rfl
                        try simp only [Act.put, List.setIfInBounds_toArray, List.set_cons_zero, List.set_cons_succ]
                        refine wpAnyH_take (i := 14) (oi := { dst := some 86, op := Op.fieldAddr 24 (Operand.tmp 2) 1, type := 0, pos := "trace.go:81", after := #[{ on := 13, ground := Ground.guard }], guard := some (13, true) }) (v := ?_) rfl (by kernel_rfl) (by kernel_rfl) (by kernel_rfl) (fun _ _ _ h => h) (Or.inl ⟨by rfl, ?_⟩) hHeld ?_
                        rotate_left 1
                        · intro w9 hSw
                          try dsimp only at hSw
                          go_simp
                          try with_reducible rfl
                        try simp only [Act.put, List.setIfInBounds_toArray, List.set_cons_zero, List.set_cons_succ]
                        refine wpAnyH_take (i := 15) (oi := { dst := some 87, op := Op.load 22 (Operand.tmp 86), type := 22, pos := "trace.go:81", after := #[{ on := 14, ground := Ground.data }, { on := 13, ground := Ground.guard }], guard := some (13, true) }) (v := ?_) rfl (by kernel_rfl) (by kernel_rfl) (by kernel_rfl) (fun _ _ _ h => h) (Or.inl ⟨by rfl, ?_⟩) hHeld ?_
                        rotate_left 1
                        · intro w9 hSw
                          try dsimp only at hSw
                          go_simp
                          try with_reducible rfl
                        try simp only [Act.put, List.setIfInBounds_toArray, List.set_cons_zero, List.set_cons_succ]
                        refine wpAnyH_take (i := 16) (oi := { dst := some 88, op := Op.move (Operand.tmp 8), type := 3, pos := "trace.go:81", after := #[{ on := 13, ground := Ground.guard }], guard := some (13, true) }) (v := ?_) rfl (by kernel_rfl) (by kernel_rfl) (by kernel_rfl) (fun _ _ _ h => h) (Or.inl ⟨by rfl, ?_⟩) hHeld ?_
                        rotate_left 1
                        · intro w9 hSw
                          try dsimp only at hSw
                          go_simp
                          try with_reducible rfl
                        try simp only [Act.put, List.setIfInBounds_toArray, List.set_cons_zero, List.set_cons_succ]
                        refine wpAnyH_take (i := 17) (oi := { dst := some 89, op := Op.indexAddr 22 (Operand.tmp 87) (Operand.tmp 88), type := 0, pos := "trace.go:81", after := #[{ on := 15, ground := Ground.data }, { on := 16, ground := Ground.data }, { on := 13, ground := Ground.guard }], guard := some (13, true) }) (v := ?_) rfl (by kernel_rfl) (by kernel_rfl) (by kernel_rfl) (fun _ _ _ h => h) (Or.inl ⟨by rfl, ?_⟩) hHeld ?_
                        rotate_left 1
                        · intro w9 hSw
                          try dsimp only at hSw
                          go_simp
                          try with_reducible rfl
                        try simp only [Act.put, List.setIfInBounds_toArray, List.set_cons_zero, List.set_cons_succ]
                        refine wpAnyH_take (i := 18) (oi := { dst := some 90, op := Op.fieldAddr 50 (Operand.tmp 89) 0, type := 0, pos := "trace.go:81", after := #[{ on := 17, ground := Ground.data }, { on := 13, ground := Ground.guard }], guard := some (13, true) }) (v := ?_) rfl (by kernel_rfl) (by kernel_rfl) (by kernel_rfl) (fun _ _ _ h => h) (Or.inl ⟨by rfl, ?_⟩) hHeld ?_
                        rotate_left 1
                        · intro w9 hSw
                          try dsimp only at hSw
                          go_simp
                          try with_reducible rfl
                        try simp only [Act.put, List.setIfInBounds_toArray, List.set_cons_zero, List.set_cons_succ]
                        refine wpAnyH_take (i := 19) (oi := { dst := some 91, op := Op.load 3 (Operand.tmp 90), type := 3, pos := "trace.go:81", after := #[{ on := 18, ground := Ground.data }, { on := 13, ground := Ground.guard }], guard := some (13, true) }) (v := ?_) rfl (by kernel_rfl) (by kernel_rfl) (by kernel_rfl) (fun _ _ _ h => h) (Or.inl ⟨by rfl, ?_⟩) hHeld ?_
                        rotate_left 1
                        · intro w9 hSw
                          try dsimp only at hSw
                          go_simp
                          try with_reducible rfl
                        try simp only [Act.put, List.setIfInBounds_toArray, List.set_cons_zero, List.set_cons_succ]
                        refine wpAnyH_take (i := 20) (oi := { dst := some 92, op := Op.fieldAddr 24 (Operand.tmp 3) 1, type := 0, pos := "trace.go:81", after := #[{ on := 13, ground := Ground.guard }], guard := some (13, true) }) (v := ?_) rfl (by kernel_rfl) (by kernel_rfl) (by kernel_rfl) (fun _ _ _ h => h) (Or.inl ⟨by rfl, ?_⟩) hHeld ?_
                        rotate_left 1
                        · intro w9 hSw
                          try dsimp only at hSw
                          go_simp
                          try with_reducible rfl
                        try simp only [Act.put, List.setIfInBounds_toArray, List.set_cons_zero, List.set_cons_succ]
                        refine wpAnyH_take (i := 21) (oi := { dst := some 93, op := Op.load 22 (Operand.tmp 92), type := 22, pos := "trace.go:81", after := #[{ on := 20, ground := Ground.data }, { on := 13, ground := Ground.guard }], guard := some (13, true) }) (v := ?_) rfl (by kernel_rfl) (by kernel_rfl) (by kernel_rfl) (fun _ _ _ h => h) (Or.inl ⟨by rfl, ?_⟩) hHeld ?_
                        rotate_left 1
                        · intro w9 hSw
                          try dsimp only at hSw
                          go_simp
                          try with_reducible rfl
                        try simp only [Act.put, List.setIfInBounds_toArray, List.set_cons_zero, List.set_cons_succ]
                        refine wpAnyH_take (i := 22) (oi := { dst := some 94, op := Op.move (Operand.tmp 9), type := 3, pos := "trace.go:81", after := #[{ on := 13, ground := Ground.guard }], guard := some (13, true) }) (v := ?_) rfl (by kernel_rfl) (by kernel_rfl) (by kernel_rfl) (fun _ _ _ h => h) (Or.inl ⟨by rfl, ?_⟩) hHeld ?_
                        rotate_left 1
                        · intro w9 hSw
                          try dsimp only at hSw
                          go_simp
                          try with_reducible rfl
                        try simp only [Act.put, List.setIfInBounds_toArray, List.set_cons_zero, List.set_cons_succ]
                        refine wpAnyH_take (i := 23) (oi := { dst := some 95, op := Op.indexAddr 22 (Operand.tmp 93) (Operand.tmp 94), type := 0, pos := "trace.go:81", after := #[{ on := 21, ground := Ground.data }, { on := 22, ground := Ground.data }, { on := 13, ground := Ground.guard }], guard := some (13, true) }) (v := ?_) rfl (by kernel_rfl) (by kernel_rfl) (by kernel_rfl) (fun _ _ _ h => h) (Or.inl ⟨by rfl, ?_⟩) hHeld ?_
                        rotate_left 1
                        · intro w9 hSw
                          try dsimp only at hSw
                          go_simp
                          try with_reducible rfl
                        try simp only [Act.put, List.setIfInBounds_toArray, List.set_cons_zero, List.set_cons_succ]
                        refine wpAnyH_take (i := 24) (oi := { dst := some 96, op := Op.fieldAddr 50 (Operand.tmp 95) 0, type := 0, pos := "trace.go:81", after := #[{ on := 23, ground := Ground.data }, { on := 13, ground := Ground.guard }], guard := some (13, true) }) (v := ?_) rfl (by kernel_rfl) (by kernel_rfl) (by kernel_rfl) (fun _ _ _ h => h) (Or.inl ⟨by rfl, ?_⟩) hHeld ?_
                        rotate_left 1
                        · intro w9 hSw
                          try dsimp only at hSw
                          go_simp
                          try with_reducible rfl
                        try simp only [Act.put, List.setIfInBounds_toArray, List.set_cons_zero, List.set_cons_succ]
                        refine wpAnyH_take (i := 25) (oi := { dst := some 97, op := Op.load 3 (Operand.tmp 96), type := 3, pos := "trace.go:81", after := #[{ on := 24, ground := Ground.data }, { on := 13, ground := Ground.guard }], guard := some (13, true) }) (v := ?_) rfl (by kernel_rfl) (by kernel_rfl) (by kernel_rfl) (fun _ _ _ h => h) (Or.inl ⟨by rfl, ?_⟩) hHeld ?_
                        rotate_left 1
                        · intro w9 hSw
                          try dsimp only at hSw
                          go_simp
                          try with_reducible rfl
                        try simp only [Act.put, List.setIfInBounds_toArray, List.set_cons_zero, List.set_cons_succ]
                        refine wpAnyH_take (i := 26) (oi := { dst := some 98, op := Op.binOp BinOp.eql 3 (Operand.tmp 91) (Operand.tmp 97) 3, type := 4, pos := "trace.go:81", after := #[{ on := 19, ground := Ground.data }, { on := 25, ground := Ground.data }, { on := 13, ground := Ground.guard }], guard := some (13, true) }) (v := ?_) rfl (by kernel_rfl) (by kernel_rfl) (by kernel_rfl) (fun _ _ _ h => h) (Or.inl ⟨by rfl, ?_⟩) hHeld ?_
                        rotate_left 1
                        · intro w9 hSw
                          try dsimp only at hSw
                          go_simp
                          try with_reducible rfl
                        try simp only [Act.put, List.setIfInBounds_toArray, List.set_cons_zero, List.set_cons_succ]
                        refine wpAnyH_take (i := 27) (oi := { dst := some 99, op := Op.pick (Operand.tmp 85) (Operand.tmp 98) (Operand.const (Value.bool false)), type := 4, pos := "trace.go:81", after := #[{ on := 13, ground := Ground.data }, { on := 26, ground := Ground.data }, { on := 6, ground := Ground.guard }], guard := some (6, false) }) (v := ?_) rfl (by kernel_rfl) (by kernel_rfl) (by kernel_rfl) (fun _ _ _ h => h) (Or.inl ⟨by rfl, ?_⟩) hHeld ?_
                        rotate_left 1
                        · intro w9 hSw
                          try dsimp only at hSw
                          go_simp
                          try with_reducible rfl
                        try simp only [Act.put, List.setIfInBounds_toArray, List.set_cons_zero, List.set_cons_succ]
                        refine wpAnyH_take (i := 28) (oi := { dst := some 100, op := Op.move (Operand.tmp 99), type := 4, pos := "trace.go:81", after := #[{ on := 27, ground := Ground.data }, { on := 13, ground := Ground.chain }, { on := 6, ground := Ground.guard }], guard := some (6, false) }) (v := ?_) rfl (by kernel_rfl) (by kernel_rfl) (by kernel_rfl) (fun _ _ _ h => h) (Or.inl ⟨by rfl, ?_⟩) hHeld ?_
                        rotate_left 1
                        · intro w9 hSw
                          try dsimp only at hSw
                          go_simp
                          try with_reducible rfl
                        try simp only [Act.put, List.setIfInBounds_toArray, List.set_cons_zero, List.set_cons_succ]
                        refine wpAnyH_take (i := 29) (oi := { dst := some 101, op := Op.load 24 (Operand.tmp 2), type := 24, pos := "trace.go:81", after := #[{ on := 28, ground := Ground.guard }], guard := some (28, true) }) (v := ?_) rfl (by kernel_rfl) (by kernel_rfl) (by kernel_rfl) (fun _ _ _ h => h) (Or.inl ⟨by rfl, ?_⟩) hHeld ?_
                        rotate_left 1
                        · intro w9 hSw
                          try dsimp only at hSw
                          go_simp
                          try with_reducible rfl
                        try simp only [Act.put, List.setIfInBounds_toArray, List.set_cons_zero, List.set_cons_succ]
                        refine wpAnyH_take (i := 30) (oi := { dst := some 102, op := Op.move (Operand.tmp 8), type := 3, pos := "trace.go:81", after := #[{ on := 28, ground := Ground.guard }], guard := some (28, true) }) (v := ?_) rfl (by kernel_rfl) (by kernel_rfl) (by kernel_rfl) (fun _ _ _ h => h) (Or.inl ⟨by rfl, ?_⟩) hHeld ?_
                        rotate_left 1
                        · intro w9 hSw
                          try dsimp only at hSw
                          go_simp
                          try with_reducible rfl
                        try simp only [Act.put, List.setIfInBounds_toArray, List.set_cons_zero, List.set_cons_succ]
                        refine wpAnyH_take (i := 32) (oi := { dst := some 104, op := Op.load 24 (Operand.tmp 3), type := 24, pos := "trace.go:81", after := #[{ on := 28, ground := Ground.guard }], guard := some (28, true) }) (v := ?_) rfl (by kernel_rfl) (by kernel_rfl) (by kernel_rfl) (fun _ _ _ h => h) (Or.inl ⟨by rfl, ?_⟩) hHeld ?_
                        rotate_left 1
                        · intro w9 hSw
                          try dsimp only at hSw
                          go_simp
                          try with_reducible rfl
                        try simp only [Act.put, List.setIfInBounds_toArray, List.set_cons_zero, List.set_cons_succ]
                        refine wpAnyH_take (i := 33) (oi := { dst := some 105, op := Op.move (Operand.tmp 9), type := 3, pos := "trace.go:81", after := #[{ on := 28, ground := Ground.guard }], guard := some (28, true) }) (v := ?_) rfl (by kernel_rfl) (by kernel_rfl) (by kernel_rfl) (fun _ _ _ h => h) (Or.inl ⟨by rfl, ?_⟩) hHeld ?_
                        rotate_left 1
                        · intro w9 hSw
                          try dsimp only at hSw
                          go_simp
                          try with_reducible rfl
                        try simp only [Act.put, List.setIfInBounds_toArray, List.set_cons_zero, List.set_cons_succ]
                        refine wpAnyH_ready (rs := [31]) (by kernel_rfl) (by simp) ?_
                        refine AllReadyH.cons (o := { dst := some 103, op := Op.call { callee := Callee.value (Operand.func 29), args := #[Operand.tmp 101, Operand.tmp 102], argTypes := #[24, 3] }, type := 3, pos := "trace.go:81", after := #[{ on := 29, ground := Ground.data }, { on := 30, ground := Ground.data }, { on := 28, ground := Ground.chain }, { on := 28, ground := Ground.guard }], guard := some (28, true) }) rfl (fun K hK => ?_) AllReadyH.nil
                        go_simp
                        go_at_call 29
                        refine (hn1 _ hHeld.2.2.2.2.2.2).mono ?_
                        rintro e w4 ⟨rfl, hB4⟩
                        go_wp2_with fail
                        refine hK.out _ _ (hmk _ hB4) (fun hHeld2 => ?_)
                        clear hK K hHeld
                        have hHeld := hHeld2
                        clear hHeld2
                        try simp only [Act.put, List.setIfInBounds_toArray, List.set_cons_zero, List.set_cons_succ]
                        refine wpAnyH_ready (rs := [34]) (by kernel_rfl) (by simp) ?_
                        refine AllReadyH.cons (o := { dst := some 106, op := Op.call { callee := Callee.value (Operand.func 29), args := #[Operand.tmp 104, Operand.tmp 105], argTypes := #[24, 3] }, type := 3, pos := "trace.go:81", after := #[{ on := 32, ground := Ground.data }, { on := 33, ground := Ground.data }, { on := 31, ground := Ground.chain }, { on := 28, ground := Ground.guard }], guard := some (28, true) }) rfl (fun K hK => ?_) AllReadyH.nil
                        go_simp
                        go_at_call 29
                        refine (hn2 _ hHeld.2.2.2.2.2.2).mono ?_
                        rintro e w5 ⟨rfl, hB5⟩
                        go_wp2_with fail
                        refine hK.out _ _ (hmk _ hB5) (fun hHeld2 => ?_)
                        clear hK K hHeld
                        have hHeld := hHeld2
                        clear hHeld2
                        try simp only [Act.put, List.setIfInBounds_toArray, List.set_cons_zero, List.set_cons_succ]
                        refine wpAnyH_take (i := 35) (oi := { dst := some 107, op := Op.binOp BinOp.eql 3 (Operand.tmp 103) (Operand.tmp 106) 3, type := 4, pos := "trace.go:81", after := #[{ on := 31, ground := Ground.data }, { on := 34, ground := Ground.data }, { on := 28, ground := Ground.guard }], guard := some (28, true) }) (v := ?_) rfl (by kernel_rfl) (by kernel_rfl) (by kernel_rfl) (fun _ _ _ h => h) (Or.inl ⟨by rfl, ?_⟩) hHeld ?_
                        rotate_left 1
                        · intro w9 hSw
                          try dsimp only at hSw
                          go_simp
                          try with_reducible rfl
                        try simp only [Act.put, List.setIfInBounds_toArray, List.set_cons_zero, List.set_cons_succ]
                        refine wpAnyH_take (i := 36) (oi := { dst := some 108, op := Op.pick (Operand.tmp 100) (Operand.tmp 107) (Operand.const (Value.bool false)), type := 4, pos := "trace.go:81", after := #[{ on := 28, ground := Ground.data }, { on := 35, ground := Ground.data }, { on := 6, ground := Ground.guard }], guard := some (6, false) }) (v := ?_) rfl (by kernel_rfl) (by kernel_rfl) (by kernel_rfl) (fun _ _ _ h => h) (Or.inl ⟨by rfl, ?_⟩) hHeld ?_
                        rotate_left 1
                        · intro w9 hSw
                          try dsimp only at hSw
                          go_simp
                          try with_reducible rfl
                        try simp only [Act.put, List.setIfInBounds_toArray, List.set_cons_zero, List.set_cons_succ]
                        refine wpAnyH_take (i := 37) (oi := { dst := some 109, op := Op.pick (Operand.tmp 78) (Operand.const (Value.bool true)) (Operand.tmp 108), type := 4, pos := "trace.go:81", after := #[{ on := 6, ground := Ground.data }, { on := 36, ground := Ground.data }], guard := none }) (v := ?_) rfl (by kernel_rfl) (by kernel_rfl) (by kernel_rfl) (fun _ _ _ h => h) (Or.inl ⟨by rfl, ?_⟩) hHeld ?_
                        rotate_left 1
                        · intro w9 hSw
                          try dsimp only at hSw
                          go_simp
                          try with_reducible rfl
                        try simp only [Act.put, List.setIfInBounds_toArray, List.set_cons_zero, List.set_cons_succ]
                        refine wpAnyH_take (i := 38) (oi := { dst := some 6, op := Op.assign (Operand.tmp 109), type := 4, pos := "trace.go:81", after := #[{ on := 37, ground := Ground.data }, { on := 34, ground := Ground.chain }, { on := 0, ground := Ground.phase }, { on := 1, ground := Ground.phase }, { on := 2, ground := Ground.phase }, { on := 3, ground := Ground.phase }, { on := 4, ground := Ground.phase }, { on := 5, ground := Ground.phase }, { on := 6, ground := Ground.phase }, { on := 7, ground := Ground.phase }, { on := 8, ground := Ground.phase }, { on := 9, ground := Ground.phase }, { on := 10, ground := Ground.phase }, { on := 11, ground := Ground.phase }, { on := 12, ground := Ground.phase }, { on := 13, ground := Ground.phase }, { on := 14, ground := Ground.phase }, { on := 15, ground := Ground.phase }, { on := 16, ground := Ground.phase }, { on := 17, ground := Ground.phase }, { on := 18, ground := Ground.phase }, { on := 19, ground := Ground.phase }, { on := 20, ground := Ground.phase }, { on := 21, ground := Ground.phase }, { on := 22, ground := Ground.phase }, { on := 23, ground := Ground.phase }, { on := 24, ground := Ground.phase }, { on := 25, ground := Ground.phase }, { on := 26, ground := Ground.phase }, { on := 27, ground := Ground.phase }, { on := 28, ground := Ground.phase }, { on := 29, ground := Ground.phase }, { on := 30, ground := Ground.phase }, { on := 31, ground := Ground.phase }, { on := 32, ground := Ground.phase }, { on := 33, ground := Ground.phase }, { on := 34, ground := Ground.phase }, { on := 35, ground := Ground.phase }, { on := 36, ground := Ground.phase }, { on := 37, ground := Ground.phase }], guard := none }) (v := ?_) rfl (by kernel_rfl) (by kernel_rfl) (by kernel_rfl) (fun _ _ _ h => h) (Or.inl ⟨by rfl, ?_⟩) hHeld ?_
                        rotate_left 1
                        · intro w9 hSw
                          try dsimp only at hSw
                          go_simp
                          try with_reducible rfl
                        try simp only [Act.put, List.setIfInBounds_toArray, List.set_cons_zero, List.set_cons_succ]
                        refine wpAnyH_done (by kernel_rfl) ?_ _
                        clear hHeld
                        clear hn1 hn2 hmk
                        go_wp2_with fail
                        go_roundw
                        case rel => exact ⟨j + 1, t4, rfl, by go_num, by omega, by simpa using HN, hB5⟩
                        case measure => simp [intOf]; omega
            · obtain rfl : j = n := by omega
              cases t with
              | true =>
                have HN : Hid (M.sameTo T U (i + 1) = true) := by
                  show _ = _
                  simp only [M.sameTo]
                  rw [hs.out, hl', ← ht.out]; rfl
                go_wp2_with fail
                go_roundw
                case rel => exact ⟨i + 1, by go_num, by omega, HN, hBs⟩
                case measure => simp [intOf]; omega
              | false =>
                have HN : Hid (M.sameTo T U j = false) := sameTo_not hlt (by rw [hl']; exact ht.out.symm)
                go_wp2_with fail
                go_ret
                exact ⟨by rw [HS.out, HN.out]; rfl, bel_on hB0 hBs⟩
        · obtain rfl : i = n := by omega
          go_wp2_with fail
          go_ret
          exact ⟨by rw [HS.out, hs.out]; rfl, bel_on hB0 hB⟩
    · subst hPQ
      have HS : Hid (M.sameB P T P U = false) := by
        show _ = _
        unfold M.sameB
        rw [hl, hl', show (n == m) = false by simpa using hnm]; simp
      have hd2 : ((n : Int) != (m : Int)) = true := by simp; omega
      clear hnm
      go_enter Tryd.func13, Tryd.ntmps13
      go_wp2_with fail
      go_ret
      exact ⟨by rw [HS.out]; rfl, hB0⟩
  · have HS : Hid (M.sameB P T Q U = false) := by
      show _ = _
      unfold M.sameB
      rw [show (P == Q) = false by simpa using hPQ]; rfl
    have hd2 : (P != Q) = true := by simpa using hPQ
    clear hPQ
    go_enter Tryd.func13, Tryd.ntmps13
    go_wp2_with fail
    go_ret
    exact ⟨by rw [HS.out]; rfl, hB0⟩
end Go.Proofs.YtnofgmbpkgnciaaDoor
