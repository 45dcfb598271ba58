/- The document's own stamps (package whensteadref2, Stamps), at a trace and times with no fault; what lay in memory lies as it lay. -/
import Derived.Test.YtckejldbbkibhaaDoorRefTbf
import Derived.Test.YtckejldbbkibhaaDoorRefNth
import Derived.Test.YtckejldbbkibhaaDoorHst
import Derived.Test.YtckejldbbkibhaaDoorRefBig
import Derived.Deep.CutRange
namespace Go.Proofs.YtckejldbbkibhaaDoor
open Go.RowKit
namespace M
theorem stF_more (T : List (Int × Int)) (t : Nat → Nat) {i x : Nat} (h : x < i * 2) : stF T t (i + 1) x = stF T t i x := by
  unfold stF
  rw [if_pos (show x / 2 < i + 1 by omega), if_pos (show x / 2 < i by omega)]
theorem stl_snoc (T : List (Int × Int)) (t : Nat → Nat) (i : Nat) : stl T t (i + 1) (i + 1) = stl T t i i ++ [((hT T t i : Nat) : Int), ((hC T t i : Nat) : Int)] := by
  have e0 : stF T t (i + 1) (i * 2) = (hT T t i : Nat) := by unfold stF; rw [if_pos (by omega), if_pos (by omega), show i * 2 / 2 = i by omega]
  have e1 : stF T t (i + 1) (i * 2 + 1) = (hC T t i : Nat) := by unfold stF; rw [if_pos (by omega), if_neg (by omega), show (i * 2 + 1) / 2 = i by omega]
  unfold stl
  rw [show (i + 1) * 2 = i * 2 + 1 + 1 by omega, List.range_succ, List.range_succ]
  simp only [List.map_append, List.map_cons, List.map_nil, e0, e1, List.append_assoc, List.cons_append, List.nil_append]
  congr 1
  apply List.map_congr_left
  intro x hx
  exact stF_more T t (by simpa using hx)
theorem hcn_no {T : List (Int × Int)} {t f : Nat → Nat} {i j : Nat} (h : ¬ (imm T j i = true ∧ hT T t j = hT T t i ∧ hcn T t f i j < f j + 1)) : hcn T t f i (j + 1) = hcn T t f i j := by simp only [hcn]; rw [if_neg h]
theorem hcn_yes {T : List (Int × Int)} {t f : Nat → Nat} {i j : Nat} (h1 : imm T j i = true) (h2 : hT T t j = hT T t i) (h3 : hcn T t f i j < f j + 1) : hcn T t f i (j + 1) = f j + 1 := by simp only [hcn]; rw [if_pos ⟨h1, h2, h3⟩]
theorem hcn_bound {T : List (Int × Int)} {t : Nat → Nat} {i : Nat} (m : Nat) : hcn T t (hC T t) i m ≤ m := by
  rcases hcn_at T t (hC T t) i m with e | ⟨j, a, _, _, e⟩
  · omega
  · have := hC_le T t j; omega
theorem mxf_noZ {x : Nat} {f : Nat → Nat} {s k : Nat} (h : ¬ (x.testBit k = true ∧ mxf x f s k < f k)) : mxf x f s (k + 1) = mxf x f s k := by simp only [mxf]; rw [if_neg h]
theorem mxf_yesZ {x : Nat} {f : Nat → Nat} {s k : Nat} (h1 : x.testBit k = true) (h2 : mxf x f s k < f k) : mxf x f s (k + 1) = f k := by simp only [mxf]; rw [if_pos ⟨h1, h2⟩]
end M
/-- Whole numbers as cells. -/
def zcells (m : List Int) : List Value := m.map fun x => Value.int .i64 x
theorem hasZ_of_owns {w : World} {base n cap : Nat} {p : Option Addr} {m : List Int} (hm : m.length = n * 2) (h : w.ownsRow base 27 2 (.slice p n cap) n (zcells m)) : HasI m p w := by
  rcases h.2 with ⟨e, rfl⟩ | ⟨g, cap, cur, e, hb, hg, h1, h2, h3, h4⟩
  · exact fun j hj => by omega
  · cases e
    refine fun j hj => ⟨g, 0, rfl, (Array.getElem?_eq_some_iff.1 hg).1, ?_⟩
    have hc := h.cellAt j (by omega)
    rw [Nat.zero_add, hc]
    unfold zcells
    rw [List.getElem?_map]
    simp [hj]
theorem cell_two_new (w : World) (x y : Value) (t : TypeId) : ∀ j u, [x, y][j]? = some u → (w.alloc (.cells #[x, y] t)).cell? ((⟨w.heap.size, 0, none⟩ : Addr).add j) = some u := by
  intro j u hj
  match j, hj with
  | 0, hj =>
    simp at hj
    subst hj
    simp [Addr.add]
  | 1, hj =>
    simp at hj
    subst hj
    simp [Addr.add]
set_option maxRecDepth 100000 in
set_option maxHeartbeats 8000000 in
theorem refStamps_ok (P : Int) (T : List (Int × Int)) (p : Option Addr) (n cap : Nat) (zs : List Int) (q : Option Addr) (cap2 : Nat) (w : World) (hl : T.length = n) (hc : HasE T p w) (hz : HasI zs q w) (hok : M.HOk P T zs) :
    Calls Tryd.prog 7 #[trV P p n cap, .slice q n cap2] w fun e w' => ∃ q c, e = .returned (.slice q n c) ∧ HasI (M.stl T (M.tm zs) n n) q w' ∧ Below w.heap.size w w' := by
  have hn : n ≤ 24 := hl ▸ hok.tr.len
  have hl2 : zs.length = n := hok.len.trans hl
  have hB0 : Below w.heap.size w (w.alloc (.cells #[.int .i64 P, .slice p n cap] 24)) := (Below.refl _ _).alloc (Nat.le_refl _) _
  have hcb := hc.later hB0
  have hbox := tbox_new w P p n cap
  obtain ⟨i0, hi0, hzz⟩ := Option.map_eq_some_iff.1 infoStamp
  simp only [Prod.mk.injEq] at hzz
  obtain ⟨hz0, hz1, hz2⟩ := hzz
  go_enter Tryd.func7, Tryd.ntmps7
  go_wp2_with fail
  refine (refBefore_ok P T p n cap _ hl hcb hok.tr).mono ?_
  rintro e w1 ⟨qb, cb, rfl, hb0, hB1⟩
  have hC1 := bel_on hB0 hB1
  have hbx := hbox.later hB1 (by simp)
  have hcb1 := hc.later hC1
  have hzb := hz.later hC1
  clear hB0 hB1 hcb hbox
  go_wp2_with fail
  go_loopw [6, 7] (fun v c wr => ∃ i : Nat, i ≤ n ∧ c = .int .i64 i ∧ wr.ownsRow w1.heap.size 27 2 v i (zcells (M.stl T (M.tm zs) i i)) ∧ Below w1.heap.size w1 wr) (fun _ c _ => n - (intOf c).toNat)
  case atStart => exact ⟨0, Nat.zero_le _, rfl, World.ownsRow_nil _ _ _ _, Below.refl _ _⟩
  case round =>
    obtain ⟨wo, hwo⟩ : ∃ wo, wo = wr := ⟨_, rfl⟩
    subst hwo
    obtain ⟨i, hi, rfl, hown, hB⟩ := hrel
    by_cases hlt : i < n
    · obtain ⟨qo, co, rfl⟩ := owns_slice hown
      have hhas := hasZ_of_owns (M.stl_length T (M.tm zs) i i) hown
      have hT : i < T.length := by omega
      have hzi := hok.tm hT
      obtain ⟨ti, hti⟩ : ∃ x, M.tm zs i = x := ⟨_, rfl⟩
      have HTI : Hid (M.tm zs i = ti) := hti
      rw [hti] at hzi
      obtain ⟨bz, oz, rfl, hbz, hcz⟩ := (hzb.later hB).at_ (show i < zs.length by omega) hzi
      have hiI : (i : Int) < (n : Int) := by omega
      have hxb : M.bs T i < 16777216 := by have h1 := M.bs_lt T i; have h2 := pow_24 i (by omega); omega
      obtain ⟨x, hx⟩ : ∃ x, M.bs T i = x := ⟨_, rfl⟩
      have HX : Hid (M.bs T i = x) := hx
      rw [hx] at hxb
      clear hti hx hzi
      go_wp2_with fail
      obtain ⟨w2, hw2⟩ : ∃ w2, wo.alloc (.cells #[.int .i64 (ti : Nat), .int .i64 0] 27) = w2 := ⟨_, rfl⟩
      have hL2 : RowZ 27 w2 wo.heap.size [(ti : Int), 0] := by
        subst hw2
        unfold RowZ
        rw [World.alloc_heap_new]
        rfl
      have hB2 : Below wo.heap.size wo w2 := hw2 ▸ bel_al (Below.refl _ _) _
      rw [hw2]
      go_loopw [9] (fun v wr2 => ∃ (j s : Nat), v = .int .i64 j ∧ j ≤ i ∧ Hid (s = M.mxf x (M.tm zs) ti j) ∧ RowZ 27 wr2 wo.heap.size [(s : Int), 0] ∧ Below wo.heap.size wo wr2) (fun v _ => i - (intOf v).toNat)
      case atStart => exact ⟨0, ti, rfl, Nat.zero_le _, show ti = M.mxf x (M.tm zs) ti 0 from rfl, hL2, hB2⟩
      case round =>
        clear hcz hw2 hL2 hB2 hbz
        obtain ⟨j, s, rfl, hj, hs, hL, hBs⟩ := hrel
        have hBw := bel_on hB hBs
        have hLl := hL.lt
        by_cases hji : j < i
        · obtain ⟨b1, o1, rfl, hb1l, hcx⟩ := (hb0.later hBw) i (by rw [ints_length, M.before_length]; omega)
          rw [ints_get, M.before_row T (by omega), HX.out] at hcx
          have hzj := hok.tm (show j < T.length by omega)
          obtain ⟨tj, htj⟩ : ∃ y, M.tm zs j = y := ⟨_, rfl⟩
          have HTJ : Hid (M.tm zs j = tj) := htj
          rw [htj] at hzj
          obtain ⟨_, _, e0, hbz, hcj⟩ := (hzb.later hBw).at_ (show j < zs.length by omega) hzj
          cases e0
          have hq0 := hL.cell (k := 0) (by simp)
          change wr.cell? _ = some (.int .i64 (s : Nat)) at hq0
          have hf0 := hL.frozen 0
          obtain ⟨tb, htb⟩ : ∃ t, x.testBit j = t := ⟨_, rfl⟩
          have HTB : Hid (x.testBit j = tb) := htb
          have hbit : ∀ W, Calls Tryd.prog 16 #[.int .i64 x, .int .i64 j] W fun e w' => e = .returned (.bool tb) ∧ W = w' := fun W => by rw [← htb]; exact bit_big x j W (by omega) (by omega)
          have hjn : j < n := by omega
          have hjI : (j : Int) < (n : Int) := by omega
          have hne : b1 ≠ wo.heap.size ∨ b1 = wo.heap.size := by omega
          clear htj htb hzj
          cases tb with
          | false =>
            have HS : Hid (s = M.mxf x (M.tm zs) ti (j + 1)) := by show _ = _; rw [M.mxf_noZ (fun h => by rw [HTB.out] at h; exact absurd h.1 (by simp))]; exact hs.out
            go_wp2_with fail
            go_big_quiet ((go_at_call 16; exact Calls.quiet_of_same ((hbit _).mono (fun e w' h => ⟨h.1, h.2.symm⟩))))
            go_wp2_with fail
            go_roundw
            case rel => exact ⟨j + 1, s, by go_num, by omega, HS, hL.below (below_drewN _ _) hLl, bel_drN hBs _⟩
            case measure => simp [intOf]; omega
          | true =>
            by_cases hgt : s < tj
            · have g1 : decide ((s : Int) < (tj : Int)) = true := decide_eq_true (by omega)
              have g2 : decide (s < tj) = true := decide_eq_true hgt
              have HS : Hid (tj = M.mxf x (M.tm zs) ti (j + 1)) := by show _ = _; rw [M.mxf_yesZ HTB.out (by rw [← hs.out, HTJ.out]; exact hgt)]; exact HTJ.out.symm
              clear hgt
              go_wp2_with fail
              go_big_quiet ((go_at_call 16; exact Calls.quiet_of_same ((hbit _).mono (fun e w' h => ⟨h.1, h.2.symm⟩))))
              go_wp2_with fail
              go_roundw
              case rel => exact ⟨j + 1, tj, by go_num, by omega, HS, (hL.below (below_drewN _ _) hLl).set 0 (tj : Nat), (bel_drN hBs _).setCell (p := ⟨wo.heap.size, 0, none⟩) (Nat.le_refl _) _⟩
              case measure => simp [intOf]; omega
            · have g1 : decide ((s : Int) < (tj : Int)) = false := decide_eq_false (by omega)
              have g2 : decide (s < tj) = false := decide_eq_false hgt
              have HS : Hid (s = M.mxf x (M.tm zs) ti (j + 1)) := by show _ = _; rw [M.mxf_noZ (fun h => by have := h.2; rw [← hs.out, HTJ.out] at this; exact hgt this)]; exact hs.out
              clear hgt
              go_wp2_with fail
              go_big_quiet ((go_at_call 16; exact Calls.quiet_of_same ((hbit _).mono (fun e w' h => ⟨h.1, h.2.symm⟩))))
              go_wp2_with fail
              go_roundw
              case rel => exact ⟨j + 1, s, by go_num, by omega, HS, hL.below (below_drewN _ _) hLl, bel_drN hBs _⟩
              case measure => simp [intOf]; omega
        · obtain rfl : i = j := by omega
          have HV : Hid (M.hT T (M.tm zs) i = s) := by show _ = _; rw [hs.out]; unfold M.hT; rw [HX.out, HTI.out]
          clear hs
          go_wp2_with fail
          go_loopw [10] (fun v wr3 => ∃ (j c : Nat), v = .int .i64 j ∧ j ≤ i ∧ Hid (c = M.hcn T (M.tm zs) (M.hC T (M.tm zs)) i j) ∧ RowZ 27 wr3 wo.heap.size [(s : Int), (c : Int)] ∧ Below wo.heap.size wo wr3) (fun v _ => i - (intOf v).toNat)
          case atStart => exact ⟨0, 0, rfl, Nat.zero_le _, show 0 = M.hcn T (M.tm zs) (M.hC T (M.tm zs)) i 0 from rfl, hL, hBs⟩
          case round =>
            clear hL hLl hBs hBw
            obtain ⟨j, c, rfl, hj, hcn, hL, hBs⟩ := hrel
            have hBw := bel_on hB hBs
            have hLl := hL.lt
            by_cases hji : j < i
            · have hbr := hbx.later hBw hbx.lt
              have hk1 := hbr.procs
              have hk2 := hbr.events
              have hbl := hbr.lt
              obtain ⟨b, off, rfl, hbb, hp1, hp2⟩ := (hcb1.later hBw) i (by omega)
              obtain ⟨_, _, e0, _, hq1, -⟩ := (hcb1.later hBw) j (by omega)
              cases e0
              obtain ⟨ai, hai⟩ : ∃ a, M.pr T i = a := ⟨_, rfl⟩
              obtain ⟨aj, haj⟩ : ∃ a, M.pr T j = a := ⟨_, rfl⟩
              obtain ⟨fi, hfi⟩ : ∃ a, M.fm T i = a := ⟨_, rfl⟩
              obtain ⟨ni, hni⟩ : ∃ a, M.nth T i = a := ⟨_, rfl⟩
              obtain ⟨nj, hnj⟩ : ∃ a, M.nth T j = a := ⟨_, rfl⟩
              have hnb : nj ≤ 24 := by rw [← hnj]; have := M.nth_le T j; omega
              rw [hai] at hp1
              rw [haj] at hq1
              rw [hfi] at hp2
              obtain ⟨t1, ht1⟩ : ∃ t : Bool, (fi == (j : Int)) = t := ⟨_, rfl⟩
              obtain ⟨t2, ht2⟩ : ∃ t : Bool, (aj == ai) = t := ⟨_, rfl⟩
              obtain ⟨t3, ht3⟩ : ∃ t : Bool, (((nj + 1 : Nat) : Int) == (ni : Int)) = t := ⟨_, rfl⟩
              obtain ⟨ah, hah⟩ : ∃ t : Bool, (t1 || (t2 && t3)) = t := ⟨_, rfl⟩
              have HI : Hid (M.imm T j i = ah) := by
                show _ = _
                unfold M.imm
                have e3 : (nj + 1 == ni) = t3 := by rw [← ht3, Bool.eq_iff_iff, beq_iff_eq, beq_iff_eq]; omega
                rw [hai, haj, hfi, hni, hnj, ht1, ht2, e3, ← hah]
              have hjn : j < n := by omega
              have hjI : (j : Int) < (n : Int) := by omega
              have hn1 : ∀ W, Below wr.heap.size wr W → Calls Tryd.prog 17 #[.agg #[.int .i64 P, .slice (some ⟨b, off, none⟩) n cap], .int .i64 (j : Nat)] W fun e w' => e = .returned (.int .i64 (nj : Nat)) ∧ Below wr.heap.size wr w' := fun W hW => by
                refine (nth_ok P T (some ⟨b, off, none⟩) n cap j W hl ((hcb1.later hBw).later hW) hn (by omega)).mono ?_
                rintro e w' ⟨h1, h2⟩
                exact ⟨by rw [h1, hnj], bel_on hW h2⟩
              have hn2 : ∀ W, Below wr.heap.size wr W → Calls Tryd.prog 17 #[.agg #[.int .i64 P, .slice (some ⟨b, off, none⟩) n cap], .int .i64 (i : Nat)] W fun e w' => e = .returned (.int .i64 (ni : Nat)) ∧ Below wr.heap.size wr w' := fun W hW => by
                refine (nth_ok P T (some ⟨b, off, none⟩) n cap i W hl ((hcb1.later hBw).later hW) hn (by omega)).mono ?_
                rintro e w' ⟨h1, h2⟩
                exact ⟨by rw [h1, hni], bel_on hW h2⟩
              have hmk : ∀ w', Below wr.heap.size wr w' → w'.cell? ⟨w.heap.size, 0, none⟩ = some (.int .i64 P) ∧ w'.cell? ⟨w.heap.size, 1, none⟩ = some (.slice (some ⟨b, off, none⟩) n cap) ∧ w'.cell? ⟨b, off + i * 2, none⟩ = some (.int .i64 ai) ∧ w'.cell? ⟨b, off + j * 2, none⟩ = some (.int .i64 aj) ∧ w'.cell? ⟨b, off + i * 2 + 1, none⟩ = some (.int .i64 fi) ∧ Below wr.heap.size wr w' := fun w' h => ⟨(h.cell (p := ⟨w.heap.size, 0, none⟩) hbl).trans hk1, (h.cell (p := ⟨w.heap.size, 1, none⟩) hbl).trans hk2, (h.cell (p := ⟨b, off + i * 2, none⟩) hbb).trans hp1, (h.cell (p := ⟨b, off + j * 2, none⟩) hbb).trans hq1, (h.cell (p := ⟨b, off + i * 2 + 1, none⟩) hbb).trans hp2, h⟩
              have hni1 : (nj : Int) + 1 = ((nj + 1 : Nat) : Int) := by omega
              obtain ⟨nj1, hnj1⟩ : ∃ y, nj + 1 = y := ⟨_, rfl⟩
              rw [hnj1] at hni1 ht3
              have ht3b : (nj1 == ni) = t3 := by rw [← ht3, Bool.eq_iff_iff, beq_iff_eq, beq_iff_eq]; omega
              clear hnj1 hai haj hfi hni hnj
              go_upto_region 15 with fail
              go_cut [11] from 50 to 116 (fun u w' => u = .bool ah ∧ Below wr.heap.size wr w')
              case first =>
                cases t1 with
                | true =>
                  clear hn1 hn2 hmk
                  go_big_quiet (fail)
                  go_wp2_with fail
                  go_meet
                  case rel => exact ⟨by subst hah; rfl, below_drewN _ _⟩
                | false =>
                  cases t2 with
                  | false =>
                    clear hn1 hn2 hmk
                    go_big_quiet (fail)
                    go_wp2_with fail
                    go_meet
                    case rel => exact ⟨by subst hah; rfl, below_drewN _ _⟩
                  | true =>
                    refine wp_region_held_drew (S := fun w' => w'.cell? ⟨w.heap.size, 0, none⟩ = some (.int .i64 P) ∧ w'.cell? ⟨w.heap.size, 1, none⟩ = some (.slice (some ⟨b, off, none⟩) n cap) ∧ w'.cell? ⟨b, off + i * 2, none⟩ = some (.int .i64 ai) ∧ w'.cell? ⟨b, off + j * 2, none⟩ = some (.int .i64 aj) ∧ w'.cell? ⟨b, off + i * 2 + 1, none⟩ = some (.int .i64 fi) ∧ Below wr.heap.size wr w') (by kernel_rfl) (hmk _ (Below.refl _ _).drew) (fun hHeld => ?_)
                    refine wpAnyH_take (i := 0) (oi := { dst := some 55, op := Op.fieldAddr 24 (Operand.tmp 2) 1, type := 0, pos := "trace.go:164", after := #[], guard := none }) (v := ?_) rfl (by kernel_rfl) (by kernel_rfl) (by kernel_rfl) (fun _ _ _ h => h) (Or.inl ⟨by rfl, ?_⟩) hHeld ?_
                    rotate_left 1
                    · intro w9 hSw
                      try dsimp only at hSw
                      go_simp
                      try with_reducible rfl
                    try simp only [Act.put, List.setIfInBounds_toArray, List.set_cons_zero, List.set_cons_succ]
                    refine wpAnyH_take (i := 1) (oi := { dst := some 56, op := Op.load 22 (Operand.tmp 55), type := 22, pos := "trace.go:164", after := #[{ on := 0, ground := Ground.data }], guard := none }) (v := ?_) rfl (by kernel_rfl) (by kernel_rfl) (by kernel_rfl) (fun _ _ _ h => h) (Or.inl ⟨by rfl, ?_⟩) hHeld ?_
                    rotate_left 1
                    · intro w9 hSw
                      try dsimp only at hSw
                      go_simp
                      try with_reducible rfl
                    try simp only [Act.put, List.setIfInBounds_toArray, List.set_cons_zero, List.set_cons_succ]
                    refine wpAnyH_take (i := 2) (oi := { dst := some 57, op := Op.move (Operand.tmp 7), type := 3, pos := "trace.go:164", after := #[], guard := none }) (v := ?_) rfl (by kernel_rfl) (by kernel_rfl) (by kernel_rfl) (fun _ _ _ h => h) (Or.inl ⟨by rfl, ?_⟩) hHeld ?_
                    rotate_left 1
                    · intro w9 hSw
                      try dsimp only at hSw
                      go_simp
                      try with_reducible rfl
                    try simp only [Act.put, List.setIfInBounds_toArray, List.set_cons_zero, List.set_cons_succ]
                    refine wpAnyH_take (i := 3) (oi := { dst := some 58, op := Op.indexAddr 22 (Operand.tmp 56) (Operand.tmp 57), type := 0, pos := "trace.go:164", after := #[{ on := 1, ground := Ground.data }, { on := 2, ground := Ground.data }], guard := none }) (v := ?_) rfl (by kernel_rfl) (by kernel_rfl) (by kernel_rfl) (fun _ _ _ h => h) (Or.inl ⟨by rfl, ?_⟩) hHeld ?_
                    rotate_left 1
                    · intro w9 hSw
                      try dsimp only at hSw
                      go_simp
                      try with_reducible rfl
                    try simp only [Act.put, List.setIfInBounds_toArray, List.set_cons_zero, List.set_cons_succ]
                    refine wpAnyH_take (i := 4) (oi := { dst := some 59, op := Op.fieldAddr 48 (Operand.tmp 58) 1, type := 0, pos := "trace.go:164", after := #[{ on := 3, ground := Ground.data }], guard := none }) (v := ?_) rfl (by kernel_rfl) (by kernel_rfl) (by kernel_rfl) (fun _ _ _ h => h) (Or.inl ⟨by rfl, ?_⟩) hHeld ?_
                    rotate_left 1
                    · intro w9 hSw
                      try dsimp only at hSw
                      go_simp
                      try with_reducible rfl
                    try simp only [Act.put, List.setIfInBounds_toArray, List.set_cons_zero, List.set_cons_succ]
                    refine wpAnyH_take (i := 5) (oi := { dst := some 60, op := Op.load 3 (Operand.tmp 59), type := 3, pos := "trace.go:164", after := #[{ on := 4, ground := Ground.data }], guard := none }) (v := ?_) rfl (by kernel_rfl) (by kernel_rfl) (by kernel_rfl) (fun _ _ _ h => h) (Or.inl ⟨by rfl, ?_⟩) hHeld ?_
                    rotate_left 1
                    · intro w9 hSw
                      try dsimp only at hSw
                      go_simp
                      try with_reducible rfl
                    try simp only [Act.put, List.setIfInBounds_toArray, List.set_cons_zero, List.set_cons_succ]
                    refine wpAnyH_take (i := 6) (oi := { dst := some 61, op := Op.move (Operand.tmp 10), type := 3, pos := "trace.go:164", after := #[], guard := none }) (v := ?_) rfl (by kernel_rfl) (by kernel_rfl) (by kernel_rfl) (fun _ _ _ h => h) (Or.inl ⟨by rfl, ?_⟩) hHeld ?_
                    rotate_left 1
                    · intro w9 hSw
                      try dsimp only at hSw
                      go_simp
                      try with_reducible rfl
                    try simp only [Act.put, List.setIfInBounds_toArray, List.set_cons_zero, List.set_cons_succ]
                    refine wpAnyH_take (i := 7) (oi := { dst := some 62, op := Op.binOp BinOp.eql 3 (Operand.tmp 60) (Operand.tmp 61) 3, type := 4, pos := "trace.go:164", after := #[{ on := 5, ground := Ground.data }, { on := 6, ground := Ground.data }], guard := none }) (v := ?_) rfl (by kernel_rfl) (by kernel_rfl) (by kernel_rfl) (fun _ _ _ h => h) (Or.inl ⟨by rfl, ?_⟩) hHeld ?_
                    rotate_left 1
                    · intro w9 hSw
                      try dsimp only at hSw
                      go_simp
                      try with_reducible rfl
                    try simp only [Act.put, List.setIfInBounds_toArray, List.set_cons_zero, List.set_cons_succ]
                    refine wpAnyH_take (i := 8) (oi := { dst := some 63, op := Op.move (Operand.tmp 62), type := 4, pos := "trace.go:164", after := #[{ on := 7, ground := Ground.data }], guard := none }) (v := ?_) rfl (by kernel_rfl) (by kernel_rfl) (by kernel_rfl) (fun _ _ _ h => h) (Or.inl ⟨by rfl, ?_⟩) hHeld ?_
                    rotate_left 1
                    · intro w9 hSw
                      try dsimp only at hSw
                      go_simp
                      try with_reducible rfl
                    try simp only [Act.put, List.setIfInBounds_toArray, List.set_cons_zero, List.set_cons_succ]
                    refine wpAnyH_take (i := 9) (oi := { dst := some 64, op := Op.fieldAddr 24 (Operand.tmp 2) 1, type := 0, pos := "trace.go:164", after := #[{ on := 8, ground := Ground.guard }], guard := some (8, false) }) (v := ?_) rfl (by kernel_rfl) (by kernel_rfl) (by kernel_rfl) (fun _ _ _ h => h) (Or.inl ⟨by rfl, ?_⟩) hHeld ?_
                    rotate_left 1
                    · intro w9 hSw
                      try dsimp only at hSw
                      go_simp
                      try with_reducible rfl
                    try simp only [Act.put, List.setIfInBounds_toArray, List.set_cons_zero, List.set_cons_succ]
                    refine wpAnyH_take (i := 10) (oi := { dst := some 65, op := Op.load 22 (Operand.tmp 64), type := 22, pos := "trace.go:164", after := #[{ on := 9, ground := Ground.data }, { on := 8, ground := Ground.guard }], guard := some (8, false) }) (v := ?_) rfl (by kernel_rfl) (by kernel_rfl) (by kernel_rfl) (fun _ _ _ h => h) (Or.inl ⟨by rfl, ?_⟩) hHeld ?_
                    rotate_left 1
                    · intro w9 hSw
                      try dsimp only at hSw
                      go_simp
                      try with_reducible rfl
                    try simp only [Act.put, List.setIfInBounds_toArray, List.set_cons_zero, List.set_cons_succ]
                    refine wpAnyH_take (i := 11) (oi := { dst := some 66, op := Op.move (Operand.tmp 10), type := 3, pos := "trace.go:164", after := #[{ on := 8, ground := Ground.guard }], guard := some (8, false) }) (v := ?_) rfl (by kernel_rfl) (by kernel_rfl) (by kernel_rfl) (fun _ _ _ h => h) (Or.inl ⟨by rfl, ?_⟩) hHeld ?_
                    rotate_left 1
                    · intro w9 hSw
                      try dsimp only at hSw
                      go_simp
                      try with_reducible rfl
                    try simp only [Act.put, List.setIfInBounds_toArray, List.set_cons_zero, List.set_cons_succ]
                    refine wpAnyH_take (i := 12) (oi := { dst := some 67, op := Op.indexAddr 22 (Operand.tmp 65) (Operand.tmp 66), type := 0, pos := "trace.go:164", after := #[{ on := 10, ground := Ground.data }, { on := 11, ground := Ground.data }, { on := 8, ground := Ground.guard }], guard := some (8, false) }) (v := ?_) rfl (by kernel_rfl) (by kernel_rfl) (by kernel_rfl) (fun _ _ _ h => h) (Or.inl ⟨by rfl, ?_⟩) hHeld ?_
                    rotate_left 1
                    · intro w9 hSw
                      try dsimp only at hSw
                      go_simp
                      try with_reducible rfl
                    try simp only [Act.put, List.setIfInBounds_toArray, List.set_cons_zero, List.set_cons_succ]
                    refine wpAnyH_take (i := 13) (oi := { dst := some 68, op := Op.fieldAddr 48 (Operand.tmp 67) 0, type := 0, pos := "trace.go:164", after := #[{ on := 12, ground := Ground.data }, { on := 8, ground := Ground.guard }], guard := some (8, false) }) (v := ?_) rfl (by kernel_rfl) (by kernel_rfl) (by kernel_rfl) (fun _ _ _ h => h) (Or.inl ⟨by rfl, ?_⟩) hHeld ?_
                    rotate_left 1
                    · intro w9 hSw
                      try dsimp only at hSw
                      go_simp
                      try with_reducible rfl
                    try simp only [Act.put, List.setIfInBounds_toArray, List.set_cons_zero, List.set_cons_succ]
                    refine wpAnyH_take (i := 14) (oi := { dst := some 69, op := Op.load 3 (Operand.tmp 68), type := 3, pos := "trace.go:164", after := #[{ on := 13, ground := Ground.data }, { on := 8, ground := Ground.guard }], guard := some (8, false) }) (v := ?_) rfl (by kernel_rfl) (by kernel_rfl) (by kernel_rfl) (fun _ _ _ h => h) (Or.inl ⟨by rfl, ?_⟩) hHeld ?_
                    rotate_left 1
                    · intro w9 hSw
                      try dsimp only at hSw
                      go_simp
                      try with_reducible rfl
                    try simp only [Act.put, List.setIfInBounds_toArray, List.set_cons_zero, List.set_cons_succ]
                    refine wpAnyH_take (i := 15) (oi := { dst := some 70, op := Op.fieldAddr 24 (Operand.tmp 2) 1, type := 0, pos := "trace.go:164", after := #[{ on := 8, ground := Ground.guard }], guard := some (8, false) }) (v := ?_) rfl (by kernel_rfl) (by kernel_rfl) (by kernel_rfl) (fun _ _ _ h => h) (Or.inl ⟨by rfl, ?_⟩) hHeld ?_
                    rotate_left 1
                    · intro w9 hSw
                      try dsimp only at hSw
                      go_simp
                      try with_reducible rfl
                    try simp only [Act.put, List.setIfInBounds_toArray, List.set_cons_zero, List.set_cons_succ]
                    refine wpAnyH_take (i := 16) (oi := { dst := some 71, op := Op.load 22 (Operand.tmp 70), type := 22, pos := "trace.go:164", after := #[{ on := 15, ground := Ground.data }, { on := 8, ground := Ground.guard }], guard := some (8, false) }) (v := ?_) rfl (by kernel_rfl) (by kernel_rfl) (by kernel_rfl) (fun _ _ _ h => h) (Or.inl ⟨by rfl, ?_⟩) hHeld ?_
                    rotate_left 1
                    · intro w9 hSw
                      try dsimp only at hSw
                      go_simp
                      try with_reducible rfl
                    try simp only [Act.put, List.setIfInBounds_toArray, List.set_cons_zero, List.set_cons_succ]
                    refine wpAnyH_take (i := 17) (oi := { dst := some 72, op := Op.move (Operand.tmp 7), type := 3, pos := "trace.go:164", after := #[{ on := 8, ground := Ground.guard }], guard := some (8, false) }) (v := ?_) rfl (by kernel_rfl) (by kernel_rfl) (by kernel_rfl) (fun _ _ _ h => h) (Or.inl ⟨by rfl, ?_⟩) hHeld ?_
                    rotate_left 1
                    · intro w9 hSw
                      try dsimp only at hSw
                      go_simp
                      try with_reducible rfl
                    try simp only [Act.put, List.setIfInBounds_toArray, List.set_cons_zero, List.set_cons_succ]
                    refine wpAnyH_take (i := 18) (oi := { dst := some 73, op := Op.indexAddr 22 (Operand.tmp 71) (Operand.tmp 72), type := 0, pos := "trace.go:164", after := #[{ on := 16, ground := Ground.data }, { on := 17, ground := Ground.data }, { on := 8, ground := Ground.guard }], guard := some (8, false) }) (v := ?_) rfl (by kernel_rfl) (by kernel_rfl) (by kernel_rfl) (fun _ _ _ h => h) (Or.inl ⟨by rfl, ?_⟩) hHeld ?_
                    rotate_left 1
                    · intro w9 hSw
                      try dsimp only at hSw
                      go_simp
                      try with_reducible rfl
                    try simp only [Act.put, List.setIfInBounds_toArray, List.set_cons_zero, List.set_cons_succ]
                    refine wpAnyH_take (i := 19) (oi := { dst := some 74, op := Op.fieldAddr 48 (Operand.tmp 73) 0, type := 0, pos := "trace.go:164", after := #[{ on := 18, ground := Ground.data }, { on := 8, ground := Ground.guard }], guard := some (8, false) }) (v := ?_) rfl (by kernel_rfl) (by kernel_rfl) (by kernel_rfl) (fun _ _ _ h => h) (Or.inl ⟨by rfl, ?_⟩) hHeld ?_
                    rotate_left 1
                    · intro w9 hSw
                      try dsimp only at hSw
                      go_simp
                      try with_reducible rfl
                    try simp only [Act.put, List.setIfInBounds_toArray, List.set_cons_zero, List.set_cons_succ]
                    refine wpAnyH_take (i := 20) (oi := { dst := some 75, op := Op.load 3 (Operand.tmp 74), type := 3, pos := "trace.go:164", after := #[{ on := 19, ground := Ground.data }, { on := 8, ground := Ground.guard }], guard := some (8, false) }) (v := ?_) rfl (by kernel_rfl) (by kernel_rfl) (by kernel_rfl) (fun _ _ _ h => h) (Or.inl ⟨by rfl, ?_⟩) hHeld ?_
                    rotate_left 1
                    · intro w9 hSw
                      try dsimp only at hSw
                      go_simp
                      try with_reducible rfl
                    try simp only [Act.put, List.setIfInBounds_toArray, List.set_cons_zero, List.set_cons_succ]
                    refine wpAnyH_take (i := 21) (oi := { dst := some 76, op := Op.binOp BinOp.eql 3 (Operand.tmp 69) (Operand.tmp 75) 3, type := 4, pos := "trace.go:164", after := #[{ on := 14, ground := Ground.data }, { on := 20, ground := Ground.data }, { on := 8, ground := Ground.guard }], guard := some (8, false) }) (v := ?_) rfl (by kernel_rfl) (by kernel_rfl) (by kernel_rfl) (fun _ _ _ h => h) (Or.inl ⟨by rfl, ?_⟩) hHeld ?_
                    rotate_left 1
                    · intro w9 hSw
                      try dsimp only at hSw
                      go_simp
                      try with_reducible rfl
                    try simp only [Act.put, List.setIfInBounds_toArray, List.set_cons_zero, List.set_cons_succ]
                    refine wpAnyH_take (i := 22) (oi := { dst := some 77, op := Op.move (Operand.tmp 76), type := 4, pos := "trace.go:164", after := #[{ on := 21, ground := Ground.data }, { on := 8, ground := Ground.chain }, { on := 8, ground := Ground.guard }], guard := some (8, false) }) (v := ?_) rfl (by kernel_rfl) (by kernel_rfl) (by kernel_rfl) (fun _ _ _ h => h) (Or.inl ⟨by rfl, ?_⟩) hHeld ?_
                    rotate_left 1
                    · intro w9 hSw
                      try dsimp only at hSw
                      go_simp
                      try with_reducible rfl
                    try simp only [Act.put, List.setIfInBounds_toArray, List.set_cons_zero, List.set_cons_succ]
                    refine wpAnyH_take (i := 23) (oi := { dst := some 78, op := Op.load 24 (Operand.tmp 2), type := 24, pos := "trace.go:164", after := #[{ on := 22, ground := Ground.guard }], guard := some (22, true) }) (v := ?_) rfl (by kernel_rfl) (by kernel_rfl) (by kernel_rfl) (fun _ _ _ h => h) (Or.inl ⟨by rfl, ?_⟩) hHeld ?_
                    rotate_left 1
                    · intro w9 hSw
                      try dsimp only at hSw
                      go_simp
                      try with_reducible rfl
                    try simp only [Act.put, List.setIfInBounds_toArray, List.set_cons_zero, List.set_cons_succ]
                    refine wpAnyH_take (i := 24) (oi := { dst := some 79, op := Op.move (Operand.tmp 10), type := 3, pos := "trace.go:164", after := #[{ on := 22, ground := Ground.guard }], guard := some (22, true) }) (v := ?_) rfl (by kernel_rfl) (by kernel_rfl) (by kernel_rfl) (fun _ _ _ h => h) (Or.inl ⟨by rfl, ?_⟩) hHeld ?_
                    rotate_left 1
                    · intro w9 hSw
                      try dsimp only at hSw
                      go_simp
                      try with_reducible rfl
                    try simp only [Act.put, List.setIfInBounds_toArray, List.set_cons_zero, List.set_cons_succ]
                    refine wpAnyH_take (i := 27) (oi := { dst := some 82, op := Op.load 24 (Operand.tmp 2), type := 24, pos := "trace.go:164", after := #[{ on := 22, ground := Ground.guard }], guard := some (22, true) }) (v := ?_) rfl (by kernel_rfl) (by kernel_rfl) (by kernel_rfl) (fun _ _ _ h => h) (Or.inl ⟨by rfl, ?_⟩) hHeld ?_
                    rotate_left 1
                    · intro w9 hSw
                      try dsimp only at hSw
                      go_simp
                      try with_reducible rfl
                    try simp only [Act.put, List.setIfInBounds_toArray, List.set_cons_zero, List.set_cons_succ]
                    refine wpAnyH_take (i := 28) (oi := { dst := some 83, op := Op.move (Operand.tmp 7), type := 3, pos := "trace.go:164", after := #[{ on := 22, ground := Ground.guard }], guard := some (22, true) }) (v := ?_) rfl (by kernel_rfl) (by kernel_rfl) (by kernel_rfl) (fun _ _ _ h => h) (Or.inl ⟨by rfl, ?_⟩) hHeld ?_
                    rotate_left 1
                    · intro w9 hSw
                      try dsimp only at hSw
                      go_simp
                      try with_reducible rfl
                    try simp only [Act.put, List.setIfInBounds_toArray, List.set_cons_zero, List.set_cons_succ]
                    refine wpAnyH_ready (rs := [25]) (by kernel_rfl) (by simp) ?_
                    refine AllReadyH.cons (o := { dst := some 80, op := Op.call { callee := Callee.value (Operand.func 17), args := #[Operand.tmp 78, Operand.tmp 79], argTypes := #[24, 3] }, type := 3, pos := "trace.go:164", after := #[{ on := 23, ground := Ground.data }, { on := 24, ground := Ground.data }, { on := 22, ground := Ground.chain }, { on := 22, ground := Ground.guard }], guard := some (22, true) }) rfl (fun K hK => ?_) AllReadyH.nil
                    go_simp
                    go_at_call 17
                    refine (hn1 _ hHeld.2.2.2.2.2).mono ?_
                    rintro e w4 ⟨rfl, hB4⟩
                    go_wp2_with fail
                    refine hK.out _ _ (hmk _ hB4) (fun hHeld2 => ?_)
                    clear hK K hHeld
                    have hHeld := hHeld2
                    clear hHeld2
                    try simp only [Act.put, List.setIfInBounds_toArray, List.set_cons_zero, List.set_cons_succ]
                    refine wpAnyH_take (i := 26) (oi := { dst := some 81, op := Op.binOp BinOp.add 3 (Operand.tmp 80) (Operand.const (Value.int IntKind.i64 1)) 3, type := 3, pos := "trace.go:164", after := #[{ on := 25, ground := Ground.data }, { on := 22, ground := Ground.guard }], guard := some (22, true) }) (v := ?_) rfl (by kernel_rfl) (by kernel_rfl) (by kernel_rfl) (fun _ _ _ h => h) (Or.inl ⟨by rfl, ?_⟩) hHeld ?_
                    rotate_left 1
                    · intro w9 hSw
                      try dsimp only at hSw
                      go_simp
                      try with_reducible rfl
                    try simp only [Act.put, List.setIfInBounds_toArray, List.set_cons_zero, List.set_cons_succ]
                    refine wpAnyH_ready (rs := [29]) (by kernel_rfl) (by simp) ?_
                    refine AllReadyH.cons (o := { dst := some 84, op := Op.call { callee := Callee.value (Operand.func 17), args := #[Operand.tmp 82, Operand.tmp 83], argTypes := #[24, 3] }, type := 3, pos := "trace.go:164", after := #[{ on := 27, ground := Ground.data }, { on := 28, ground := Ground.data }, { on := 25, ground := Ground.chain }, { on := 22, ground := Ground.guard }], guard := some (22, true) }) rfl (fun K hK => ?_) AllReadyH.nil
                    go_simp
                    go_at_call 17
                    refine (hn2 _ hHeld.2.2.2.2.2).mono ?_
                    rintro e w5 ⟨rfl, hB5⟩
                    go_wp2_with fail
                    refine hK.out _ _ (hmk _ hB5) (fun hHeld2 => ?_)
                    clear hK K hHeld
                    have hHeld := hHeld2
                    clear hHeld2
                    try simp only [Act.put, List.setIfInBounds_toArray, List.set_cons_zero, List.set_cons_succ]
                    refine wpAnyH_take (i := 30) (oi := { dst := some 85, op := Op.binOp BinOp.eql 3 (Operand.tmp 81) (Operand.tmp 84) 3, type := 4, pos := "trace.go:164", after := #[{ on := 26, ground := Ground.data }, { on := 29, ground := Ground.data }, { on := 22, ground := Ground.guard }], guard := some (22, true) }) (v := ?_) rfl (by kernel_rfl) (by kernel_rfl) (by kernel_rfl) (fun _ _ _ h => h) (Or.inl ⟨by rfl, ?_⟩) hHeld ?_
                    rotate_left 1
                    · intro w9 hSw
                      try dsimp only at hSw
                      go_simp
                      try with_reducible rfl
                    try simp only [Act.put, List.setIfInBounds_toArray, List.set_cons_zero, List.set_cons_succ]
                    refine wpAnyH_take (i := 31) (oi := { dst := some 86, op := Op.pick (Operand.tmp 77) (Operand.tmp 85) (Operand.const (Value.bool false)), type := 4, pos := "trace.go:164", after := #[{ on := 22, ground := Ground.data }, { on := 30, ground := Ground.data }, { on := 8, ground := Ground.guard }], guard := some (8, false) }) (v := ?_) rfl (by kernel_rfl) (by kernel_rfl) (by kernel_rfl) (fun _ _ _ h => h) (Or.inl ⟨by rfl, ?_⟩) hHeld ?_
                    rotate_left 1
                    · intro w9 hSw
                      try dsimp only at hSw
                      go_simp
                      try with_reducible rfl
                    try simp only [Act.put, List.setIfInBounds_toArray, List.set_cons_zero, List.set_cons_succ]
                    refine wpAnyH_take (i := 32) (oi := { dst := some 87, op := Op.pick (Operand.tmp 63) (Operand.const (Value.bool true)) (Operand.tmp 86), type := 4, pos := "trace.go:164", after := #[{ on := 8, ground := Ground.data }, { on := 31, ground := Ground.data }], guard := none }) (v := ?_) rfl (by kernel_rfl) (by kernel_rfl) (by kernel_rfl) (fun _ _ _ h => h) (Or.inl ⟨by rfl, ?_⟩) hHeld ?_
                    rotate_left 1
                    · intro w9 hSw
                      try dsimp only at hSw
                      go_simp
                      try with_reducible rfl
                    try simp only [Act.put, List.setIfInBounds_toArray, List.set_cons_zero, List.set_cons_succ]
                    refine wpAnyH_take (i := 33) (oi := { dst := some 11, op := Op.assign (Operand.tmp 87), type := 4, pos := "trace.go:164", after := #[{ on := 32, ground := Ground.data }, { on := 29, ground := Ground.chain }, { on := 0, ground := Ground.phase }, { on := 1, ground := Ground.phase }, { on := 2, ground := Ground.phase }, { on := 3, ground := Ground.phase }, { on := 4, ground := Ground.phase }, { on := 5, ground := Ground.phase }, { on := 6, ground := Ground.phase }, { on := 7, ground := Ground.phase }, { on := 8, ground := Ground.phase }, { on := 9, ground := Ground.phase }, { on := 10, ground := Ground.phase }, { on := 11, ground := Ground.phase }, { on := 12, ground := Ground.phase }, { on := 13, ground := Ground.phase }, { on := 14, ground := Ground.phase }, { on := 15, ground := Ground.phase }, { on := 16, ground := Ground.phase }, { on := 17, ground := Ground.phase }, { on := 18, ground := Ground.phase }, { on := 19, ground := Ground.phase }, { on := 20, ground := Ground.phase }, { on := 21, ground := Ground.phase }, { on := 22, ground := Ground.phase }, { on := 23, ground := Ground.phase }, { on := 24, ground := Ground.phase }, { on := 25, ground := Ground.phase }, { on := 26, ground := Ground.phase }, { on := 27, ground := Ground.phase }, { on := 28, ground := Ground.phase }, { on := 29, ground := Ground.phase }, { on := 30, ground := Ground.phase }, { on := 31, ground := Ground.phase }, { on := 32, ground := Ground.phase }], guard := none }) (v := ?_) rfl (by kernel_rfl) (by kernel_rfl) (by kernel_rfl) (fun _ _ _ h => h) (Or.inl ⟨by rfl, ?_⟩) hHeld ?_
                    rotate_left 1
                    · intro w9 hSw
                      try dsimp only at hSw
                      go_simp
                      try with_reducible rfl
                    try simp only [Act.put, List.setIfInBounds_toArray, List.set_cons_zero, List.set_cons_succ]
                    refine wpAnyH_done (by kernel_rfl) ?_ _
                    clear hHeld
                    clear hn1 hn2 hmk
                    go_wp2_with fail
                    go_meet
                    case rel => exact ⟨by rw [show IntKind.i64.wrap (nj1 : Int) = (nj1 : Int) from by rw [IntKind.wrap_i64]; omega, ht3]; subst hah; rfl, hB5⟩
              case rest =>
                obtain ⟨rfl, hBc⟩ := hcut
                clear hn1 hn2 hmk hp1 hq1 hp2 hk1 hk2 ht1 ht2 ht3 ht3b hah
                have hLc := hL.below hBc hLl
                have hLlc := hLc.lt
                have hBs2 := bel_on hBs hBc
                have hq0 := hLc.cell (k := 0) (by simp)
                change wc.cell? _ = some (.int .i64 (s : Nat)) at hq0
                have hq1 := hLc.cell (k := 1) (by simp)
                change wc.cell? _ = some (.int .i64 (c : Nat)) at hq1
                have hf1 := hLc.frozen 1
                have hjl : j * 2 + 1 < (M.stl T (M.tm zs) i i).length := by rw [M.stl_length]; omega
                obtain ⟨bo, oo, rfl, hbo, ho0⟩ := (hhas.later hBs2) (j * 2) (by omega)
                obtain ⟨_, _, e0, _, ho1⟩ := (hhas.later hBs2) (j * 2 + 1) hjl
                cases e0
                have hv0 := M.stl_T T (M.tm zs) hji hji
                have hv1 := M.stl_C T (M.tm zs) hji hji
                unfold M.rowZ at hv0 hv1
                rw [hv0] at ho0
                rw [hv1, ← Nat.add_assoc] at ho1
                obtain ⟨tj, htj⟩ : ∃ y, M.hT T (M.tm zs) j = y := ⟨_, rfl⟩
                obtain ⟨cj, hcj⟩ : ∃ y, M.hC T (M.tm zs) j = y := ⟨_, rfl⟩
                have HTJ : Hid (M.hT T (M.tm zs) j = tj) := htj
                have HCJ : Hid (M.hC T (M.tm zs) j = cj) := hcj
                have hcjb : cj ≤ 24 := by rw [← hcj]; have := M.hC_le T (M.tm zs) j; omega
                have hcb2 : c ≤ 24 := by rw [hcn.out]; have := M.hcn_bound (T := T) (t := M.tm zs) (i := i) j; omega
                rw [htj] at ho0
                rw [hcj] at ho1
                obtain ⟨cj1, hcj1⟩ : ∃ y, cj + 1 = y := ⟨_, rfl⟩
                have hci1 : (cj : Int) + 1 = (cj1 : Int) := by omega
                have HC1 : Hid (cj + 1 = cj1) := hcj1
                have hjiI : (j : Int) < (i : Int) := by omega
                clear hv0 hv1 htj hcj hcj1 hjl
                by_cases hall : ah = true ∧ tj = s ∧ c < cj1
                · obtain ⟨rfl, rfl, hgt⟩ := hall
                  have k1 : ((tj : Int) == (tj : Int)) = true := by simp
                  have k2 : (tj == tj) = true := by simp
                  have k3 : decide ((c : Int) < (cj1 : Int)) = true := decide_eq_true (by omega)
                  have k4 : decide (c < cj1) = true := decide_eq_true hgt
                  have HN : Hid (cj1 = M.hcn T (M.tm zs) (M.hC T (M.tm zs)) i (j + 1)) := by
                    show _ = _
                    rw [M.hcn_yes HI.out (by rw [HTJ.out, HV.out]) (by rw [← hcn.out, HCJ.out, HC1.out]; exact hgt), HCJ.out, HC1.out]
                  clear hgt
                  go_wp2_with fail
                  go_big_quiet (fail)
                  go_wp2_with fail
                  go_roundw
                  case rel => exact ⟨j + 1, cj1, by go_num, by omega, HN, (hLc.below (below_drewN _ _) hLlc).set 1 (cj1 : Nat), (bel_drN hBs2 _).setCell (p := ⟨wo.heap.size, 1, none⟩) (Nat.le_refl _) _⟩
                  case measure => simp [intOf]; omega
                · have HN : Hid (c = M.hcn T (M.tm zs) (M.hC T (M.tm zs)) i (j + 1)) := by
                    show _ = _
                    rw [M.hcn_no (fun h => hall ⟨by rw [← HI.out]; exact h.1, by have := h.2.1; rw [HTJ.out, HV.out] at this; exact this, by have := h.2.2; rw [← hcn.out, HCJ.out, HC1.out] at this; exact this⟩)]
                    exact hcn.out
                  cases ah with
                  | false =>
                    clear hall
                    go_wp2_with fail
                    go_big_quiet (fail)
                    go_wp2_with fail
                    go_roundw
                    case rel => exact ⟨j + 1, c, by go_num, by omega, HN, hLc.below (below_drewN _ _) hLlc, bel_drN hBs2 _⟩
                    case measure => simp [intOf]; omega
                  | true =>
                    by_cases hts : tj = s
                    · have hgt : ¬ c < cj1 := fun h => hall ⟨rfl, hts, h⟩
                      subst hts
                      have k1 : ((tj : Int) == (tj : Int)) = true := by simp
                      have k2 : (tj == tj) = true := by simp
                      have k3 : decide ((c : Int) < (cj1 : Int)) = false := decide_eq_false (by omega)
                      have k4 : decide (c < cj1) = false := decide_eq_false hgt
                      clear hall hgt
                      go_wp2_with fail
                      go_big_quiet (fail)
                      go_wp2_with fail
                      go_roundw
                      case rel => exact ⟨j + 1, c, by go_num, by omega, HN, hLc.below (below_drewN _ _) hLlc, bel_drN hBs2 _⟩
                      case measure => simp [intOf]; omega
                    · have k1 : ((tj : Int) == (s : Int)) = false := by simp; omega
                      have k2 : (tj == s) = false := by simpa using hts
                      clear hall hts
                      go_wp2_with fail
                      go_big_quiet (fail)
                      go_wp2_with fail
                      go_roundw
                      case rel => exact ⟨j + 1, c, by go_num, by omega, HN, hLc.below (below_drewN _ _) hLlc, bel_drN hBs2 _⟩
                      case measure => simp [intOf]; omega
            · obtain rfl : i = j := by omega
              have hown2 := owns_below hown hBs
              have HE : Hid (zcells (M.stl T (M.tm zs) (i + 1) (i + 1)) = zcells (M.stl T (M.tm zs) i i) ++ [.int .i64 (s : Nat), .int .i64 (c : Nat)]) := by
                show _ = _
                rw [M.stl_snoc, HV.out, M.hC_eq, ← hcn.out]
                simp [zcells]
              have hq0 := hL.cell (k := 0) (by simp)
              change wr.cell? _ = some (.int .i64 (s : Nat)) at hq0
              have hq1 := hL.cell (k := 1) (by simp)
              change wr.cell? _ = some (.int .i64 (c : Nat)) at hq1
              clear hcn HV
              go_wp2_with (at_builtin; refine wpList_append_own _ rfl _ _ 33 rfl w1.heap.size 27 i0 (.agg #[.int .i64 0, .int .i64 0]) 2 16 Tryd.underlying33 hi0 hz0 hz1 hz2 rfl (by decide) _ _ _ rfl (hown2.alloc _) ⟨wr.heap.size, 0, none⟩ 1 1 [.int .i64 (s : Nat), .int .i64 (c : Nat)] rfl rfl (cell_two_new _ _ _ _) (by simp [Value.oneCell']) (by unfold maxLen; omega) (by omega) (by have := hBw.size; simp; omega) ?_; intro v' w5 hown' hgrow _)
              have hB1 : Below w1.heap.size w1 w5 := (hBw.alloc hBw.size _).grown hgrow (by have := hBw.size; simp; omega) (fun j e => (hown2.lt j e).1)
              first | go_roundw | skip
              case rel => exact ⟨i + 1, by omega, by go_num, by rw [HE.out]; exact hown', hB1⟩
              case measure => simp [intOf]; omega
    · obtain rfl : n = i := by omega
      obtain ⟨q, c, rfl⟩ := owns_slice hown
      have hhas := hasZ_of_owns (M.stl_length T (M.tm zs) n n) hown
      go_wp2_with fail
      go_ret
      exact ⟨q, c, rfl, hhas, bel_on hC1 hB⟩
end Go.Proofs.YtckejldbbkibhaaDoor
