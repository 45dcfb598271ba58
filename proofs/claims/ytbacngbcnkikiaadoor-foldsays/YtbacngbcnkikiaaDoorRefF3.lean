/- The document's own answer on the least word (package whensteadref3, Least); what lay in memory lies as it lay. -/
import Derived.Test.YtbacngbcnkikiaaDoorRefF1
import Derived.Test.YtbacngbcnkikiaaDoorWfl
import Derived.Test.YtbacngbcnkikiaaDoorOwnA
namespace Go.Proofs.YtbacngbcnkikiaaDoor
open Go.RowKit
/-- how long a slice is -/
def lenW : Value → Nat
  | .slice _ n _ => n
  | _ => 0
/-- what is done, as cells -/
def blc (D : Nat → Bool) (m : Nat) : Array Value := ((List.range m).map fun i => Value.bool (D i)).toArray
/-- Block A holds what is done. -/
def BAt (W : World) (A : Nat) (D : Nat → Bool) (m : Nat) : Prop := W.heap[A]? = some (.cells (blc D m) 4 (0, 0))
theorem BAt.lt {W : World} {A m : Nat} {D : Nat → Bool} (h : BAt W A D m) : A < W.heap.size := (Array.getElem?_eq_some_iff.1 h).1
theorem BAt.cell {W : World} {A m : Nat} {D : Nat → Bool} (h : BAt W A D m) {k : Nat} (hk : k < m) : W.cell? ⟨A, k, none⟩ = some (.bool (D k)) := by
  simp [World.cell?, show W.heap[A]? = _ from h, blc, hk]
theorem BAt.frozen {W : World} {A m : Nat} {D : Nat → Bool} (h : BAt W A D m) (k : Nat) : W.frozen? ⟨A, k, none⟩ = false := by
  simp [World.frozen?, show W.heap[A]? = _ from h]
theorem BAt.below {W W' : World} {A B m : Nat} {D : Nat → Bool} (h : BAt W A D m) (hb : Below B W W') (hA : A < B) : BAt W' A D m := (hb.block A hA).trans h
theorem BAt.set {W : World} {A m : Nat} {D : Nat → Bool} (h : BAt W A D m) (b : Nat) : BAt (W.setCell ⟨A, b, none⟩ (.bool true)) A (M.upD D b) m := by
  refine (heap_put h b _).trans ?_
  congr 2
  apply Array.ext
  · simp [blc]
  · intro i h1 h2
    rw [Array.getElem_setIfInBounds]
    · simp [blc, M.upD]
      by_cases e : b = i
      · subst e; simp
      · have : (i == b) = false := by simp; omega
        simp [e, this]
    · simpa [blc] using h1
theorem made_bools (m : Nat) : madeCells #[.bool false] m = blc (fun _ => false) m := by
  apply Array.ext
  · simp [madeCells, blc]
  · intro i h1 h2
    simp [madeCells, blc]
    rw [Nat.mod_one]; rfl
theorem infoBool : (Tryd.prog.info? 4).map (fun i => (i.zero, i.size, i.bytes)) = some (some (.bool false), 1, 1) := by kernel_rfl
set_option maxRecDepth 100000 in
set_option maxHeartbeats 8000000 in
theorem refLeast_ok (F u : List Nat) (p : Option Addr) (n cap : Nat) (q : Option Addr) (m cap2 : Nat) (w : World) (hl : F.length = n) (hF : FOk F) (hc : HasI (ints F) p w) (hl2 : u.length = m) (hU : WOk F u) (hd : HasI (ints u) q w) :
    Calls Tryd.prog 14 #[.slice p n cap, .slice q m cap2] w fun e w' => ∃ v, e = .returned v ∧ w'.ownsRow w.heap.size 3 1 v m (icells (M.lword (M.fr F) F.length u)) ∧ Below w.heap.size w w' := by
  have hm : m ≤ 24 := hl2 ▸ hU.len
  have hn6 := hF.len
  obtain ⟨i0, hi0, hz0, hz1, hz2⟩ := infoA_parts infoInt
  have hmk0 := run_make_row' (P := Tryd.prog) 47 4 (.bool false) 1 Tryd.underlying47 infoBool rfl .i64 .i64 m (by omega) (by omega)
  obtain ⟨W0, hW0⟩ : ∃ W0, w.alloc (.cells (madeCells #[.bool false] m) 4) = W0 := ⟨_, rfl⟩
  have hb0 : BAt W0 w.heap.size (fun _ => false) m := by rw [← hW0, made_bools]; exact World.alloc_heap_new w _
  have hB0 : Below w.heap.size w W0 := hW0 ▸ bel_al (Below.refl _ _) _
  have hs0 : W0.heap.size = w.heap.size + 1 := by rw [← hW0]; simp
  have h10 : W0.ownsRow (w.heap.size + 1) 3 1 (.slice none 0 0) 0 (icells []) := ⟨rfl, .inl ⟨rfl, rfl⟩⟩
  have hst : [] ++ M.lword (M.fr F) F.length ((M.lft (fun _ => false) m).map (M.row u)) = M.lword (M.fr F) F.length u := by
    rw [M.lft_none, ← hl2, M.word_rows]; rfl
  have HST : Hid ([] ++ M.lword (M.fr F) F.length ((M.lft (fun _ => false) m).map (M.row u)) = M.lword (M.fr F) F.length u) := hst
  have hll : (M.lft (fun _ => false) m).length + 0 = m := by rw [M.lft_none]; simp
  have hmk1 := hmk0 w
  rw [hW0] at hmk1
  clear hmk0
  go_enter Tryd.func14, Tryd.ntmps14
  go_wp2_with fail
  go_loopw [6] (fun sv wr => ∃ (k : Nat) (D : Nat → Bool) (o : List Nat), o.length = k ∧ k ≤ m ∧ (M.lft D m).length + k = m ∧ Hid (o ++ M.lword (M.fr F) F.length ((M.lft D m).map (M.row u)) = M.lword (M.fr F) F.length u) ∧ BAt wr w.heap.size D m ∧ wr.ownsRow (w.heap.size + 1) 3 1 sv k (icells o) ∧ w.heap.size + 1 ≤ wr.heap.size ∧ Below w.heap.size w wr) (fun sv _ => m - lenW sv)
  case atStart => exact ⟨0, _, [], rfl, Nat.zero_le _, hll, HST, hb0, h10, by omega, hB0⟩
  case round =>
    clear hb0 hB0 h10 HST hst hll hmk1 hW0 hs0
    obtain ⟨k, D, o, ho, hk, hll, hW, hbt, hown, hsz, hB⟩ := hrel
    obtain ⟨po, co, rfl⟩ := owns_slice hown
    by_cases hkm : k < m
    · obtain ⟨wo, hwo⟩ : ∃ wo, wo = wr := ⟨_, rfl⟩
      subst hwo
      have HB0 : Hid (M.bst (M.fr F) (M.row u) D (-1) 0) := M.bst_zero _ _ _
      go_wp2_with fail
      go_loopw [7, 8] (fun bv jv wr => ∃ (j : Nat) (b : Int), jv = .int .i64 j ∧ bv = .int .i64 b ∧ j ≤ m ∧ Hid (M.bst (M.fr F) (M.row u) D b j) ∧ Below wo.heap.size wo wr) (fun _ jv _ => m - (intOf jv).toNat)
      case atStart => exact ⟨0, -1, rfl, rfl, Nat.zero_le _, HB0, Below.refl _ _⟩
      case round =>
        clear HB0
        obtain ⟨j, b, rfl, rfl, hj, hbs, hBj⟩ := hrel
        by_cases hjm : j < m
        · have hbj := hbt.below hBj hbt.lt
          have hcj := hbj.cell hjm
          have hlj := hbj.lt
          obtain ⟨wp, hwp⟩ : ∃ wp, wp = wr := ⟨_, rfl⟩
          subst hwp
          have hjm' : (j : Int) < (m : Int) := by omega
          have HT0 : Hid ((!D j) = true ↔ (D j = false ∧ ∀ i, i < 0 → D i = false → M.fr F (M.row u i) (M.row u j) = true)) := by
            show _ ↔ _
            simp
          go_wp2_with fail
          go_loopw [9, 10] (fun kv iv wr => ∃ (i : Nat) (t : Bool), iv = .int .i64 i ∧ kv = .bool t ∧ i ≤ j ∧ Hid (t = true ↔ (D j = false ∧ ∀ x, x < i → D x = false → M.fr F (M.row u x) (M.row u j) = true)) ∧ Below wo.heap.size wo wr) (fun _ iv _ => j - (intOf iv).toNat)
          case atStart => exact ⟨0, !D j, rfl, rfl, Nat.zero_le _, HT0, hBj⟩
          case round =>
            clear HT0 hcj hlj hbj hBj
            obtain ⟨i, t, rfl, rfl, hi, hT, hBi⟩ := hrel
            cases t with
            | false =>
              have hno : ¬ M.okp (M.fr F) (M.row u) D j := fun h => by have := hT.out.2 ⟨h.1, fun x hx => h.2 x (by omega)⟩; cases this
              have HN : Hid (M.bst (M.fr F) (M.row u) D b (j + 1)) := M.bst_skip hbs.out hno
              have HBI : Hid (Below wo.heap.size wo wr) := hBi
              clear hno hT
              by_cases hij : i < j
              · have d1 : decide ((i : Int) < (j : Int)) = true := decide_eq_true (by omega)
                go_wp2_with fail
                go_big_quiet (fail)
                go_wp2_with fail
                go_roundw
                case rel => exact ⟨j + 1, b, by go_num, rfl, by omega, HN, bel_drN HBI.out _⟩
                case measure => simp [intOf]; omega
              · have d1 : decide ((i : Int) < (j : Int)) = false := decide_eq_false (by omega)
                have d1' : decide (i < j) = false := decide_eq_false hij
                clear hij
                go_wp2_with fail
                go_big_quiet (fail)
                go_wp2_with fail
                go_roundw
                case rel => exact ⟨j + 1, b, by go_num, rfl, by omega, HN, bel_drN HBI.out _⟩
                case measure => simp [intOf]; omega
            | true =>
              by_cases hij : i < j
              · have hbj := hbt.below hBi hbt.lt
                have hci := hbj.cell (k := i) (by omega)
                have hlj := hbj.lt
                have hBr := bel_on hB hBi
                have hst := stays_ok F u p n cap q m cap2 i j wr hl hF (hc.later hBr) hl2 hU (hd.later hBr) (by omega) hjm
                have hah : M.ahB (M.fr F) u i j = !M.fr F (M.row u i) (M.row u j) := by unfold M.ahB; rw [decide_eq_true hij]; rfl
                have hDj := (hT.out.1 rfl).1
                have hall := (hT.out.1 rfl).2
                have d1 : decide ((i : Int) < (j : Int)) = true := decide_eq_true (by omega)
                have d1' : decide (i < j) = true := decide_eq_true hij
                have him' : (i : Int) < (m : Int) := by omega
                have hnext : ∀ t' : Bool, (t' = true ↔ (D i = false → M.fr F (M.row u i) (M.row u j) = true)) → Hid (t' = true ↔ (D j = false ∧ ∀ x, x < i + 1 → D x = false → M.fr F (M.row u x) (M.row u j) = true)) := fun t' h => by
                  show _ ↔ _
                  rw [h]
                  constructor
                  · intro h2
                    refine ⟨hDj, fun x hx hDx => ?_⟩
                    by_cases e : x = i
                    · subst e; exact h2 hDx
                    · exact hall x (by omega) hDx
                  · intro h2; exact h2.2 i (by omega)
                obtain ⟨f, hf⟩ : ∃ f, M.fr F (M.row u i) (M.row u j) = f := ⟨_, rfl⟩
                rw [hah, hf] at hst
                rw [hf] at hnext
                have HBI : Hid (Below wo.heap.size wo wr) := hBi
                clear hah hDj hall hf hbj
                cases hDi : D i with
                | true =>
                  rw [hDi] at hci hnext
                  have HN := hnext true ⟨fun _ h => (by cases h), fun _ => rfl⟩
                  clear hnext hDi hst
                  go_wp2_with fail
                  go_roundw
                  case rel => exact ⟨i + 1, true, by go_num, rfl, by omega, HN, HBI.out⟩
                  case measure => simp [intOf]; omega
                | false =>
                  rw [hDi] at hci hnext
                  have HN := hnext f ⟨fun h _ => h, fun h => h rfl⟩
                  clear hnext hDi
                  go_wp2_with fail
                  refine hst.mono ?_
                  rintro e w2 ⟨rfl, hB2⟩
                  have HB2 : Hid (Below _ _ _) := bel_on HBI.out hB2
                  clear hst hB2
                  go_wp2_with fail
                  go_roundw
                  case rel => exact ⟨i + 1, f, by go_num, by simp, by omega, HN, HB2.out⟩
                  case measure => simp [intOf]; omega
              · obtain rfl : i = j := by omega
                have hok : M.okp (M.fr F) (M.row u) D i := hT.out.1 rfl
                have d1 : decide ((i : Int) < (i : Int)) = false := decide_eq_false (by omega)
                have HBI : Hid (Below wo.heap.size wo wr) := hBi
                have hBr := bel_on hB hBi
                clear hT hij
                obtain ⟨bq, oq, rfl, hbq, hcq⟩ := (hd.later hBr) i (by rw [ints_length]; omega)
                rw [ints_get] at hcq
                have hb2 := hbs.out
                rcases hb2 with ⟨hb, _⟩ | ⟨b', hb, hbj, _, _⟩
                · subst hb
                  have HN : Hid (M.bst (M.fr F) (M.row u) D (i : Nat) (i + 1)) := M.bst_first hbs.out hok
                  have g1 : decide ((-1 : Int) < 0) = true := by decide
                  clear hok hbs hBr hBi
                  go_wp2_with fail
                  go_big_quiet (fail)
                  go_wp2_with fail
                  go_roundw
                  case rel => exact ⟨i + 1, (i : Nat), by go_num, rfl, by omega, HN, bel_drN HBI.out _⟩
                  case measure => simp [intOf]; omega
                · subst hb
                  obtain ⟨_, _, e', hbq2, hcb⟩ := (hd.later hBr) b' (by rw [ints_length]; omega)
                  cases e'
                  rw [ints_get] at hcb
                  have hls := M.bst_less (j := i) hbs.out hok
                  have hmr := M.bst_more (j := i) hbs.out
                  obtain ⟨x, hx⟩ : ∃ x, M.row u i = x := ⟨_, rfl⟩
                  obtain ⟨y, hy⟩ : ∃ y, M.row u b' = y := ⟨_, rfl⟩
                  rw [hx] at hcq hls hmr
                  rw [hy] at hcb hls hmr
                  have g1 : decide (((b' : Nat) : Int) < 0) = false := decide_eq_false (by omega)
                  have hbm : (b' : Int) < (m : Int) := by omega
                  clear hx hy hok hbs hBr hBi
                  by_cases hxy : x < y
                  · have d2 : decide ((x : Int) < (y : Int)) = true := decide_eq_true (by omega)
                    have d2' : decide (x < y) = true := decide_eq_true hxy
                    have HN : Hid (M.bst (M.fr F) (M.row u) D (i : Nat) (i + 1)) := hls hxy
                    clear hls hmr hxy
                    go_wp2_with fail
                    go_big_quiet (fail)
                    go_wp2_with fail
                    go_roundw
                    case rel => exact ⟨i + 1, (i : Nat), by go_num, rfl, by omega, HN, bel_drN HBI.out _⟩
                    case measure => simp [intOf]; omega
                  · have d2 : decide ((x : Int) < (y : Int)) = false := decide_eq_false (by omega)
                    have d2' : decide (x < y) = false := decide_eq_false hxy
                    have HN : Hid (M.bst (M.fr F) (M.row u) D (b' : Nat) (i + 1)) := hmr hxy
                    clear hls hmr hxy
                    go_wp2_with fail
                    go_big_quiet (fail)
                    go_wp2_with fail
                    go_roundw
                    case rel => exact ⟨i + 1, (b' : Nat), by go_num, rfl, by omega, HN, bel_drN HBI.out _⟩
                    case measure => simp [intOf]; omega
        · obtain rfl : j = m := by omega
          have hb2 := hbs.out
          rcases hb2 with ⟨_, hno⟩ | ⟨b', hb, hbj, hok, hmin⟩
          · exfalso
            obtain ⟨x, hx, hx2⟩ := M.okp_some (f := M.fr F) (r := M.row u) (D := D) (m := j) (by omega)
            exact hno x hx hx2
          · subst hb
            have hstep := M.rl_step hF.fr (M := F.length) (r := M.row u) (D := D) hbj (hU.row (by omega)) hok hmin
            have hlen := M.lft_len hbj hok.1
            have hW2 := hW.out
            rw [hstep] at hW2
            have hbj2 := hbt.below hBj hbt.lt
            have hown2 := owns_below hown hBj
            have hBr := bel_on hB hBj
            have hcb := hbj2.cell hbj
            have hfb := hbj2.frozen b'
            have hlb := hbj2.lt
            have hsz2 : w.heap.size + 1 ≤ wr.heap.size := by have := hBj.size; omega
            obtain ⟨bq, oq, rfl, hbq, hcq⟩ := (hd.later hBr) b' (by rw [ints_length]; omega)
            rw [ints_get] at hcq
            obtain ⟨x, hx⟩ : ∃ x, M.row u b' = x := ⟨_, rfl⟩
            rw [hx] at hcq hW2
            have hset := hbj2.set b'
            have hown3 := ownsRow_setCell_below hown2 (a := ⟨w.heap.size, b', none⟩) (show w.heap.size < w.heap.size + 1 by omega) (.bool true)
            have hBs := hBr.setCell (p := ⟨w.heap.size, b', none⟩) (Nat.le_refl _) (.bool true)
            have hcq3 : (wr.setCell ⟨w.heap.size, b', none⟩ (.bool true)).cell? ⟨bq, oq + b', none⟩ = some (.int .i64 (x : Nat)) := by
              obtain ⟨_, _, e', _, h9⟩ := (hd.later hBs) b' (by rw [ints_length]; omega)
              cases e'
              rw [ints_get, hx] at h9
              exact h9
            obtain ⟨w3, hw3⟩ : ∃ w3, wr.setCell ⟨w.heap.size, b', none⟩ (.bool true) = w3 := ⟨_, rfl⟩
            have hs3 : w3.heap.size = wr.heap.size := by rw [← hw3]; simp
            have hbjm : (b' : Int) < (j : Int) := by omega
            rw [hw3] at hset hown3 hBs hcq3
            have HW2 : Hid ((o ++ [x]) ++ M.lword (M.fr F) F.length ((M.lft (M.upD D b') j).map (M.row u)) = M.lword (M.fr F) F.length u) := by show _ = _; rw [List.append_assoc]; exact hW2
            have hok2 : (o ++ [x]).length = k + 1 := by rw [List.length_append, ho]; rfl
            have hbq3 : bq < w3.heap.size := by omega
            clear hbs hstep hW2 hW hok hmin hbj2 hown2 hBr hx hown hBj hbt
            have hsz3 : w.heap.size + 1 ≤ w3.heap.size := by omega
            have HS3 : Hid (w3.heap.size = wr.heap.size) := hs3
            clear hs3
            have hf3 : wr.frozen? ⟨w.heap.size, b', none⟩ = false := hfb
            go_wp2_with (at_builtin; refine wpList_append_own _ rfl _ _ 22 rfl (w.heap.size + 1) 3 i0 (.int .i64 0) 1 8 Tryd.underlying22 hi0 hz0 hz1 hz2 rfl (by decide) _ _ _ rfl (hown3.alloc _) ⟨w3.heap.size, 0, none⟩ 1 1 [.int .i64 (x : Nat)] rfl rfl (cell_one_new _ _ _) (by simp [Value.oneCell']) (by unfold maxLen; omega) (by omega) (by simp; omega) ?_; intro v' w5 hown' hgrow _)
            have hB5 : Below w.heap.size w w5 := (bel_al hBs _).grown hgrow (by simp; omega) (fun j e => by have := (hown3.lt j e).1; omega)
            have hbt5 : BAt w5 w.heap.size (M.upD D b') j := by
              have h1 : BAt (w3.alloc (.cells #[.int .i64 (x : Nat)] 3)) w.heap.size (M.upD D b') j := hset.below (bel_al (Below.refl _ _) _) hset.lt
              exact (hgrow.block w.heap.size h1.lt (fun e => by have := (hown3.lt _ e.symm).1; omega)).trans h1
            have hsz5 : w.heap.size + 1 ≤ w5.heap.size := by have := hgrow.size; simp at this; omega
            obtain ⟨p5, c5, rfl⟩ := owns_slice hown'
            first | go_roundw | skip
            case rel => exact ⟨k + 1, M.upD D b', o ++ [x], hok2, by omega, by omega, HW2, hbt5, by rw [icells_snoc]; exact hown', hsz5, hB5⟩
            case measure => simp [lenW]; omega
    · obtain rfl : k = m := by omega
      have hl0 : M.lft D k = [] := by
        cases e : M.lft D k with
        | nil => rfl
        | cons a l => rw [e] at hll; simp at hll
      have HWE : Hid (o = M.lword (M.fr F) F.length u) := by
        have := hW.out
        rw [hl0, List.map_nil, M.lword_nil, List.append_nil] at this
        exact this
      go_wp2_with fail
      go_ret
      exact ⟨_, rfl, by rw [← HWE.out]; exact owns_mono hown (by omega), hB⟩
end Go.Proofs.YtbacngbcnkikiaaDoor
