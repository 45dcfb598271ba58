/- TWO LETTERS AT A TIME, CORI AND PERRIN (law FoldPairs), the walk. -/
import Derived.Test.YtbacngbcnkikiaaDoorFofc
import Derived.Test.YtbacngbcnkikiaaDoorRefBig
namespace Go.Proofs.YtbacngbcnkikiaaDoor
open Go.RowKit
namespace M
/-- alike at all pairs that were looked at, up to that of a and b -/
def alk (f : Nat → Nat → Bool) (v u : List Nat) (a b : Nat) : Prop := ∀ x y, (x < a ∨ (x = a ∧ y < b)) → y ≤ x → f x y = false → only x y v = only x y u
theorem alk_zero (f : Nat → Nat → Bool) (v u : List Nat) : alk f v u 0 0 := fun x y h _ _ => by omega
theorem alk_next (f : Nat → Nat → Bool) (v u : List Nat) (a : Nat) : alk f v u a (a + 1) ↔ alk f v u (a + 1) 0 := by
  constructor
  · intro h x y hx hy e; exact h x y (by omega) hy e
  · intro h x y hx hy e; exact h x y (by omega) hy e
theorem alk_step {f : Nat → Nat → Bool} {v u : List Nat} {a b : Nat} (hb : b ≤ a) : alk f v u a (b + 1) ↔ alk f v u a b ∧ (f a b = false → only a b v = only a b u) := by
  constructor
  · intro h
    exact ⟨fun x y hx hy e => h x y (by omega) hy e, fun e => h a b (by omega) hb e⟩
  · rintro ⟨h1, h2⟩ x y hx hy e
    by_cases c : x = a ∧ y = b
    · obtain ⟨rfl, rfl⟩ := c; exact h2 e
    · exact h1 x y (by omega) hy e
theorem alk_all {F v u : List Nat} (hf : Fr (fr F)) (hv : ∀ x, x ∈ v → x < F.length) (hu : ∀ x, x ∈ u → x < F.length) : alk (fr F) v u F.length 0 ↔ Eqv (fr F) v u := by
  rw [eqv_pairs hf hv hu]
  constructor
  · intro h a b ha hb e; exact h a b (by omega) hb e
  · intro h x y hx hy e; exact h x y (by omega) hy e
theorem only_hit {a b i : Nat} {w : List Nat} (hi : i < w.length) (h : row w i = a ∨ row w i = b) : only a b (w.take (i + 1)) = only a b (w.take i) ++ [row w i] := by
  rw [take_row hi, only_app, only_cons, if_pos h, only_nil]
theorem only_miss {a b i : Nat} {w : List Nat} (hi : i < w.length) (h : ¬ (row w i = a ∨ row w i = b)) : only a b (w.take (i + 1)) = only a b (w.take i) := by
  rw [take_row hi, only_app, only_cons, if_neg h, only_nil, List.append_nil]
theorem only_le (a b : Nat) (w : List Nat) : (only a b w).length ≤ w.length := List.length_filter_le _ _
end M
theorem beq_nat {a b : Nat} (h : a = b) : ((a : Int) == (b : Int)) = true := by simp; omega
theorem bne_nat {a b : Nat} (h : ¬ a = b) : ((a : Int) == (b : Int)) = false := by simp; omega
theorem beq_natN {a b : Nat} (h : ¬ a = b) : (a == b) = false := by simp; omega
set_option maxRecDepth 100000 in
set_option maxHeartbeats 8000000 in
theorem fp_walk (zs : List Int) (p : Option Addr) (n cap : Nat) (vs : List Int) (q : Option Addr) (m cap2 : Nat) (ws : List Int) (q3 : Option Addr) (m3 cap3 : Nat) (w : World) (he : Env w) (hl : zs.length = n) (hmax : n ≤ maxLen) (hc : HasI zs p w) (_ : ∀ k : Nat, zs[k]?.getD 0 < 9223372036854775808) (hl2 : vs.length = m) (hmax2 : m ≤ maxLen) (hd : HasI vs q w) (_ : ∀ k : Nat, vs[k]?.getD 0 < 9223372036854775808) (hl3 : ws.length = m3) (hmax3 : m3 ≤ maxLen) (hf : HasI ws q3 w) (_ : ∀ k : Nat, ws[k]?.getD 0 < 9223372036854775808) :
    Calls Tryd.prog 5 #[.slice p n cap, .slice q m cap2, .slice q3 m3 cap3] w fun e w' => e = .returned (.bool true) ∧ Below w.heap.size w w' := by
  obtain ⟨i0, hi0, hzz⟩ := Option.map_eq_some_iff.1 infoInt
  simp only [Prod.mk.injEq] at hzz
  obtain ⟨hz0, hz1, hz2⟩ := hzz
  go_enter Tryd.func5, Tryd.ntmps5
  go_wp2_with fail
  refine (foldFact_ok _ he).mono ?_
  rintro e w1 ⟨rfl, hB1⟩
  go_wp2_with fail
  by_cases h0 : scode zs vs ws = 0
  · obtain ⟨F, v, u, rfl, rfl, rfl, hF, hV, hU⟩ := scode_get h0
    rw [ints_length] at hl hl2 hl3
    refine (fsame_ok F v u p n cap q m cap2 q3 m3 cap3 _ hl (he.later hB1) hF (hc.later hB1) hl2 hV (hd.later hB1) hl3 hU (hf.later hB1)).mono ?_
    rintro e w2 ⟨rfl, hB2⟩
    have hC2 := bel_on hB1 hB2
    have hm : m ≤ 24 := hl2 ▸ hV.len
    have hm3 : m3 ≤ 24 := hl3 ▸ hU.len
    have hn6 := hF.len
    have hsw := sameW_iff hF hV hU
    rw [← M.alk_all hF.fr hV.lt hU.lt, hl] at hsw
    have HSW : Hid (sameW F v u = true ↔ M.alk (M.fr F) v u n 0) := hsw
    obtain ⟨sw, hswe⟩ : ∃ sw, sameW F v u = sw := ⟨_, rfl⟩
    rw [hswe] at HSW
    rw [hswe]
    clear hmax hmax2 hmax3 h0 hsw hswe hB1 hB2
    go_wp2_with fail
    go_loopw [10, 11] (fun al av wr => ∃ (a : Nat) (g : Bool), av = .int .i64 a ∧ al = .bool g ∧ a ≤ n ∧ Hid (g = true ↔ M.alk (M.fr F) v u a 0) ∧ Below w.heap.size w wr) (fun _ av _ => n - (intOf av).toNat)
    case atStart => exact ⟨0, true, rfl, rfl, Nat.zero_le _, show true = true ↔ _ from ⟨fun _ => M.alk_zero _ _ _, fun _ => rfl⟩, hC2⟩
    case round =>
      clear hC2
      obtain ⟨a, g, rfl, rfl, ha, hG, hB⟩ := hrel
      by_cases hlt : a < n
      · go_wp2_with fail
        go_loopw [10, 12] (fun al bv wr => ∃ (b : Nat) (g : Bool), bv = .int .i64 b ∧ al = .bool g ∧ b ≤ a + 1 ∧ Hid (g = true ↔ M.alk (M.fr F) v u a b) ∧ Below w.heap.size w wr) (fun _ bv _ => a + 1 - (intOf bv).toNat)
        case atStart => exact ⟨0, g, rfl, rfl, Nat.zero_le _, hG, hB⟩
        case round =>
          clear hG hB
          obtain ⟨b, g, rfl, rfl, hb, hG, hB⟩ := hrel
          obtain ⟨wo, hwo⟩ : ∃ wo, wo = wr := ⟨_, rfl⟩
          subst hwo
          by_cases hba : b ≤ a
          · obtain ⟨bf, of, rfl, hbf, hcf⟩ := (hc.later hB) a (by rw [ints_length]; omega)
            rw [ints_get] at hcf
            have hfl := hF.lt a
            have hbit := fun W => bit_big (M.row F a) b W (by omega) (by omega)
            rw [show (M.row F a).testBit b = M.fr F a b from rfl] at hbit
            obtain ⟨x, hx⟩ : ∃ x, M.row F a = x := ⟨_, rfl⟩
            rw [hx] at hcf hbit
            have hst := @M.alk_step (M.fr F) v u a b hba
            have han : (a : Int) < (n : Int) := by omega
            have hdba : decide ((b : Int) ≤ (a : Int)) = true := decide_eq_true (by omega)
            have hdba' : decide (b ≤ a) = true := decide_eq_true hba
            clear hx hfl
            cases hfr : M.fr F a b with
            | true =>
              have HG : Hid (g = true ↔ M.alk (M.fr F) v u a (b + 1)) := by
                show _ ↔ _
                rw [hst, hG.out, hfr]
                exact ⟨fun h => ⟨h, fun h2 => by cases h2⟩, fun h => h.1⟩
              rw [hfr] at hbit
              clear hst hfr hG
              go_wp2_with fail
              refine (hbit _).mono ?_
              rintro e w3 ⟨rfl, rfl⟩
              go_wp2_with fail
              go_roundw
              case rel => exact ⟨b + 1, g, by go_num, rfl, by omega, HG, hB⟩
              case measure => simp [intOf]; omega
            | false =>
              have HG : Hid (M.alk (M.fr F) v u a (b + 1) ↔ (g = true ∧ M.only a b v = M.only a b u)) := by
                show _ ↔ _
                rw [hst, hG.out, hfr]
                exact ⟨fun h => ⟨h.1, h.2 rfl⟩, fun h => ⟨h.1, fun _ => h.2⟩⟩
              rw [hfr] at hbit
              clear hst hfr hG
              go_wp2_with fail
              refine (hbit _).mono ?_
              rintro e w3 ⟨rfl, rfl⟩
              have hown0 : wo.ownsRow wo.heap.size 3 1 (.slice none 0 0) (M.only a b (v.take 0)).length (icells (M.only a b (v.take 0))) := ⟨rfl, .inl ⟨rfl, rfl⟩⟩
              go_wp2_with fail
              go_loopw [13, 15] (fun sv iv wr => ∃ (i : Nat), iv = .int .i64 i ∧ i ≤ m ∧ wr.ownsRow wo.heap.size 3 1 sv (M.only a b (v.take i)).length (icells (M.only a b (v.take i))) ∧ Below wo.heap.size wo wr) (fun _ iv _ => m - (intOf iv).toNat)
              case atStart => exact ⟨0, rfl, Nat.zero_le _, hown0, Below.refl _ _⟩
              case round =>
                clear hown0 hcf
                obtain ⟨i, rfl, hi, hown, hBi⟩ := hrel
                obtain ⟨p', c', rfl⟩ := owns_slice hown
                have hBr := bel_on hB hBi
                by_cases him : i < m
                · obtain ⟨bv, ov, rfl, hbv, hcv⟩ := (hd.later hBr) i (by rw [ints_length]; omega)
                  rw [ints_get] at hcv
                  have hhit := @M.only_hit a b i v (by omega)
                  have hmis := @M.only_miss a b i v (by omega)
                  have hle := M.only_le a b (v.take i)
                  rw [List.length_take] at hle
                  obtain ⟨N, hN⟩ : ∃ N, (M.only a b (v.take i)).length = N := ⟨_, rfl⟩
                  rw [hN] at hown hle
                  rw [hN]
                  obtain ⟨c, hcc⟩ : ∃ c, M.row v i = c := ⟨_, rfl⟩
                  rw [hcc] at hcv hhit hmis
                  have hN24 : N ≤ 24 := by omega
                  clear hcc
                  by_cases hca : c = a
                  · have hh := hhit (.inl hca)
                    have HO : Hid (M.only a b (v.take (i + 1)) = M.only a b (v.take i) ++ [c]) := hh
                    have HLn : Hid ((M.only a b (v.take (i + 1))).length = N + 1) := by show _ = _; rw [hh, List.length_append, hN]; rfl
                    have g1 := beq_nat hca
                    clear hhit hmis hh hN hca hle
                    go_wp2_with (at_builtin; refine wpList_append_own _ rfl _ _ 22 rfl wo.heap.size 3 i0 (.int .i64 0) 1 8 Tryd.underlying22 hi0 hz0 hz1 hz2 rfl (by decide) _ _ _ rfl (hown.alloc _) ⟨wr.heap.size, 0, none⟩ 1 1 [.int .i64 (c : Nat)] rfl rfl (cell_one_new _ _ _) (by simp [Value.oneCell']) (by unfold maxLen; omega) (by omega) (by have := hBi.size; simp; omega) ?_; intro v' w5 hown' hgrow _)
                    have hB5 : Below wo.heap.size wo w5 := (bel_al hBi _).grown hgrow (by have := hBi.size; simp; omega) (fun j e => (hown.lt j e).1)
                    first | go_roundw | skip
                    case rel => exact ⟨i + 1, by go_num, by omega, by rw [HLn.out, HO.out, icells_snoc]; exact hown', hB5⟩
                    case measure => simp [intOf]; omega
                  · have g1 := bne_nat hca
                    have g1' := beq_natN hca
                    by_cases hcb : c = b
                    · have hh := hhit (.inr hcb)
                      have HO : Hid (M.only a b (v.take (i + 1)) = M.only a b (v.take i) ++ [c]) := hh
                      have HLn : Hid ((M.only a b (v.take (i + 1))).length = N + 1) := by show _ = _; rw [hh, List.length_append, hN]; rfl
                      have g2 := beq_nat hcb
                      clear hhit hmis hh hN hca hle hcb
                      go_wp2_with (at_builtin; refine wpList_append_own _ rfl _ _ 22 rfl wo.heap.size 3 i0 (.int .i64 0) 1 8 Tryd.underlying22 hi0 hz0 hz1 hz2 rfl (by decide) _ _ _ rfl (hown.alloc _) ⟨wr.heap.size, 0, none⟩ 1 1 [.int .i64 (c : Nat)] rfl rfl (cell_one_new _ _ _) (by simp [Value.oneCell']) (by unfold maxLen; omega) (by omega) (by have := hBi.size; simp; omega) ?_; intro v' w5 hown' hgrow _)
                      have hB5 : Below wo.heap.size wo w5 := (bel_al hBi _).grown hgrow (by have := hBi.size; simp; omega) (fun j e => (hown.lt j e).1)
                      first | go_roundw | skip
                      case rel => exact ⟨i + 1, by go_num, by omega, by rw [HLn.out, HO.out, icells_snoc]; exact hown', hB5⟩
                      case measure => simp [intOf]; omega
                    · have hh := hmis (fun h => h.elim hca hcb)
                      have HO : Hid (M.only a b (v.take (i + 1)) = M.only a b (v.take i)) := hh
                      have HLn : Hid ((M.only a b (v.take (i + 1))).length = N) := by show _ = _; rw [hh, hN]
                      have g2 := bne_nat hcb
                      have g2' := beq_natN hcb
                      clear hhit hmis hh hN hca hle hcb
                      go_wp2_with fail
                      go_roundw
                      case rel => exact ⟨i + 1, by go_num, by omega, by rw [HLn.out, HO.out]; exact hown, hBi⟩
                      case measure => simp [intOf]; omega
                · obtain rfl : i = m := by omega
                  rw [List.take_of_length_le (by omega)] at hown
                  rw [List.take_of_length_le (by omega)]
                  obtain ⟨wp, hwp⟩ : ∃ wp, wp = wr := ⟨_, rfl⟩
                  subst hwp
                  have hx := hown
                  have hlx := M.only_le a b v
                  obtain ⟨lx, hlxe⟩ : ∃ lx, (M.only a b v).length = lx := ⟨_, rfl⟩
                  rw [hlxe] at hx hlx
                  rw [hlxe]
                  have hB4 := bel_on hB hBi
                  have hown0 : wp.ownsRow wp.heap.size 3 1 (.slice none 0 0) (M.only a b (u.take 0)).length (icells (M.only a b (u.take 0))) := ⟨rfl, .inl ⟨rfl, rfl⟩⟩
                  clear hown hBi hBr hi him
                  go_wp2_with fail
                  go_loopw [14, 16] (fun sv iv wr => ∃ (i : Nat), iv = .int .i64 i ∧ i ≤ m3 ∧ wr.ownsRow wp.heap.size 3 1 sv (M.only a b (u.take i)).length (icells (M.only a b (u.take i))) ∧ Below wp.heap.size wp wr) (fun _ iv _ => m3 - (intOf iv).toNat)
                  case atStart => exact ⟨0, rfl, Nat.zero_le _, hown0, Below.refl _ _⟩
                  case round =>
                    clear hown0
                    obtain ⟨i, rfl, hi, hown, hBi⟩ := hrel
                    obtain ⟨p2, c2, rfl⟩ := owns_slice hown
                    have hBr := bel_on hB4 hBi
                    by_cases him : i < m3
                    · obtain ⟨bv, ov, rfl, hbv, hcv⟩ := (hf.later hBr) i (by rw [ints_length]; omega)
                      rw [ints_get] at hcv
                      have hhit := @M.only_hit a b i u (by omega)
                      have hmis := @M.only_miss a b i u (by omega)
                      have hle := M.only_le a b (u.take i)
                      rw [List.length_take] at hle
                      obtain ⟨N, hN⟩ : ∃ N, (M.only a b (u.take i)).length = N := ⟨_, rfl⟩
                      rw [hN] at hown hle
                      rw [hN]
                      obtain ⟨c, hcc⟩ : ∃ c, M.row u i = c := ⟨_, rfl⟩
                      rw [hcc] at hcv hhit hmis
                      have hN24 : N ≤ 24 := by omega
                      clear hcc
                      by_cases hca : c = a
                      · have hh := hhit (.inl hca)
                        have HO : Hid (M.only a b (u.take (i + 1)) = M.only a b (u.take i) ++ [c]) := hh
                        have HLn : Hid ((M.only a b (u.take (i + 1))).length = N + 1) := by show _ = _; rw [hh, List.length_append, hN]; rfl
                        have g1 := beq_nat hca
                        clear hhit hmis hh hN hca hle
                        go_wp2_with (at_builtin; refine wpList_append_own _ rfl _ _ 22 rfl wp.heap.size 3 i0 (.int .i64 0) 1 8 Tryd.underlying22 hi0 hz0 hz1 hz2 rfl (by decide) _ _ _ rfl (hown.alloc _) ⟨wr.heap.size, 0, none⟩ 1 1 [.int .i64 (c : Nat)] rfl rfl (cell_one_new _ _ _) (by simp [Value.oneCell']) (by unfold maxLen; omega) (by omega) (by have := hBi.size; simp; omega) ?_; intro v' w5 hown' hgrow _)
                        have hB5 : Below wp.heap.size wp w5 := (bel_al hBi _).grown hgrow (by have := hBi.size; simp; omega) (fun j e => (hown.lt j e).1)
                        first | go_roundw | skip
                        case rel => exact ⟨i + 1, by go_num, by omega, by rw [HLn.out, HO.out, icells_snoc]; exact hown', hB5⟩
                        case measure => simp [intOf]; omega
                      · have g1 := bne_nat hca
                        have g1' := beq_natN hca
                        by_cases hcb : c = b
                        · have hh := hhit (.inr hcb)
                          have HO : Hid (M.only a b (u.take (i + 1)) = M.only a b (u.take i) ++ [c]) := hh
                          have HLn : Hid ((M.only a b (u.take (i + 1))).length = N + 1) := by show _ = _; rw [hh, List.length_append, hN]; rfl
                          have g2 := beq_nat hcb
                          clear hhit hmis hh hN hca hle hcb
                          go_wp2_with (at_builtin; refine wpList_append_own _ rfl _ _ 22 rfl wp.heap.size 3 i0 (.int .i64 0) 1 8 Tryd.underlying22 hi0 hz0 hz1 hz2 rfl (by decide) _ _ _ rfl (hown.alloc _) ⟨wr.heap.size, 0, none⟩ 1 1 [.int .i64 (c : Nat)] rfl rfl (cell_one_new _ _ _) (by simp [Value.oneCell']) (by unfold maxLen; omega) (by omega) (by have := hBi.size; simp; omega) ?_; intro v' w5 hown' hgrow _)
                          have hB5 : Below wp.heap.size wp w5 := (bel_al hBi _).grown hgrow (by have := hBi.size; simp; omega) (fun j e => (hown.lt j e).1)
                          first | go_roundw | skip
                          case rel => exact ⟨i + 1, by go_num, by omega, by rw [HLn.out, HO.out, icells_snoc]; exact hown', hB5⟩
                          case measure => simp [intOf]; omega
                        · have hh := hmis (fun h => h.elim hca hcb)
                          have HO : Hid (M.only a b (u.take (i + 1)) = M.only a b (u.take i)) := hh
                          have HLn : Hid ((M.only a b (u.take (i + 1))).length = N) := by show _ = _; rw [hh, hN]
                          have g2 := bne_nat hcb
                          have g2' := beq_natN hcb
                          clear hhit hmis hh hN hca hle hcb
                          go_wp2_with fail
                          go_roundw
                          case rel => exact ⟨i + 1, by go_num, by omega, by rw [HLn.out, HO.out]; exact hown, hBi⟩
                          case measure => simp [intOf]; omega
                    · obtain rfl : i = m3 := by omega
                      rw [List.take_of_length_le (by omega)] at hown
                      rw [List.take_of_length_le (by omega)]
                      have hly := M.only_le a b u
                      obtain ⟨ly, hlye⟩ : ∃ ly, (M.only a b u).length = ly := ⟨_, rfl⟩
                      rw [hlye] at hown hly
                      rw [hlye]
                      have hxI := (hasI_of_owns hlxe hx).later hBi
                      have hyI := hasI_of_owns hlye hown
                      have hei := eints_any (ints (M.only a b v)) (ints (M.only a b u)) p' p2 lx ly c' c2 _ (by rw [ints_length]; exact hlxe) (by rw [ints_length]; exact hlye) (by unfold maxLen; omega) (by unfold maxLen; omega) hxI hyI
                      rw [ints_beq] at hei
                      have hge : Hid ((M.only a b v == M.only a b u) = true ↔ M.only a b v = M.only a b u) := by show _ ↔ _; exact beq_iff_eq
                      obtain ⟨t, ht⟩ : ∃ t, (M.only a b v == M.only a b u) = t := ⟨_, rfl⟩
                      rw [ht] at hei hge
                      have HBr : Hid (Below w.heap.size w wr) := hBr
                      clear hx hown hxI hyI hlxe hlye ht hBr hB4 hBi hB
                      cases g with
                      | true =>
                        go_wp2_with fail
                        refine hei.mono ?_
                        rintro e w7 ⟨rfl, hB7⟩
                        have HB7 : Hid (Below w.heap.size w w7) := bel_on HBr.out hB7
                        have HGt : Hid (t = true ↔ M.alk (M.fr F) v u a (b + 1)) := by show _ ↔ _; rw [HG.out, hge.out]; simp
                        clear hB7
                        go_wp2_with fail
                        go_roundw
                        case rel => exact ⟨b + 1, t, by go_num, rfl, by omega, HGt, HB7.out⟩
                        case measure => simp [intOf]; omega
                      | false =>
                        have HGt : Hid (false = true ↔ M.alk (M.fr F) v u a (b + 1)) := by show _ ↔ _; rw [HG.out]; simp
                        clear hei
                        go_wp2_with fail
                        go_roundw
                        case rel => exact ⟨b + 1, false, by go_num, rfl, by omega, HGt, HBr.out⟩
                        case measure => simp [intOf]; omega
          · obtain rfl : b = a + 1 := by omega
            have hdba : decide (((a + 1 : Nat) : Int) ≤ (a : Int)) = false := decide_eq_false (by omega)
            obtain ⟨b, hbe⟩ : ∃ b, a + 1 = b := ⟨_, rfl⟩
            have HG : Hid (g = true ↔ M.alk (M.fr F) v u (a + 1) 0) := by show _ ↔ _; rw [hG.out, M.alk_next]
            rw [hbe] at hdba
            rw [hbe]
            have hba' : decide (b ≤ a) = false := decide_eq_false (by omega)
            have hbb : (a : Int) + 1 = (b : Int) := by omega
            rw [hbe] at HG
            clear hG hba
            go_wp2_with fail
            go_roundw
            case rel => exact ⟨b, g, by go_num, rfl, by omega, HG, hB⟩
            case measure => simp [intOf]; omega
      · obtain rfl : a = n := by omega
        have HF : Hid ((sw == g) = true) := by
          show _ = _
          rw [beq_iff_eq, Bool.eq_iff_iff, HSW.out, hG.out]
        go_wp2_with fail
        go_ret
        exact ⟨by rw [← HF.out]; rfl, hB⟩
  · obtain ⟨c, hcc⟩ : ∃ c, scode zs vs ws = c := ⟨_, rfl⟩
    have hne : c ≠ 0 := by rw [← hcc]; exact h0
    refine (fsame_err zs p n cap vs q m cap2 ws q3 m3 cap3 _ hl (he.later hB1) hmax (hc.later hB1) hl2 hmax2 (hd.later hB1) hl3 hmax3 (hf.later hB1) c hcc hne).mono ?_
    rintro e w2 ⟨rfl, hB2⟩
    have HB : Hid (Below _ _ _) := bel_on hB1 hB2
    clear h0 hne hcc
    unfold errC
    go_wp2_with fail
    go_ret
    exact ⟨rfl, HB.out⟩
end Go.Proofs.YtbacngbcnkikiaaDoor
