/- The document's answer: the least row by trying (whensteadref3.rowFrom, which calls itself; Serial). -/
import Derived.Test.YtajiichehffaaaaDoorBRf
import Derived.Test.YtajiichehffaaaaDoorAppAny
import Derived.Test.YtajiichehffaaaaDoorSc0
import Derived.Test.YtajiichehffaaaaDoorBFt
namespace Go.Proofs.YtajiichehffaaaaDoor
open Go.RowKit

namespace M
section
variable {σ : Type} {n : Nat} {can : σ → Nat → Bool} {nx : σ → Nat → σ}
theorem fs_range {β : Type} {f : Nat → Option β} {i : Nat} {b : β} (hno : ∀ u, u < i → f u = none) (hb : f i = some b) : ∀ n, i < n → (List.range n).findSome? f = some b
  | 0, h => absurd h (Nat.not_lt_zero _)
  | m + 1, h => by
    rw [List.range_succ, List.findSome?_append]
    by_cases e : i < m
    · rw [fs_range hno hb m e]; rfl
    · obtain rfl : i = m := by omega
      have : (List.range i).findSome? f = none := List.findSome?_eq_none_iff.2 (fun x hx => hno x (List.mem_range.1 hx))
      rw [this]
      simp [hb]
/-- one more, and what then goes on -/
def gbT (n : Nat) (can : σ → Nat → Bool) (nx : σ → Nat → σ) (k : Nat) (s : σ) (i : Nat) : Option (List Nat) := if can s i then (gb n can nx k (nx s i)).map (i :: ·) else none
theorem gb_hit {k i : Nat} {s : σ} {l : List Nat} (hi : i < n) (hno : ∀ u, u < i → gbT n can nx k s u = none) (hc : can s i = true) (hg : gb n can nx k (nx s i) = some l) : gb n can nx (k + 1) s = some (i :: l) := by
  show (List.range n).findSome? (gbT n can nx k s) = _
  refine fs_range hno ?_ n hi
  unfold gbT
  rw [if_pos hc, hg]; rfl
theorem gb_miss {k : Nat} {s : σ} (hno : ∀ u, u < n → gbT n can nx k s u = none) : gb n can nx (k + 1) s = none := by
  show (List.range n).findSome? (gbT n can nx k s) = _
  exact List.findSome?_eq_none_iff.2 (fun x hx => hno x (List.mem_range.1 hx))
theorem gbT_no {k i : Nat} {s : σ} (hc : can s i = false) : gbT n can nx k s i = none := by unfold gbT; rw [hc]; rfl
theorem gbT_none {k i : Nat} {s : σ} (hg : gb n can nx k (nx s i) = none) : gbT n can nx k s i = none := by unfold gbT; rw [hg]; split <;> rfl
end
/-- none of the first j told is i, or in its set -/
def canTo (E told : List Nat) (i j : Nat) : Bool := (told.take j).all fun k => k != i && !(row E i).testBit k
theorem canTo_zero (E told : List Nat) (i : Nat) : canTo E told i 0 = true := by simp [canTo]
theorem canTo_all (E told : List Nat) (i : Nat) : canTo E told i told.length = canS E told i := by unfold canTo canS; rw [List.take_length]
theorem canTo_next {E told : List Nat} {i j : Nat} (hj : j < told.length) : canTo E told i (j + 1) = (canTo E told i j && (row told j != i && !(row E i).testBit (row told j))) := by
  unfold canTo
  rw [List.take_add_one, List.getElem?_eq_getElem hj, show row told j = told[j] by unfold row; rw [List.getElem?_eq_getElem hj]; rfl, List.all_append]
  simp
abbrev nxS (told : List Nat) (i : Nat) : List Nat := told ++ [i]
end M
theorem icells_lenY (c : List Nat) : (icells c).length = c.length := by simp [icells]
theorem icells_oneY (c : List Nat) : ∀ u ∈ icells c, u.oneCell' = true := by
  intro u hu
  obtain ⟨x, _, rfl⟩ := List.mem_map.1 hu
  rfl
theorem hasI_cellsY {c : List Nat} {q : Option Addr} {w : World} (h : HasI (ints c) q w) : ∀ ad, q = some ad → ∀ j u, (icells c)[j]? = some u → w.cell? (ad.add j) = some u := by
  intro ad e j u hu
  have hj : j < c.length := by
    have := (List.getElem?_eq_some_iff.1 hu).1
    rwa [icells_lenY] at this
  obtain ⟨b, off, e2, _, hc⟩ := h j (by rw [ints_length]; exact hj)
  rw [ints_get] at hc
  rw [e] at e2
  cases e2
  have : u = .int .i64 (M.row c j : Nat) := by
    unfold icells at hu
    rw [List.getElem?_map, List.getElem?_eq_getElem hj] at hu
    unfold M.row
    rw [List.getElem?_eq_getElem hj]
    exact (Option.some.inj hu).symm
  rw [this]
  rw [addr_add]
  exact hc
theorem owns_noneY {w : World} {base n : Nat} {c : List Nat} {v : Value} (h : w.ownsRow base 3 1 v n (icells c)) : ∃ p cap, v = .slice p n cap ∧ (p = none → n = 0 ∧ cap = 0) := by
  rcases h.2 with ⟨rfl, rfl⟩ | ⟨g, cap, cur, rfl, _⟩
  · exact ⟨none, 0, rfl, fun _ => ⟨rfl, rfl⟩⟩
  · exact ⟨_, cap, rfl, fun e => by cases e⟩
set_option maxRecDepth 100000 in
set_option maxHeartbeats 4000000 in
theorem rowFrom_ok (E : List Nat) (p : Option Addr) (n cap : Nat) (hl : E.length = n) (hn : n ≤ 12) (hE : ∀ i, M.row E i < 65536) : ∀ (d : Nat) (told : List Nat) (q : Option Addr) (m c : Nat) (w : World), told.length = m → m + d = n → (q = none → m = 0 ∧ c = 0) → (∀ x, x ∈ told → x < 12) → HasI (ints E) p w → HasI (ints told) q w →
    Calls Tryd.prog 39 #[.slice p n cap, .slice q m c] w fun e w' => Below w.heap.size w w' ∧
      ((∃ l q' c', M.gb n (M.canS E) M.nxS d told = some l ∧ e = .returned (.slice q' n c') ∧ HasI (ints (told ++ l)) q' w') ∨ (M.gb n (M.canS E) M.nxS d told = none ∧ m < n ∧ e = .returned (.slice q m c))) := by
  intro d
  induction d with
  | zero =>
    intro told q m c w hm hmd hnone hlt hp hq
    obtain rfl : m = n := by omega
    by_cases h0 : 0 < m
    · have h0i : (0 : Int) < (m : Int) := by omega
      go_enter Tryd.func39, Tryd.ntmps39
      go_wp2_with fail
      go_loop [5] (fun v => v = .int .i64 0) (fun _ => 0)
      case atStart => exact rfl
      case round =>
        obtain rfl := hrel
        go_wp2_with fail
        go_ret
        exact ⟨Below.refl _ _, [], rfl, q, ⟨c, rfl⟩, by rw [List.append_nil]; exact hq⟩
    · obtain rfl : m = 0 := by omega
      go_enter Tryd.func39, Tryd.ntmps39
      go_wp2_with fail
      go_loop [5] (fun v => v = .int .i64 0) (fun _ => 0)
      case atStart => exact rfl
      case round =>
        obtain rfl := hrel
        go_wp2_with fail
        go_ret
        exact ⟨Below.refl _ _, [], rfl, q, ⟨c, rfl⟩, by rw [List.append_nil]; exact hq⟩
  | succ d ih =>
    intro told q m c w hm hmd hnone hlt hp hq
    obtain ⟨i0, hi0, hz0, hz1, hz2⟩ := info_parts Tryd.info3
    have hmn : m < n := by omega
    have hmni : (m : Int) < (n : Int) := by omega
    have HNo : Hid (q = none → m = 0 ∧ c = 0) := hnone
    have hx12 : ∀ j, j < m → M.row told j < 12 := fun j hj => hlt _ (M.row_memS (by omega))
    clear hnone
    go_enter Tryd.func39, Tryd.ntmps39
    go_wp2_with fail
    go_loopw [5] (fun v wr => ∃ i : Nat, v = .int .i64 i ∧ i ≤ n ∧ Hid (∀ u, u < i → M.gbT n (M.canS E) M.nxS d told u = none) ∧ Below w.heap.size w wr) (fun v _ => n - (intOf v).toNat)
    case atStart => exact ⟨0, rfl, Nat.zero_le _, fun u h => absurd h (Nat.not_lt_zero _), Below.refl _ _⟩
    case round =>
      obtain ⟨i, rfl, hi, hno, hB⟩ := hrel
      obtain ⟨wo, hwo⟩ : ∃ wo, wo = wr := ⟨_, rfl⟩
      subst hwo
      by_cases hin : i < n
      · have hini : (i : Int) < (n : Int) := by omega
        go_wp2_with fail
        go_loopw [6, 7] (fun bv v wr => ∃ (j : Nat) (b : Bool), v = .int .i64 j ∧ bv = .bool b ∧ j ≤ m ∧ Hid (b = M.canTo E told i j) ∧ Below w.heap.size w wr) (fun _ v _ => m - (intOf v).toNat)
        case atStart => exact ⟨0, true, rfl, rfl, Nat.zero_le _, (M.canTo_zero E told i).symm, hB⟩
        case round =>
          clear hB
          obtain ⟨j, b, rfl, rfl, hjm, hb, hB⟩ := hrel
          by_cases hj : j < m
          · have hji : (j : Int) < (m : Int) := by omega
            obtain ⟨bt, ot, rfl, hbt, hct⟩ := (hq.later hB) j (by rw [ints_length]; omega)
            obtain ⟨be, oe, rfl, hbe, hce⟩ := (hp.later hB) i (by rw [ints_length]; omega)
            rw [ints_get] at hct hce
            have hx := hx12 j hj
            have hs := hE i
            have hnext := M.canTo_next (E := E) (told := told) (i := i) (j := j) (by omega)
            rw [← hb.out] at hnext
            obtain ⟨x, hxd⟩ : ∃ x, M.row told j = x := ⟨_, rfl⟩
            obtain ⟨s, hsd⟩ : ∃ s, M.row E i = s := ⟨_, rfl⟩
            rw [hxd] at hct hx hnext
            rw [hsd] at hce hs hnext
            clear hxd hsd
            have hDN : Hid (∀ k, Below w.heap.size w (wr.drewN k)) := fun k => bel_on hB (below_drewN wr k)
            cases b with
            | false =>
              have HN : Hid (M.canTo E told i (j + 1) = false) := by show _ = _; rw [hnext]; rfl
              clear hnext hp hq
              go_wp2_with fail
              go_big_quiet (fail)
              go_wp2_with fail
              go_roundw
              case rel => exact ⟨j + 1, false, by go_num, rfl, by omega, HN.out.symm, hDN.out _⟩
              case measure => simp [intOf]; omega
            | true =>
              by_cases hxi : x = i
              · have e1 : ((x : Int) != (i : Int)) = false := by simp; omega
                have HN : Hid (M.canTo E told i (j + 1) = false) := by show _ = _; rw [hnext, hxi]; simp
                clear hnext hxi hp hq
                go_wp2_with fail
                go_big_quiet (fail)
                go_wp2_with fail
                go_roundw
                case rel => exact ⟨j + 1, false, by go_num, rfl, by omega, HN.out.symm, hDN.out _⟩
                case measure => simp [intOf]; omega
              · have e1 : ((x : Int) != (i : Int)) = true := by simp; omega
                have HN : Hid (M.canTo E told i (j + 1) = !s.testBit x) := by show _ = _; rw [hnext]; simp [hxi]
                have hbit := fun k => bit_any s x (wr.drewN k) hs (by omega)
                obtain ⟨y, hy⟩ : ∃ y, s.testBit x = y := ⟨_, rfl⟩
                simp only [hy] at hbit
                rw [hy] at HN
                clear hnext hxi hp hq hy
                go_wp2_with fail
                go_big_quiet ((go_at_call 13; exact Calls.quiet_of_same ((hbit _).mono (fun e w' h => ⟨h.1, h.2.symm⟩))))
                go_wp2_with fail
                go_roundw
                case rel => exact ⟨j + 1, !y, by go_num, rfl, by omega, HN.out.symm, hDN.out _⟩
                case measure => simp [intOf]; omega
          · obtain rfl : j = m := by omega
            have hcan : b = M.canS E told i := by rw [hb.out, ← hm]; exact M.canTo_all E told i
            cases b with
            | false =>
              have HN : Hid (∀ u, u < i + 1 → M.gbT n (M.canS E) M.nxS d told u = none) := fun u hu => by
                by_cases e : u = i
                · rw [e]; exact M.gbT_no hcan.symm
                · exact hno.out u (by omega)
              clear hcan hp hq
              go_wp2_with fail
              go_roundw
              case rel => exact ⟨i + 1, by go_num, by omega, HN, hB⟩
              case measure => simp [intOf]; omega
            | true =>
              have HC : Hid (M.canS E told i = true) := hcan.symm
              have hcl2 := hasI_cellsY (hq.later hB)
              have hszr := hB.size
              clear hcan hq
              go_wp2_with (first
                | (at_builtin; refine wpList_append_ownAny _ rfl _ _ 32 rfl w.heap.size 3 i0 (.int .i64 0) 1 8 Tryd.underlying32 hi0 hz0 hz1 hz2 rfl (by decide) _ 0 [] rfl (World.ownsRow_nil _ _ _ _) q j c (icells told) rfl (by rw [icells_lenY, hm, Nat.mul_one]) HNo.out hcl2 (icells_oneY told) (by unfold maxLen; omega) (by omega) hszr ?_; intro v1 w1 hown1 hgrow1; have hBa : Below w.heap.size w w1 := hB.grown hgrow1 hszr (fun u e => by cases e))
                | (at_builtin; refine wpList_append_own _ rfl _ _ 32 rfl w.heap.size 3 i0 (.int .i64 0) 1 8 Tryd.underlying32 hi0 hz0 hz1 hz2 rfl (by decide) _ _ _ rfl (hown1.alloc _) ⟨w1.heap.size, 0, none⟩ 1 1 [.int .i64 (i : Nat)] rfl rfl (cell_one_new _ _ _) (by simp [Value.oneCell']) (by unfold maxLen; omega) (by omega) (by have := hBa.size; simp; omega) ?_; intro v2 w2 hown2 hgrow2 _))
              have hBb : Below w.heap.size w w2 := (hBa.alloc hBa.size _).grown hgrow2 (by have := hBa.size; simp; omega) (fun u e => (hown1.lt u e).1)
              rw [Nat.zero_add, List.nil_append, ← icells_snoc] at hown2
              obtain ⟨p2, cap2, rfl, hno2⟩ := owns_noneY hown2
              have hh2 : HasI (ints (told ++ [i])) p2 w2 := hasI_of_owns (by simp [hm]) hown2
              have hih := ih (told ++ [i]) p2 (j + 1) cap2 w2 (by simp [hm]) (by omega) hno2 (fun x hx => by
                rcases List.mem_append.1 hx with h | h
                · exact hlt x h
                · rw [List.mem_singleton.1 h]; omega) (hp.later hBb) hh2
              clear hp hown1 hgrow1 hgrow2 hown2 hcl2
              refine hih.mono ?_
              rintro e w3 ⟨hB3, hres⟩
              have hBc := hBb.trans (hB3.mono hBb.size)
              rcases hres with ⟨l, p3, c3, hr, rfl, hh3⟩ | ⟨hr, hlt3, rfl⟩
              · have HH : Hid (M.gb n (M.canS E) M.nxS (d + 1) told = some (i :: l)) := M.gb_hit hin hno.out HC.out hr
                have HI3 : Hid (HasI (ints (told ++ (i :: l))) p3 w3) := by show HasI _ _ _; rw [List.append_assoc] at hh3; exact hh3
                clear hr hh3 hh2
                go_wp2_with fail
                go_ret
                exact ⟨hBc, .inl ⟨i :: l, p3, c3, HH.out, rfl, HI3.out⟩⟩
              · have e5 : (((j + 1 : Nat) : Int) == (n : Int)) = false := by simp; omega
                have HN : Hid (∀ u, u < i + 1 → M.gbT n (M.canS E) M.nxS d told u = none) := fun u hu => by
                  by_cases e : u = i
                  · rw [e]; exact M.gbT_none hr
                  · exact hno.out u (by omega)
                clear hr hh2
                go_wp2_with fail
                go_roundw
                case rel => exact ⟨i + 1, by go_num, by omega, HN, hBc⟩
                case measure => simp [intOf]; omega
      · obtain rfl : i = n := by omega
        have HN : Hid (M.gb i (M.canS E) M.nxS (d + 1) told = none) := M.gb_miss (fun u hu => hno.out u hu)
        clear hp hq
        go_wp2_with fail
        go_ret
        exact ⟨hB, .inr ⟨HN.out, hmn, rfl⟩⟩
set_option maxHeartbeats 1000000 in
theorem refSerial_ok (E : List Nat) (p : Option Addr) (n cap : Nat) (w : World) (hl : E.length = n) (hn : n ≤ 12) (hE : ∀ i, M.row E i < 65536) (hp : HasI (ints E) p w) :
    Calls Tryd.prog 20 #[.slice p n cap] w fun e w' => Below w.heap.size w w' ∧
      ((∃ l q c, M.gb n (M.canS E) M.nxS n [] = some l ∧ e = .returned (.tuple #[.slice q n c, .bool true]) ∧ HasI (ints l) q w') ∨ (M.gb n (M.canS E) M.nxS n [] = none ∧ e = .returned (.tuple #[.slice none 0 0, .bool false]))) := by
  go_enter Tryd.func20, Tryd.ntmps20
  go_wp2_with fail
  refine (rowFrom_ok E p n cap hl hn hE n [] none 0 0 w rfl (by omega) (fun _ => ⟨rfl, rfl⟩) (fun x hx => absurd hx (List.not_mem_nil)) hp (fun j hj => absurd hj (Nat.not_lt_zero _))).mono ?_
  rintro e w2 ⟨hB, ⟨l, q, c, hg, rfl, hI⟩ | ⟨hg, hlt, rfl⟩⟩
  · have HG : Hid (M.gb n (M.canS E) M.nxS n [] = some l) := hg
    have HI : Hid (HasI (ints l) q w2) := hI
    clear hg hI
    go_wp2_with fail
    go_ret2
    exact ⟨hB, .inl ⟨l, q, c, HG.out, rfl, HI.out⟩⟩
  · have HG : Hid (M.gb n (M.canS E) M.nxS n [] = none) := hg
    have hlti : (0 : Int) < (n : Int) := by omega
    clear hg
    go_wp2_with fail
    go_ret2
    exact ⟨hB, .inr ⟨HG.out, rfl⟩⟩
end Go.Proofs.YtajiichehffaaaaDoor
