/- A new table of locks, what was done, who waits for whom (package lock, New, Acts, Waits; package slices, Clone, at acts). Who waits for whom at a table of locks (package lock, Waits). -/
import Derived.Test.YtcjodlgkmbmcgaaDoorBLo
namespace Go.Proofs.YtcjodlgkmbmcgaaDoor
open Go.RowKit
theorem tv_new (w : World) : TVr (w.alloc (.cells #[.int .i64 0, .int .i64 0, .int .i64 0, .int .i64 0, .int .i64 0, .int .i64 0, .int .i64 0, .int .i64 0, .bool false, .int .i64 0, .int .i64 0, .bool false, .int .i64 0, .int .i64 0, .bool false, .int .i64 0, .int .i64 0, .bool false, .int .i64 0, .int .i64 0, .bool false, .int .i64 0, .int .i64 0, .int .i64 0, .slice none 0 0] 61)) w.heap.size M.lk0 (.slice none 0 0) := by
  refine ⟨?_, World.ownsRow_nil _ _ _ _⟩
  refine World.rowIs_alloc w #[.int .i64 0, .int .i64 0, .int .i64 0, .int .i64 0, .int .i64 0, .int .i64 0, .int .i64 0, .int .i64 0, .bool false, .int .i64 0, .int .i64 0, .bool false, .int .i64 0, .int .i64 0, .bool false, .int .i64 0, .int .i64 0, .bool false, .int .i64 0, .int .i64 0, .bool false, .int .i64 0, .int .i64 0, .int .i64 0, .slice none 0 0] _ _ (fun i hi => ?_)
  have hi' : i < 25 := hi
  have h : ∀ j, j < 25 → (#[Value.int .i64 0, .int .i64 0, .int .i64 0, .int .i64 0, .int .i64 0, .int .i64 0, .int .i64 0, .int .i64 0, .bool false, .int .i64 0, .int .i64 0, .bool false, .int .i64 0, .int .i64 0, .bool false, .int .i64 0, .int .i64 0, .bool false, .int .i64 0, .int .i64 0, .bool false, .int .i64 0, .int .i64 0, .int .i64 0, .slice none 0 0] : Array Value)[j]? = some (tbF M.lk0 (.slice none 0 0) j) := by
    intro j hj
    have e : j = 0 ∨ j = 1 ∨ j = 2 ∨ j = 3 ∨ j = 4 ∨ j = 5 ∨ j = 6 ∨ j = 7 ∨ j = 8 ∨ j = 9 ∨ j = 10 ∨ j = 11 ∨ j = 12 ∨ j = 13 ∨ j = 14 ∨ j = 15 ∨ j = 16 ∨ j = 17 ∨ j = 18 ∨ j = 19 ∨ j = 20 ∨ j = 21 ∨ j = 22 ∨ j = 23 ∨ j = 24 := by omega
    rcases e with rfl | rfl | rfl | rfl | rfl | rfl | rfl | rfl | rfl | rfl | rfl | rfl | rfl | rfl | rfl | rfl | rfl | rfl | rfl | rfl | rfl | rfl | rfl | rfl | rfl <;> rfl
  exact h i hi'
set_option maxRecDepth 100000 in
set_option maxHeartbeats 2000000 in
theorem lnew_ok {O : Nat → Prop} (w : World) (hO : O w.heap.size) : Calls Tryd.prog 8 #[] w fun e w' => ∃ S, S = w.heap.size ∧ e = .returned (.pointer (some ⟨S, 0, none⟩)) ∧ TV O S M.lk0 w' ∧ Below w.heap.size w w' := by
  go_enter Tryd.func8, Tryd.ntmps8
  go_wp2_with fail
  go_ret
  exact ⟨_, rfl, rfl, ⟨_, tv_new w, hO, fun g h => by simp [Value.ownBlock] at h⟩, bel_al (Below.refl _ _) _⟩
set_option maxRecDepth 100000 in
set_option maxHeartbeats 2000000 in
theorem aclone_ok (s : List M.SAct) (ad : Option Addr) (n cap : Nat) (w : World) (hl : s.length = n) (hn : n ≤ 24) (hc : HasAc (az s) ad w) (hb : ∀ b off, ad = some ⟨b, off, none⟩ → b < w.heap.size) (hsp : ∀ a, ad = some a → a.spot = none) (hnil : ad = none → n = 0 ∧ cap = 0) :
    Calls Tryd.prog 30 #[.slice ad n cap] w fun e w' => ∃ p c, e = .returned (.slice p n c) ∧ n ≤ c ∧ HasAc (az s) p w' ∧ Below w.heap.size w w' := by
  cases ad with
  | none =>
    obtain ⟨rfl, rfl⟩ := hnil rfl
    have hq : ∀ w' : World, (binOp .eql 34 (.slice none 0 0) (.slice none 0 0)).run Tryd.prog w' = .ok (.bool true) w' := fun w' => Lib.run_eql_slice_nil w' _ _ none 0 0 0 0 Tryd.underlying34
    have HC : Hid (HasAc (az s) none w) := hc
    clear hc hb hsp hnil
    go_enter Tryd.func30, Tryd.ntmps30
    go_wp2_with fail
    go_ret
    exact ⟨_, _, rfl, Nat.le_refl _, HC.out, Below.refl _ _⟩
  | some a =>
    obtain ⟨b, off, sp⟩ := a
    obtain rfl : sp = none := hsp _ rfl
    have hbl := hb b off rfl
    obtain ⟨i0, hi0, hz0, hz1, hz2⟩ := infoAct_parts infoAct
    have hq : ∀ w' : World, (binOp .eql 34 (.slice (some ⟨b, off, none⟩) n cap) (.slice none 0 0)).run Tryd.prog w' = .ok (.bool false) w' := fun w' => Lib.run_eql_slice_nil w' _ _ (some ⟨b, off, none⟩) n cap 0 0 Tryd.underlying34
    have A : Hid (∀ j u, (acells s)[j]? = some u → w.cell? ((⟨b, off, none⟩ : Addr).add j) = some u) := hasAc_cells hc
    have HL : Hid (s.length = n) := hl
    clear hc hb hsp hnil hl
    go_enter Tryd.func30, Tryd.ntmps30
    go_wp2_with (at_builtin; refine wpList_append_own _ rfl _ _ 34 rfl w.heap.size 38 i0 (.agg #[.int .i64 0, .int .i64 0, .int .i64 0]) 3 24 Tryd.underlying34 hi0 hz0 hz1 hz2 rfl (by decide) _ _ _ rfl (World.ownsRow_made w #[] 0 (Nat.le_refl _) (Nat.zero_le _) rfl) ⟨b, off, none⟩ n cap (acells s) rfl ?c1 ?c2 ?c3 ?c4 ?c5 ?c6 ?_)
    case c1 => rw [acells_len, HL.out]
    case c2 =>
      intro j u hj
      have h1 := A.out j u hj
      rw [addr_add] at h1 ⊢
      exact ((bel_al (Below.refl _ w) _).cell (p := ⟨b, off + j, none⟩) hbl).trans h1
    case c3 => exact acells_one s
    case c4 => unfold maxLen; omega
    case c5 => omega
    case c6 => simp
    intro v' w1 hown hgrow _
    obtain ⟨q', c', rfl, hcc⟩ := owns_capA hown
    have FB : Hid (Below w.heap.size w w1) := (bel_al (Below.refl _ w) _).grown hgrow (by simp) (by intro k hk; simp [Value.ownBlock] at hk; omega)
    have FA : Hid (HasAc (az s) q' w1 ∧ n ≤ c') := ⟨hasAc_of_owns HL.out hown, hcc⟩
    clear hown hgrow A
    go_wp2_with fail
    go_ret
    exact ⟨q', c', rfl, FA.out.2, FA.out.1, FB.out⟩
set_option maxRecDepth 100000 in
set_option maxHeartbeats 2000000 in
theorem lacts_ok {O : Nat → Prop} {S : Nat} {s : M.Lk} (w : World) (h : TV O S s w) (hG : M.LG s) :
    Calls Tryd.prog 11 #[.pointer (some ⟨S, 0, none⟩)] w fun e w' => ∃ p c, e = .returned (.slice p s.ac.length c) ∧ s.ac.length ≤ c ∧ HasAc (az s.ac) p w' ∧ Below w.heap.size w w' := by
  obtain ⟨v, h1, _⟩ := h
  have ca := h1.acts
  have hown := h1.act
  obtain ⟨ad, c0, rfl, hcc⟩ := owns_capA hown
  have hcl := aclone_ok s.ac ad s.ac.length c0 w rfl hG.len (hasAc_of_owns rfl hown) (fun b off e => (hown.lt b (by rw [e]; rfl)).2) (fun a e => by
    subst e
    rcases hown.2 with ⟨e, _⟩ | ⟨g, cap, cur, e, _⟩
    · cases e
    · cases e; rfl) (fun e => by
    subst e
    rcases hown.2 with ⟨e, h0⟩ | ⟨g, cap, cur, e, _⟩
    · simp only [Value.slice.injEq] at e; omega
    · cases e)
  have lS := h1.lt
  obtain ⟨L, hL⟩ : ∃ L, s.ac.length = L := ⟨_, rfl⟩
  rw [hL] at hcl ca ⊢
  clear h1 hown hG hcc hL
  go_enter Tryd.func11, Tryd.ntmps11
  go_wp2_with fail
  refine hcl.mono ?_
  rintro e w1 ⟨p, c, rfl, h1, h2, h3⟩
  have F : Hid (L ≤ c ∧ HasAc (az s.ac) p w1 ∧ Below w.heap.size w w1) := ⟨h1, h2, h3⟩
  clear h1 h2 h3 hcl
  go_wp2_with fail
  go_ret
  exact ⟨p, c, rfl, F.out⟩
end Go.Proofs.YtcjodlgkmbmcgaaDoor
namespace Go.Proofs.YtcjodlgkmbmcgaaDoor
open Go.RowKit
namespace M
/-- for whom the first k wait -/
def wtK (s : Lk) (k : Nat) : List Nat := (List.range 5).map fun x => if x < k then cnt01 5 (wtB s x) else 0
theorem wtK_len (s : Lk) (k : Nat) : (wtK s k).length = 5 := by simp [wtK]
theorem wtK_row (s : Lk) (k : Nat) {x : Nat} (h : x < 5) : row (wtK s k) x = if x < k then cnt01 5 (wtB s x) else 0 := by simp [row, wtK, h]
theorem wtK_zero (s : Lk) : wtK s 0 = List.replicate 5 0 := rfl
theorem wtK_five (s : Lk) : wtK s 5 = wtR s := by
  refine ext_rows (by rw [wtK_len, wtR_len]) fun i hi j => ?_
  rw [wtK_len] at hi
  rw [wtK_row s 5 hi, if_pos hi]
  simp [row, wtR, hi]
theorem wtK_set {s : Lk} {k v : Nat} (hk : k < 5) (hv : v = cnt01 5 (wtB s k)) : (wtK s k).set k v = wtK s (k + 1) := by
  subst hv
  refine ext_rows (by rw [List.length_set, wtK_len, wtK_len]) fun i hi j => ?_
  rw [List.length_set, wtK_len] at hi
  have e : row ((wtK s k).set k (cnt01 5 (wtB s k))) i = row (wtK s (k + 1)) i := by
    rw [wtK_row s (k + 1) hi]
    unfold row
    rw [List.getElem?_set, wtK_len]
    by_cases c : k = i
    · subst c; rw [if_pos rfl, if_pos hk, if_pos (by omega)]; rfl
    · rw [if_neg c]
      have := wtK_row s k hi
      unfold row at this
      rw [this]
      by_cases d : i < k
      · rw [if_pos d, if_pos (by omega)]
      · rw [if_neg d, if_neg (by omega)]
  rw [e]
theorem wt_none {s : Lk} {x : Nat} (h : (s.wa x != 0) = false) : cnt01 5 (wtB s x) = 0 := Nat.eq_of_testBit_eq fun j => by
  rw [cnt01_bit]
  unfold wtB
  rw [h]; simp
theorem wt_some {s : Lk} {x : Nat} (h : (s.wa x != 0) = true) : cnt01 5 (wtB s x) = agS s x ((s.wa x - 1) / 2) ((s.wa x - 1) % 2) := c5_congr fun t _ => by
  unfold wtB
  rw [h]; simp
theorem wtK_skip {s : Lk} {k : Nat} (hk : k < 5) (h : (s.wa k != 0) = false) : wtK s (k + 1) = wtK s k := by
  rw [← wtK_set hk (wt_none h).symm]
  refine ext_rows (by rw [List.length_set]) fun i hi j => ?_
  rw [List.length_set, wtK_len] at hi
  have e : row ((wtK s k).set k 0) i = row (wtK s k) i := by
    unfold row
    rw [List.getElem?_set, wtK_len]
    by_cases c : k = i
    · subst c
      rw [if_pos rfl, if_pos hk]
      have := wtK_row s k hk
      unfold row at this
      rw [this, if_neg (by omega)]; rfl
    · rw [if_neg c]
  rw [e]
theorem wt_lt (s : Lk) (x : Nat) : cnt01 5 (wtB s x) < 32 := c5_lt _
end M
set_option maxRecDepth 100000 in
set_option maxHeartbeats 4000000 in
theorem lwaits_ok {O : Nat → Prop} {S : Nat} {s : M.Lk} (w : World) (h : TV O S s w) (hG : M.LG s) :
    Calls Tryd.prog 14 #[.pointer (some ⟨S, 0, none⟩)] w fun e w' => ∃ A, e = .returned (.slice (some ⟨A, 0, none⟩) 5 5) ∧ RowAt 3 w' A (M.wtR s) ∧ w.heap.size ≤ A ∧ Below w.heap.size w w' := by
  have HT : Hid (TV O S s w) := h
  have HG : Hid (M.LG s) := hG
  obtain ⟨v, h1, _⟩ := h
  have l1 := h1.lt
  have b0 : w.cell? ⟨S, 8, none⟩ = some (.bool (s.wa 0 != 0)) := h1.is_ (t := 0) (by omega)
  have k0 : w.cell? ⟨S, 9, none⟩ = some (.int .i64 ((s.wa 0 - 1) % 2 : Nat)) := h1.kind (t := 0) (by omega)
  have i0 : w.cell? ⟨S, 10, none⟩ = some (.int .i64 ((s.wa 0 - 1) / 2 : Nat)) := h1.item (t := 0) (by omega)
  have b1 : w.cell? ⟨S, 11, none⟩ = some (.bool (s.wa 1 != 0)) := h1.is_ (t := 1) (by omega)
  have k1 : w.cell? ⟨S, 12, none⟩ = some (.int .i64 ((s.wa 1 - 1) % 2 : Nat)) := h1.kind (t := 1) (by omega)
  have i1 : w.cell? ⟨S, 13, none⟩ = some (.int .i64 ((s.wa 1 - 1) / 2 : Nat)) := h1.item (t := 1) (by omega)
  have b2 : w.cell? ⟨S, 14, none⟩ = some (.bool (s.wa 2 != 0)) := h1.is_ (t := 2) (by omega)
  have k2 : w.cell? ⟨S, 15, none⟩ = some (.int .i64 ((s.wa 2 - 1) % 2 : Nat)) := h1.kind (t := 2) (by omega)
  have i2 : w.cell? ⟨S, 16, none⟩ = some (.int .i64 ((s.wa 2 - 1) / 2 : Nat)) := h1.item (t := 2) (by omega)
  have b3 : w.cell? ⟨S, 17, none⟩ = some (.bool (s.wa 3 != 0)) := h1.is_ (t := 3) (by omega)
  have k3 : w.cell? ⟨S, 18, none⟩ = some (.int .i64 ((s.wa 3 - 1) % 2 : Nat)) := h1.kind (t := 3) (by omega)
  have i3 : w.cell? ⟨S, 19, none⟩ = some (.int .i64 ((s.wa 3 - 1) / 2 : Nat)) := h1.item (t := 3) (by omega)
  have b4 : w.cell? ⟨S, 20, none⟩ = some (.bool (s.wa 4 != 0)) := h1.is_ (t := 4) (by omega)
  have k4 : w.cell? ⟨S, 21, none⟩ = some (.int .i64 ((s.wa 4 - 1) % 2 : Nat)) := h1.kind (t := 4) (by omega)
  have i4 : w.cell? ⟨S, 22, none⟩ = some (.int .i64 ((s.wa 4 - 1) / 2 : Nat)) := h1.item (t := 4) (by omega)
  obtain ⟨B0, hB0'⟩ : ∃ x, (s.wa 0 != 0) = x := ⟨_, rfl⟩
  obtain ⟨K0, hK0⟩ : ∃ x, (s.wa 0 - 1) % 2 = x := ⟨_, rfl⟩
  obtain ⟨I0, hI0⟩ : ∃ x, (s.wa 0 - 1) / 2 = x := ⟨_, rfl⟩
  rw [hB0'] at b0; rw [hK0] at k0; rw [hI0] at i0
  obtain ⟨B1, hB1⟩ : ∃ x, (s.wa 1 != 0) = x := ⟨_, rfl⟩
  obtain ⟨K1, hK1⟩ : ∃ x, (s.wa 1 - 1) % 2 = x := ⟨_, rfl⟩
  obtain ⟨I1, hI1⟩ : ∃ x, (s.wa 1 - 1) / 2 = x := ⟨_, rfl⟩
  rw [hB1] at b1; rw [hK1] at k1; rw [hI1] at i1
  obtain ⟨B2, hB2⟩ : ∃ x, (s.wa 2 != 0) = x := ⟨_, rfl⟩
  obtain ⟨K2, hK2⟩ : ∃ x, (s.wa 2 - 1) % 2 = x := ⟨_, rfl⟩
  obtain ⟨I2, hI2⟩ : ∃ x, (s.wa 2 - 1) / 2 = x := ⟨_, rfl⟩
  rw [hB2] at b2; rw [hK2] at k2; rw [hI2] at i2
  obtain ⟨B3, hB3⟩ : ∃ x, (s.wa 3 != 0) = x := ⟨_, rfl⟩
  obtain ⟨K3, hK3⟩ : ∃ x, (s.wa 3 - 1) % 2 = x := ⟨_, rfl⟩
  obtain ⟨I3, hI3⟩ : ∃ x, (s.wa 3 - 1) / 2 = x := ⟨_, rfl⟩
  rw [hB3] at b3; rw [hK3] at k3; rw [hI3] at i3
  obtain ⟨B4, hB4⟩ : ∃ x, (s.wa 4 != 0) = x := ⟨_, rfl⟩
  obtain ⟨K4, hK4⟩ : ∃ x, (s.wa 4 - 1) % 2 = x := ⟨_, rfl⟩
  obtain ⟨I4, hI4⟩ : ∃ x, (s.wa 4 - 1) / 2 = x := ⟨_, rfl⟩
  rw [hB4] at b4; rw [hK4] at k4; rw [hI4] at i4
  have HE : Hid ((s.wa 0 != 0) = B0 ∧ (s.wa 0 - 1) % 2 = K0 ∧ (s.wa 0 - 1) / 2 = I0 ∧ (s.wa 1 != 0) = B1 ∧ (s.wa 1 - 1) % 2 = K1 ∧ (s.wa 1 - 1) / 2 = I1 ∧ (s.wa 2 != 0) = B2 ∧ (s.wa 2 - 1) % 2 = K2 ∧ (s.wa 2 - 1) / 2 = I2 ∧ (s.wa 3 != 0) = B3 ∧ (s.wa 3 - 1) % 2 = K3 ∧ (s.wa 3 - 1) / 2 = I3 ∧ (s.wa 4 != 0) = B4 ∧ (s.wa 4 - 1) % 2 = K4 ∧ (s.wa 4 - 1) / 2 = I4) := ⟨hB0', hK0, hI0, hB1, hK1, hI1, hB2, hK2, hI2, hB3, hK3, hI3, hB4, hK4, hI4⟩
  have hmk0 := run_make_row' (P := Tryd.prog) 31 3 (.int .i64 0) 8 Tryd.underlying31 Tryd.info3 rfl .i64 .i64 5 (by omega) (by omega)
  rw [show ((5 : Nat) : Int) = 5 from rfl] at hmk0
  have hrow0 : RowAt 3 (w.alloc (.cells (madeCells #[.int .i64 0] 5) 3)) w.heap.size (M.wtK s 0) := by
    unfold RowAt
    rw [World.alloc_heap_new, made_arr]; rfl
  have hB0 : Below w.heap.size w (w.alloc (.cells (madeCells #[.int .i64 0] 5) 3)) := bel_al (Below.refl _ _) _
  have hidx : ∀ k, k < 5 → ∃ B K I, (∀ w', (Instr.index 59 (.agg #[.bool B0, .int .i64 (K0 : Nat), .int .i64 (I0 : Nat), .bool B1, .int .i64 (K1 : Nat), .int .i64 (I1 : Nat), .bool B2, .int .i64 (K2 : Nat), .int .i64 (I2 : Nat), .bool B3, .int .i64 (K3 : Nat), .int .i64 (I3 : Nat), .bool B4, .int .i64 (K4 : Nat), .int .i64 (I4 : Nat)]) (.int .i64 (k : Nat))).run Tryd.prog w' = .ok (.agg #[.bool B, .int .i64 (K : Nat), .int .i64 (I : Nat)]) w') ∧ (s.wa k != 0) = B ∧ (s.wa k - 1) % 2 = K ∧ (s.wa k - 1) / 2 = I := by
    intro k hk
    have e : k = 0 ∨ k = 1 ∨ k = 2 ∨ k = 3 ∨ k = 4 := by omega
    rcases e with rfl | rfl | rfl | rfl | rfl
    · exact ⟨B0, K0, I0, fun w' => by simp [Instr.index, run_underlying Tryd.underlying59, asIntOf, go_sem], hB0', hK0, hI0⟩
    · exact ⟨B1, K1, I1, fun w' => by simp [Instr.index, run_underlying Tryd.underlying59, asIntOf, go_sem], hB1, hK1, hI1⟩
    · exact ⟨B2, K2, I2, fun w' => by simp [Instr.index, run_underlying Tryd.underlying59, asIntOf, go_sem], hB2, hK2, hI2⟩
    · exact ⟨B3, K3, I3, fun w' => by simp [Instr.index, run_underlying Tryd.underlying59, asIntOf, go_sem], hB3, hK3, hI3⟩
    · exact ⟨B4, K4, I4, fun w' => by simp [Instr.index, run_underlying Tryd.underlying59, asIntOf, go_sem], hB4, hK4, hI4⟩
  have HX : Hid _ := hidx
  clear hidx hB0' hK0 hI0 hB1 hK1 hI1 hB2 hK2 hI2 hB3 hK3 hI3 hB4 hK4 hI4 h1 hG
  go_enter Tryd.func14, Tryd.ntmps14
  go_wp2_with fail
  go_loopw [11] (fun u wr => ∃ k : Nat, u = .int .i64 k ∧ k ≤ 5 ∧ Hid (RowAt 3 wr w.heap.size (M.wtK s k)) ∧ Below w.heap.size w wr) (fun u _ => 5 - (intOf u).toNat)
  case atStart => exact ⟨0, rfl, Nat.zero_le _, hrow0, hB0⟩
  case round =>
    clear hrow0 hB0 hmk0
    obtain ⟨k, rfl, hk, hrow, hB⟩ := hrel
    by_cases hlt : k < 5
    · have hki : (k : Int) < 5 := by omega
      obtain ⟨B, K, I, hx, e1, e2, e3⟩ := HX.out k hlt
      have HQ : Hid ((s.wa k != 0) = B ∧ (s.wa k - 1) % 2 = K ∧ (s.wa k - 1) / 2 = I) := ⟨e1, e2, e3⟩
      clear e1 e2 e3
      have hfr := hrow.out.frozen k
      have hcl := hrow.out.cell (k := k) (by rw [M.wtK_len]; omega)
      obtain ⟨y, hy⟩ : ∃ y, M.row (M.wtK s k) k = y := ⟨_, rfl⟩
      rw [hy] at hcl
      clear hy
      cases B with
      | false =>
        have HR : Hid (RowAt 3 wr w.heap.size (M.wtK s (k + 1))) := by show RowAt _ _ _ _; rw [M.wtK_skip hlt HQ.out.1]; exact hrow.out
        clear hrow hfr hcl
        go_wp2_with fail
        go_roundw
        case rel => exact ⟨k + 1, by go_num, by omega, HR.out.below (bel_al (Below.refl _ _) _) HR.out.lt, bel_al hB _⟩
        case measure => simp [intOf]; omega
      | true =>
        have hK : K ≤ 1 := by have := HQ.out.2.1; omega
        have hI : I < 4 := by have := HQ.out.2.2; have := HG.out.wb k; omega
        have hag := fun wx (hb : Below wr.heap.size wr wx) => against_ok K k I wx (HT.out.below (hB.trans (hb.mono hB.size))) HG.out.li.le hK hlt hI
        have hv : M.agS s k I K = M.cnt01 5 (M.wtB s k) := by rw [M.wt_some HQ.out.1, HQ.out.2.1, HQ.out.2.2]
        have HS := M.wtK_set hlt hv
        have hst : Hid (∀ wx, Below wr.heap.size wr wx → RowAt 3 (wx.setCell ⟨w.heap.size, k, none⟩ (.int .i64 (M.agS s k I K : Nat))) w.heap.size (M.wtK s (k + 1)) ∧ Below w.heap.size w (wx.setCell ⟨w.heap.size, k, none⟩ (.int .i64 (M.agS s k I K : Nat)))) := fun wx hb => by
          rw [← HS]
          exact ⟨(hrow.out.below hb hrow.out.lt).set k _, (hB.trans (hb.mono hB.size)).setCell (p := ⟨w.heap.size, k, none⟩) (Nat.le_refl _) _⟩
        obtain ⟨x, hx'⟩ : ∃ x, M.agS s k I K = x := ⟨_, rfl⟩
        rw [hx'] at hag hst
        have hlr := hrow.out.lt
        clear hx' HS hv hrow
        go_wp2_with fail
        refine (hag _ (bel_al (Below.refl _ _) _)).mono ?_
        rintro e w5 ⟨rfl, hB5⟩
        have hB6 : Below wr.heap.size wr w5 := (bel_al (Below.refl _ _) _).trans (hB5.mono (by simp))
        have F5 : Hid _ := hst.out w5 hB6
        have hc5 := (hB6.cell (p := ⟨w.heap.size, k, none⟩) hlr).trans hcl
        have hf5 := (hB6.frozen (p := ⟨w.heap.size, k, none⟩) hlr).trans hfr
        have hl5 : w.heap.size < w5.heap.size := by have := hB6.size; omega
        clear hB5 hag hst hcl hfr hB6
        go_wp2_with fail
        go_roundw
        case rel => exact ⟨k + 1, by go_num, by omega, F5.out⟩
        case measure => simp [intOf]; omega
    · obtain rfl : k = 5 := by omega
      have HR : Hid (RowAt 3 wr w.heap.size (M.wtR s) ∧ Below w.heap.size w wr) := ⟨by rw [← M.wtK_five]; exact hrow.out, hB⟩
      clear hrow hB
      go_wp2_with fail
      go_ret
      exact ⟨_, rfl, HR.out.1, Nat.le_refl _, HR.out.2⟩
end Go.Proofs.YtcjodlgkmbmcgaaDoor
