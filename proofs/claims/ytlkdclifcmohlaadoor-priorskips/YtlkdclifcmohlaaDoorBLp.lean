/- A new table of locks, what was done, who waits for whom (package lock, New, Acts, Waits; package slices, Clone, at acts). -/
import Derived.Test.YtlkdclifcmohlaaDoorBLo
namespace Go.Proofs.YtlkdclifcmohlaaDoor
open Go.RowKit
theorem tv_new (w : World) : TVr (w.alloc (.cells #[.int .i64 0, .int .i64 0, .int .i64 0, .int .i64 0, .int .i64 0, .int .i64 0, .int .i64 0, .int .i64 0, .bool false, .int .i64 0, .int .i64 0, .bool false, .int .i64 0, .int .i64 0, .bool false, .int .i64 0, .int .i64 0, .bool false, .int .i64 0, .int .i64 0, .bool false, .int .i64 0, .int .i64 0, .int .i64 0, .slice none 0 0] 76)) w.heap.size M.lk0 (.slice none 0 0) := by
  refine ⟨?_, World.ownsRow_nil _ _ _ _⟩
  refine World.rowIs_alloc w #[.int .i64 0, .int .i64 0, .int .i64 0, .int .i64 0, .int .i64 0, .int .i64 0, .int .i64 0, .int .i64 0, .bool false, .int .i64 0, .int .i64 0, .bool false, .int .i64 0, .int .i64 0, .bool false, .int .i64 0, .int .i64 0, .bool false, .int .i64 0, .int .i64 0, .bool false, .int .i64 0, .int .i64 0, .int .i64 0, .slice none 0 0] _ _ (fun i hi => ?_)
  have hi' : i < 25 := hi
  have h : ∀ j, j < 25 → (#[Value.int .i64 0, .int .i64 0, .int .i64 0, .int .i64 0, .int .i64 0, .int .i64 0, .int .i64 0, .int .i64 0, .bool false, .int .i64 0, .int .i64 0, .bool false, .int .i64 0, .int .i64 0, .bool false, .int .i64 0, .int .i64 0, .bool false, .int .i64 0, .int .i64 0, .bool false, .int .i64 0, .int .i64 0, .int .i64 0, .slice none 0 0] : Array Value)[j]? = some (tbF M.lk0 (.slice none 0 0) j) := by
    intro j hj
    have e : j = 0 ∨ j = 1 ∨ j = 2 ∨ j = 3 ∨ j = 4 ∨ j = 5 ∨ j = 6 ∨ j = 7 ∨ j = 8 ∨ j = 9 ∨ j = 10 ∨ j = 11 ∨ j = 12 ∨ j = 13 ∨ j = 14 ∨ j = 15 ∨ j = 16 ∨ j = 17 ∨ j = 18 ∨ j = 19 ∨ j = 20 ∨ j = 21 ∨ j = 22 ∨ j = 23 ∨ j = 24 := by omega
    rcases e with rfl | rfl | rfl | rfl | rfl | rfl | rfl | rfl | rfl | rfl | rfl | rfl | rfl | rfl | rfl | rfl | rfl | rfl | rfl | rfl | rfl | rfl | rfl | rfl | rfl <;> rfl
  exact h i hi'
set_option maxRecDepth 100000 in
set_option maxHeartbeats 2000000 in
theorem lnew_ok {O : Nat → Prop} (w : World) (hO : O w.heap.size) : Calls Tryd.prog 18 #[] w fun e w' => ∃ S, S = w.heap.size ∧ e = .returned (.pointer (some ⟨S, 0, none⟩)) ∧ TV O S M.lk0 w' ∧ Below w.heap.size w w' := by
  go_enter Tryd.func18, Tryd.ntmps18
  go_wp2_with fail
  go_ret
  exact ⟨_, rfl, rfl, ⟨_, tv_new w, hO, fun g h => by simp [Value.ownBlock] at h⟩, bel_al (Below.refl _ _) _⟩
set_option maxRecDepth 100000 in
set_option maxHeartbeats 2000000 in
theorem aclone_ok (s : List M.SAct) (ad : Option Addr) (n cap : Nat) (w : World) (hl : s.length = n) (hn : n ≤ 24) (hc : HasAc (az s) ad w) (hb : ∀ b off, ad = some ⟨b, off, none⟩ → b < w.heap.size) (hsp : ∀ a, ad = some a → a.spot = none) (hnil : ad = none → n = 0 ∧ cap = 0) :
    Calls Tryd.prog 24 #[.slice ad n cap] w fun e w' => ∃ p c, e = .returned (.slice p n c) ∧ n ≤ c ∧ HasAc (az s) p w' ∧ Below w.heap.size w w' := by
  cases ad with
  | none =>
    obtain ⟨rfl, rfl⟩ := hnil rfl
    have hq : ∀ w' : World, (binOp .eql 22 (.slice none 0 0) (.slice none 0 0)).run Tryd.prog w' = .ok (.bool true) w' := fun w' => Lib.run_eql_slice_nil w' _ _ none 0 0 0 0 Tryd.underlying22
    have HC : Hid (HasAc (az s) none w) := hc
    clear hc hb hsp hnil
    go_enter Tryd.func24, Tryd.ntmps24
    go_wp2_with fail
    go_ret
    exact ⟨_, _, rfl, Nat.le_refl _, HC.out, Below.refl _ _⟩
  | some a =>
    obtain ⟨b, off, sp⟩ := a
    obtain rfl : sp = none := hsp _ rfl
    have hbl := hb b off rfl
    obtain ⟨i0, hi0, hz0, hz1, hz2⟩ := infoAct_parts infoAct
    have hq : ∀ w' : World, (binOp .eql 22 (.slice (some ⟨b, off, none⟩) n cap) (.slice none 0 0)).run Tryd.prog w' = .ok (.bool false) w' := fun w' => Lib.run_eql_slice_nil w' _ _ (some ⟨b, off, none⟩) n cap 0 0 Tryd.underlying22
    have A : Hid (∀ j u, (acells s)[j]? = some u → w.cell? ((⟨b, off, none⟩ : Addr).add j) = some u) := hasAc_cells hc
    have HL : Hid (s.length = n) := hl
    clear hc hb hsp hnil hl
    go_enter Tryd.func24, Tryd.ntmps24
    go_wp2_with (at_builtin; refine wpList_append_own _ rfl _ _ 22 rfl w.heap.size 31 i0 (.agg #[.int .i64 0, .int .i64 0, .int .i64 0]) 3 24 Tryd.underlying22 hi0 hz0 hz1 hz2 rfl (by decide) _ _ _ rfl (World.ownsRow_made w #[] 0 (Nat.le_refl _) (Nat.zero_le _) rfl) ⟨b, off, none⟩ n cap (acells s) rfl ?c1 ?c2 ?c3 ?c4 ?c5 ?c6 ?_)
    case c1 => rw [acells_len, HL.out]
    case c2 =>
      intro j u hj
      have h1 := A.out j u hj
      rw [addr_add] at h1 ⊢
      exact ((bel_al (Below.refl _ w) _).cell (p := ⟨b, off + j, none⟩) hbl).trans h1
    case c3 => exact acells_one s
    case c4 => unfold maxLen; omega
    case c5 => omega
    case c6 => simp
    intro v' w1 hown hgrow _
    obtain ⟨q', c', rfl, hcc⟩ := owns_capA hown
    have FB : Hid (Below w.heap.size w w1) := (bel_al (Below.refl _ w) _).grown hgrow (by simp) (by intro k hk; simp [Value.ownBlock] at hk; omega)
    have FA : Hid (HasAc (az s) q' w1 ∧ n ≤ c') := ⟨hasAc_of_owns HL.out hown, hcc⟩
    clear hown hgrow A
    go_wp2_with fail
    go_ret
    exact ⟨q', c', rfl, FA.out.2, FA.out.1, FB.out⟩
set_option maxRecDepth 100000 in
set_option maxHeartbeats 2000000 in
theorem lacts_ok {O : Nat → Prop} {S : Nat} {s : M.Lk} (w : World) (h : TV O S s w) (hG : M.LG s) :
    Calls Tryd.prog 20 #[.pointer (some ⟨S, 0, none⟩)] w fun e w' => ∃ p c, e = .returned (.slice p s.ac.length c) ∧ s.ac.length ≤ c ∧ HasAc (az s.ac) p w' ∧ Below w.heap.size w w' := by
  obtain ⟨v, h1, _⟩ := h
  have ca := h1.acts
  have hown := h1.act
  obtain ⟨ad, c0, rfl, hcc⟩ := owns_capA hown
  have hcl := aclone_ok s.ac ad s.ac.length c0 w rfl hG.len (hasAc_of_owns rfl hown) (fun b off e => (hown.lt b (by rw [e]; rfl)).2) (fun a e => by
    subst e
    rcases hown.2 with ⟨e, _⟩ | ⟨g, cap, cur, e, _⟩
    · cases e
    · cases e; rfl) (fun e => by
    subst e
    rcases hown.2 with ⟨e, h0⟩ | ⟨g, cap, cur, e, _⟩
    · simp only [Value.slice.injEq] at e; omega
    · cases e)
  have lS := h1.lt
  obtain ⟨L, hL⟩ : ∃ L, s.ac.length = L := ⟨_, rfl⟩
  rw [hL] at hcl ca ⊢
  clear h1 hown hG hcc hL
  go_enter Tryd.func20, Tryd.ntmps20
  go_wp2_with fail
  refine hcl.mono ?_
  rintro e w1 ⟨p, c, rfl, h1, h2, h3⟩
  have F : Hid (L ≤ c ∧ HasAc (az s.ac) p w1 ∧ Below w.heap.size w w1) := ⟨h1, h2, h3⟩
  clear h1 h2 h3 hcl
  go_wp2_with fail
  go_ret
  exact ⟨p, c, rfl, F.out⟩
end Go.Proofs.YtlkdclifcmohlaaDoor
