/- A deed at a table of locks (package lock, New, Do), and what was done (Acts). -/
import Derived.Test.YtcjodlgkmbmcgaaDoorLo4
import Derived.Lib.SliceRun
namespace Go.Proofs.YtcjodlgkmbmcgaaDoor
open Go.RowKit
namespace M
/-- what always holds of locks, and within which bounds -/
structure LG (s : Lk) : Prop where
  li : LI s
  wb : ∀ t, s.wa t ≤ 8
  len : s.ac.length ≤ 24
  acs : ∀ a, a ∈ s.ac → a.tx < 5 ∧ a.it < 4 ∧ a.wr < 2
theorem LG.zero : LG lk0 := ⟨LI.zero, fun _ => Nat.zero_le _, Nat.zero_le _, fun _ h => absurd h (List.not_mem_nil)⟩
theorem LG.step {s : Lk} (h : LG s) {k t o wr : Nat} (hk : k ≤ 3) (ht : t < 5) (ho : o < 4) (hw : k = 3 → wr < 2) : LG (lkDo s k t o wr).1 := by
  refine ⟨h.li.step k o wr ht, ?_, ?_, ?_⟩
  · unfold lkDo
    have u : ∀ n, n ≤ 8 → ∀ x, up1 s.wa t n x ≤ 8 := fun n hn x => by
      unfold up1
      split
      · exact hn
      · exact h.wb x
    split
    · split
      · exact h.wb
      · split
        · exact u _ (by omega)
        · exact u _ (by omega)
    · split
      · split <;> exact h.wb
      · split
        · exact h.wb
        · split <;> exact h.wb
  · unfold lkDo
    split
    · split
      · exact h.len
      · split <;> exact h.len
    · split
      · split <;> exact h.len
      · split
        · exact h.len
        · split
          · exact h.len
          · have := h.len
            simp only [List.length_append, List.length_cons, List.length_nil]; omega
  · unfold lkDo
    split
    · split
      · exact h.acs
      · split <;> exact h.acs
    · split
      · split <;> exact h.acs
      · split
        · exact h.acs
        · split
          · exact h.acs
          · intro a ha
            rcases List.mem_append.1 ha with e | e
            · exact h.acs a e
            · rw [List.mem_singleton] at e
              subst e
              exact ⟨ht, ho, hw (by omega)⟩
theorem LG.aok {s : Lk} (h : LG s) : AOk s.ac := aok_of h.len h.acs
end M
/-- a deed of whole numbers: the locks behind it, and what is wrong -/
def lkZ (s : M.Lk) (k t o x : Int) : M.Lk × Nat := if dIn k t o x = true then M.lkDo s k.toNat t.toNat o.toNat x.toNat else (s, 1)
theorem dIn_true {k t o x : Int} (h : dIn k t o x = true) : (0 ≤ k ∧ k ≤ 3) ∧ (0 ≤ t ∧ t < 5) ∧ (0 ≤ o ∧ o < 4) ∧ (k = 3 → 0 ≤ x ∧ x < 2) := by
  unfold dIn thingZ at h
  simp only [Bool.and_eq_true, Bool.or_eq_true, decide_eq_true_eq] at h
  obtain ⟨⟨⟨h1, h2⟩, h3⟩, h4⟩ := h
  refine ⟨h1, by omega, by omega, fun e => ?_⟩
  rcases h4 with h | h
  · exact absurd e h
  · omega
theorem M.LG.z {s : M.Lk} (h : M.LG s) (k t o x : Int) : M.LG (lkZ s k t o x).1 := by
  unfold lkZ
  by_cases e : dIn k t o x = true
  · rw [if_pos e]
    have := dIn_true e
    exact h.step (by omega) (by omega) (by omega) (fun e => by omega)
  · rw [if_neg e]; exact h
/-! ### deeds in memory -/
structure Dz where
  k : Int
  t : Int
  i : Int
  x : Int
def dAt (zs : List Dz) (j : Nat) : Dz := zs[j]?.getD ⟨0, 0, 0, 0⟩
structure DeAt (o : Dz) (b k : Nat) (w : World) : Prop where
  lt : b < w.heap.size
  c0 : w.cell? ⟨b, k, none⟩ = some (.int .i64 o.k)
  c1 : w.cell? ⟨b, k + 1, none⟩ = some (.int .i64 o.t)
  c2 : w.cell? ⟨b, k + 2, none⟩ = some (.int .i64 o.i)
  c3 : w.cell? ⟨b, k + 3, none⟩ = some (.int .i64 o.x)
theorem DeAt.later {o : Dz} {b k N : Nat} {w w' : World} (h : DeAt o b k w) (hb : Below N w w') (hN : b < N) : DeAt o b k w' :=
  ⟨by have := hb.size; have := h.lt; omega, (hb.cell (p := ⟨b, k, none⟩) hN).trans h.c0, (hb.cell (p := ⟨b, k + 1, none⟩) hN).trans h.c1, (hb.cell (p := ⟨b, k + 2, none⟩) hN).trans h.c2, (hb.cell (p := ⟨b, k + 3, none⟩) hN).trans h.c3⟩
/-- The slice's address p leads to the deeds zs. -/
def HasD (zs : List Dz) (p : Option Addr) (w : World) : Prop := ∀ j, j < zs.length → ∃ b off, p = some ⟨b, off, none⟩ ∧ DeAt (dAt zs j) b (off + j * 4) w
theorem HasD.later {zs : List Dz} {p : Option Addr} {w w' : World} (h : HasD zs p w) (hb : Below w.heap.size w w') : HasD zs p w' := fun j hj => by
  obtain ⟨b, off, h1, h2⟩ := h j hj
  exact ⟨b, off, h1, h2.later hb h2.lt⟩
theorem deAt_new (w : World) (o : Dz) : DeAt o w.heap.size 0 (w.alloc (.cells #[.int .i64 o.k, .int .i64 o.t, .int .i64 o.i, .int .i64 o.x] 30)) :=
  ⟨by simp, by rw [cell_of_row _ _ _ _ _ _ (World.alloc_heap_new w _)]; rfl, by rw [cell_of_row _ _ _ _ _ _ (World.alloc_heap_new w _)]; rfl, by rw [cell_of_row _ _ _ _ _ _ (World.alloc_heap_new w _)]; rfl, by rw [cell_of_row _ _ _ _ _ _ (World.alloc_heap_new w _)]; rfl⟩
/-! ### the parts of a deed -/
theorem flock_ok {O : Nat → Prop} {S : Nat} {s : M.Lk} (k t o x : Nat) (w : World) (h : TV O S s w) (hG : M.LG s) (hk : k ≤ 1) (ht : t < 5) (ho : o < 4) :
    Calls Tryd.prog 27 #[.pointer (some ⟨S, 0, none⟩), .int .i64 (k : Nat), .int .i64 (t : Nat), .int .i64 (o : Nat)] w fun e w' => e = .returned (terr (M.lkDo s k t o x).2) ∧ TV O S (M.lkDo s k t o x).1 w' ∧ Frm O w w' := by
  by_cases f : t ∈ s.fo
  · rw [M.lk_state hk f]; exact lock_state k t o w h ht f
  · by_cases a : M.agS s t o k = 0
    · rw [M.lk_got hk f a]; exact lock_got k t o w h hG.li.le hk ht ho f a
    · rw [M.lk_wait hk f a]; exact lock_wait k t o w h hG.li.le hk ht ho f a
theorem ffree_ok {O : Nat → Prop} {S : Nat} {s : M.Lk} (t o x : Nat) (w : World) (h : TV O S s w) (hG : M.LG s) (ht : t < 5) (ho : o < 4) :
    Calls Tryd.prog 25 #[.pointer (some ⟨S, 0, none⟩), .int .i64 (t : Nat), .int .i64 (o : Nat)] w fun e w' => e = .returned (terr (M.lkDo s 2 t o x).2) ∧ TV O S (M.lkDo s 2 t o x).1 w' ∧ Frm O w w' := by
  by_cases a : s.hd t o = 0
  · rw [M.lk_nofree a]; exact free_none t o w h hG.li.le ht ho a
  · rw [M.lk_free a]; exact free_ok t o w h hG.li.le ht ho a
theorem lact_ok {O : Nat → Prop} {S : Nat} {s : M.Lk} (t o x : Nat) (w : World) (h : TV O S s w) (hO : ∀ k, w.heap.size ≤ k → O k) (hG : M.LG s) (ht : t < 5) (ho : o < 4) (hx : x < 2) :
    Calls Tryd.prog 26 #[.pointer (some ⟨S, 0, none⟩), .agg #[.int .i64 (t : Nat), .int .i64 (o : Nat), .int .i64 (x : Nat)]] w fun e w' => e = .returned (terr (M.lkDo s 3 t o x).2) ∧ TV O S (M.lkDo s 3 t o x).1 w' ∧ Frm O w w' := by
  have hx' : x = 0 ∨ x = 1 := by omega
  rcases hx' with rfl | rfl
  · by_cases a : s.hd t o = 0
    · rw [M.lk_none (.inl a)]; exact act_none0 t o w h hG.li.le ht ho a
    · have a' : ¬ (s.hd t o = 0 ∨ (s.hd t o = 1 ∧ 0 = 1)) := by omega
      by_cases l : 24 ≤ s.ac.length
      · rw [M.lk_full a' l]; exact act_full0 t o w h hG.li.le ht ho a l
      · rw [M.lk_act a' l]; exact act_ok0 t o w h hG.li.le ht ho a (by omega) hO
  · by_cases a : 2 ≤ s.hd t o
    · have a' : ¬ (s.hd t o = 0 ∨ (s.hd t o = 1 ∧ 1 = 1)) := by omega
      by_cases l : 24 ≤ s.ac.length
      · rw [M.lk_full a' l]; exact act_full1 t o w h ht ho a l
      · rw [M.lk_act a' l]; exact act_ok1 t o w h ht ho a (by omega) hO
    · rw [M.lk_none (by omega)]; exact act_none1 t o w h ht ho a
set_option maxHeartbeats 2000000 in
theorem ldo_ok {O : Nat → Prop} {S : Nat} {s : M.Lk} (k t o x : Int) (w : World) (h : TV O S s w) (hO : ∀ k, w.heap.size ≤ k → O k) (hG : M.LG s) :
    Calls Tryd.prog 9 #[.pointer (some ⟨S, 0, none⟩), dV k t o x] w fun e w' => e = .returned (terr (lkZ s k t o x).2) ∧ TV O S (lkZ s k t o x).1 w' ∧ Frm O w w' := by
  have HT : Hid (TV O S s w) := h
  have HO : Hid (∀ k, w.heap.size ≤ k → O k) := hO
  have HG : Hid (M.LG s) := hG
  have hd := fun w' => isDeed_ok k t o x w'
  have l1 := h.lt
  clear h hO hG
  cases e : dIn k t o x with
  | false =>
    have e1 : lkZ s k t o x = (s, 1) := by unfold lkZ; rw [e]; rfl
    rw [e1]
    show Calls _ _ _ _ fun e w' => e = .returned (terr 1) ∧ TV O S s w' ∧ _
    rw [terr_ne (by decide)]
    rw [e] at hd
    clear e e1
    go_enter Tryd.func9, Tryd.ntmps9
    go_wp2_with fail
    refine (hd _).mono ?_
    rintro e w1 ⟨rfl, hB1⟩
    have BB : Hid (Below w.heap.size w w1) := (bel_al (Below.refl _ _) _).trans (hB1.mono (by simp))
    clear hB1 hd
    go_wp2_with fail
    go_ret
    exact ⟨rfl, HT.out.below BB.out, Frm.of_below BB.out⟩
  | true =>
    obtain ⟨⟨k0, k3⟩, ⟨t0, t5⟩, ⟨o0, o4⟩, hx⟩ := dIn_true e
    have e1 : Hid (lkZ s k t o x = M.lkDo s k.toNat t.toNat o.toNat x.toNat) := by show _ = _; unfold lkZ; rw [if_pos e]
    rw [e] at hd
    clear e
    obtain ⟨t, rfl⟩ : ∃ n : Nat, t = n := ⟨t.toNat, by omega⟩
    obtain ⟨o, rfl⟩ : ∃ n : Nat, o = n := ⟨o.toNat, by omega⟩
    have ht : t < 5 := by omega
    have ho : o < 4 := by omega
    obtain ⟨w0, hw0⟩ : ∃ w0, w.alloc (.cells #[.int .i64 k, .int .i64 (t : Nat), .int .i64 (o : Nat), .int .i64 x] 30) = w0 := ⟨_, rfl⟩
    have B0 : Below w.heap.size w w0 := by rw [← hw0]; exact bel_al (Below.refl _ _) _
    have D0 : DeAt ⟨k, (t : Nat), (o : Nat), x⟩ w.heap.size 0 w0 := by rw [← hw0]; exact deAt_new w ⟨k, (t : Nat), (o : Nat), x⟩
    have q0 := D0.c0
    have q1 : w0.cell? ⟨w.heap.size, 1, none⟩ = some (.int .i64 (t : Nat)) := D0.c1
    have q2 : w0.cell? ⟨w.heap.size, 2, none⟩ = some (.int .i64 (o : Nat)) := D0.c2
    have q3 : w0.cell? ⟨w.heap.size, 3, none⟩ = some (.int .i64 x) := D0.c3
    simp only at q0
    have L0 := D0.lt
    have K0 : Hid (DeAt ⟨k, (t : Nat), (o : Nat), x⟩ w.heap.size 0 w0 ∧ Below w.heap.size w w0) := ⟨D0, B0⟩
    clear D0 B0
    have main : ∀ w1, Below w0.heap.size w0 w1 → Hid (TV O S s w1 ∧ (∀ k, w1.heap.size ≤ k → O k) ∧ Frm O w w1) ∧ DeAt ⟨k, (t : Nat), (o : Nat), x⟩ w.heap.size 0 w1 := fun w1 hb => by
      have bb := K0.out.2.trans (hb.mono K0.out.2.size)
      exact ⟨⟨HT.out.below bb, fun k hk => HO.out k (Nat.le_trans bb.size hk), Frm.of_below bb⟩, K0.out.1.later hb K0.out.1.lt⟩
    by_cases h2 : k = 2
    · subst h2
      rw [e1.out]
      have hc := fun w1 (h : TV O S s w1) => ffree_ok t o x.toNat w1 h HG.out ht ho
      rw [show (2 : Int).toNat = 2 from rfl, Int.toNat_natCast, Int.toNat_natCast]
      obtain ⟨r, hr⟩ : ∃ r, M.lkDo s 2 t o x.toNat = r := ⟨_, rfl⟩
      rw [hr] at hc ⊢
      clear hr e1 hx HG t0 t5 o0 o4 k0 k3
      go_enter Tryd.func9, Tryd.ntmps9
      go_wp2_with fail
      refine (hd _).mono ?_
      rintro e w1 ⟨rfl, hB1⟩
      obtain ⟨M1, D1⟩ := main w1 hB1
      have d0 := D1.c0
      have d1 : w1.cell? ⟨w.heap.size, 1, none⟩ = some (.int .i64 (t : Nat)) := D1.c1
      have d2 : w1.cell? ⟨w.heap.size, 2, none⟩ = some (.int .i64 (o : Nat)) := D1.c2
      simp only at d0
      have dl := D1.lt
      clear D1 hB1 main hd q0 q1 q2 q3 L0 K0 hw0
      go_wp2_with fail
      refine (hc w1 M1.out.1).mono ?_
      rintro e w2 ⟨rfl, h2, h3⟩
      have F2 : Hid (TV O S r.1 w2 ∧ Frm O w w2) := ⟨h2, M1.out.2.2.trans h3⟩
      clear h2 h3
      go_wp2_with fail
      go_ret
      exact ⟨rfl, F2.out⟩
    by_cases h3 : k = 3
    · subst h3
      rw [e1.out]
      obtain ⟨x, rfl⟩ : ∃ n : Nat, x = n := ⟨x.toNat, by have := hx rfl; omega⟩
      have hx2 : x < 2 := by have := hx rfl; omega
      have hc := fun w1 (h : TV O S s w1) (hO : ∀ k, w1.heap.size ≤ k → O k) => lact_ok t o x w1 h hO HG.out ht ho hx2
      rw [show (3 : Int).toNat = 3 from rfl, Int.toNat_natCast, Int.toNat_natCast, Int.toNat_natCast]
      obtain ⟨r, hr⟩ : ∃ r, M.lkDo s 3 t o x = r := ⟨_, rfl⟩
      rw [hr] at hc ⊢
      clear hr e1 hx HG t0 t5 o0 o4 k0 k3 h2
      go_enter Tryd.func9, Tryd.ntmps9
      go_wp2_with fail
      refine (hd _).mono ?_
      rintro e w1 ⟨rfl, hB1⟩
      obtain ⟨M1, D1⟩ := main w1 hB1
      have d0 := D1.c0
      have d1 : w1.cell? ⟨w.heap.size, 1, none⟩ = some (.int .i64 (t : Nat)) := D1.c1
      have d2 : w1.cell? ⟨w.heap.size, 2, none⟩ = some (.int .i64 (o : Nat)) := D1.c2
      have d3 : w1.cell? ⟨w.heap.size, 3, none⟩ = some (.int .i64 (x : Nat)) := D1.c3
      simp only at d0
      have dl := D1.lt
      clear D1 hB1 main hd q0 q1 q2 q3 L0 K0 hw0
      go_wp2_with fail
      refine (hc w1 M1.out.1 M1.out.2.1).mono ?_
      rintro e w2 ⟨rfl, h2, h3⟩
      have F2 : Hid (TV O S r.1 w2 ∧ Frm O w w2) := ⟨h2, M1.out.2.2.trans h3⟩
      clear h2 h3
      go_wp2_with fail
      go_ret
      exact ⟨rfl, F2.out⟩
    · rw [e1.out]
      obtain ⟨k, rfl⟩ : ∃ n : Nat, k = n := ⟨k.toNat, by omega⟩
      have hk : k ≤ 1 := by omega
      have hk2 : ((k : Int) == 2) = false := by simp; omega
      have hk3 : ((k : Int) == 3) = false := by simp; omega
      have hc := fun w1 (h : TV O S s w1) => flock_ok k t o x.toNat w1 h HG.out hk ht ho
      rw [Int.toNat_natCast, Int.toNat_natCast, Int.toNat_natCast]
      obtain ⟨r, hr⟩ : ∃ r, M.lkDo s k t o x.toNat = r := ⟨_, rfl⟩
      rw [hr] at hc ⊢
      clear hr e1 hx HG t0 t5 o0 o4 k0 k3 h2 h3
      go_enter Tryd.func9, Tryd.ntmps9
      go_wp2_with fail
      refine (hd _).mono ?_
      rintro e w1 ⟨rfl, hB1⟩
      obtain ⟨M1, D1⟩ := main w1 hB1
      have d0 := D1.c0
      have d1 : w1.cell? ⟨w.heap.size, 1, none⟩ = some (.int .i64 (t : Nat)) := D1.c1
      have d2 : w1.cell? ⟨w.heap.size, 2, none⟩ = some (.int .i64 (o : Nat)) := D1.c2
      simp only at d0
      have dl := D1.lt
      clear D1 hB1 main hd q0 q1 q2 q3 L0 K0 hw0
      go_wp2_with fail
      refine (hc w1 M1.out.1).mono ?_
      rintro e w2 ⟨rfl, h2, h3⟩
      have F2 : Hid (TV O S r.1 w2 ∧ Frm O w w2) := ⟨h2, M1.out.2.2.trans h3⟩
      clear h2 h3
      go_wp2_with fail
      go_ret
      exact ⟨rfl, F2.out⟩
end Go.Proofs.YtcjodlgkmbmcgaaDoor
