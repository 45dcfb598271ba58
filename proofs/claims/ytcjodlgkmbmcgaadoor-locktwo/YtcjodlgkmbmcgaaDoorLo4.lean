/- A transaction reads or writes an item (package lock, act); written by mk_lo4.py. -/
import Derived.Test.YtcjodlgkmbmcgaaDoorLo3
namespace Go.Proofs.YtcjodlgkmbmcgaaDoor
open Go.RowKit
set_option maxRecDepth 100000 in
set_option maxHeartbeats 4000000 in
theorem act_none0 {O : Nat → Prop} {S : Nat} {s : M.Lk} (t o : Nat) (w : World) (h : TV O S s w) (hle : ∀ x y, s.hd x y ≤ 3) (ht : t < 5) (ho : o < 4) (h0 : s.hd t o = 0) :
    Calls Tryd.prog 26 #[.pointer (some ⟨S, 0, none⟩), .agg #[.int .i64 (t : Nat), .int .i64 (o : Nat), .int .i64 0]] w fun e w' => e = .returned (terr 5) ∧ TV O S s w' ∧ Frm O w w' := by
  have HT : Hid (TV O S s w) := h
  obtain ⟨v, h1, _⟩ := h
  have g0 := h1.sh ho
  have g1 := h1.ow ho
  have l1 := h1.lt
  have hlt : M.owS s o ||| M.shS s o < 65536 := by
    have h2 := M.shS_lt s o
    have h3 := M.owS_lt s o
    have h4 : M.owS s o ||| M.shS s o < 32 := Nat.or_lt_two_pow (n := 5) h3 h2
    omega
  have hh := fun w' => has_any (M.owS s o ||| M.shS s o) t w' (by
    have h2 := M.shS_lt s o
    have h3 := M.owS_lt s o
    have h4 : M.owS s o ||| M.shS s o < 32 := Nat.or_lt_two_pow (n := 5) h3 h2
    omega) (by omega)
  rw [M.any_has' ht (hle t o), decide_eq_false (by simpa using h0)] at hh
  have hor := i64_or_nat (M.owS s o) (M.shS s o) (by have := M.owS_lt s o; omega) (by have := M.shS_lt s o; omega)
  obtain ⟨x3, hx3⟩ : ∃ x : Nat, M.owS s o ||| M.shS s o = x := ⟨_, rfl⟩
  rw [hx3] at hor hh
  rw [terr_ne (by decide)]
  obtain ⟨x1, hx1⟩ : ∃ x : Nat, M.shS s o = x := ⟨_, rfl⟩
  obtain ⟨x2, hx2⟩ : ∃ x : Nat, M.owS s o = x := ⟨_, rfl⟩
  rw [hx1] at g0 hor
  rw [hx2] at g1 hor
  have hoi : (o : Int) < 4 := by omega
  clear h1 hx1 hx2 h0 hle hlt hx3
  go_enter Tryd.func26, Tryd.ntmps26
  go_wp2_with fail
  go_region
  go_wp2_with fail
  refine (hh _).mono ?_
  rintro e w' ⟨rfl, rfl⟩
  go_wp2_with fail
  go_ret
  exact ⟨rfl, HT.out.below ((bel_al (bel_al (Below.refl _ _) _) _).drew), Frm.of_below ((bel_al (bel_al (Below.refl _ _) _) _).drew)⟩
set_option maxRecDepth 100000 in
set_option maxHeartbeats 4000000 in
theorem act_none1 {O : Nat → Prop} {S : Nat} {s : M.Lk} (t o : Nat) (w : World) (h : TV O S s w) (ht : t < 5) (ho : o < 4) (h0 : ¬ 2 ≤ s.hd t o) :
    Calls Tryd.prog 26 #[.pointer (some ⟨S, 0, none⟩), .agg #[.int .i64 (t : Nat), .int .i64 (o : Nat), .int .i64 1]] w fun e w' => e = .returned (terr 5) ∧ TV O S s w' ∧ Frm O w w' := by
  have HT : Hid (TV O S s w) := h
  obtain ⟨v, h1, _⟩ := h
  have g0 := h1.sh ho
  have g1 := h1.ow ho
  have l1 := h1.lt
  have hlt : M.owS s o < 65536 := by
    have h2 := M.shS_lt s o
    have h3 := M.owS_lt s o
    have h4 : M.owS s o ||| M.shS s o < 32 := Nat.or_lt_two_pow (n := 5) h3 h2
    omega
  have hh := fun w' => has_any (M.owS s o) t w' (by
    have h2 := M.shS_lt s o
    have h3 := M.owS_lt s o
    have h4 : M.owS s o ||| M.shS s o < 32 := Nat.or_lt_two_pow (n := 5) h3 h2
    omega) (by omega)
  rw [M.ow_has s o ht, decide_eq_false h0] at hh
  rw [terr_ne (by decide)]
  obtain ⟨x1, hx1⟩ : ∃ x : Nat, M.shS s o = x := ⟨_, rfl⟩
  obtain ⟨x2, hx2⟩ : ∃ x : Nat, M.owS s o = x := ⟨_, rfl⟩
  rw [hx1] at g0
  rw [hx2] at g1 hh
  have hoi : (o : Int) < 4 := by omega
  clear h1 hx1 hx2 h0 hlt
  go_enter Tryd.func26, Tryd.ntmps26
  go_wp2_with fail
  go_region
  go_wp2_with fail
  refine (hh _).mono ?_
  rintro e w' ⟨rfl, rfl⟩
  go_wp2_with fail
  go_ret
  exact ⟨rfl, HT.out.below ((bel_al (bel_al (Below.refl _ _) _) _).drew), Frm.of_below ((bel_al (bel_al (Below.refl _ _) _) _).drew)⟩
set_option maxRecDepth 100000 in
set_option maxHeartbeats 4000000 in
theorem act_full0 {O : Nat → Prop} {S : Nat} {s : M.Lk} (t o : Nat) (w : World) (h : TV O S s w) (hle : ∀ x y, s.hd x y ≤ 3) (ht : t < 5) (ho : o < 4) (h0 : s.hd t o ≠ 0) (hL : 24 ≤ s.ac.length) :
    Calls Tryd.prog 26 #[.pointer (some ⟨S, 0, none⟩), .agg #[.int .i64 (t : Nat), .int .i64 (o : Nat), .int .i64 0]] w fun e w' => e = .returned (terr 4) ∧ TV O S s w' ∧ Frm O w w' := by
  have HT : Hid (TV O S s w) := h
  obtain ⟨v, h1, _⟩ := h
  have g0 := h1.sh ho
  have g1 := h1.ow ho
  have l1 := h1.lt
  have hlt : M.owS s o ||| M.shS s o < 65536 := by
    have h2 := M.shS_lt s o
    have h3 := M.owS_lt s o
    have h4 : M.owS s o ||| M.shS s o < 32 := Nat.or_lt_two_pow (n := 5) h3 h2
    omega
  have hh := fun w' => has_any (M.owS s o ||| M.shS s o) t w' (by
    have h2 := M.shS_lt s o
    have h3 := M.owS_lt s o
    have h4 : M.owS s o ||| M.shS s o < 32 := Nat.or_lt_two_pow (n := 5) h3 h2
    omega) (by omega)
  rw [M.any_has' ht (hle t o), decide_eq_true (by simpa using h0)] at hh
  have hor := i64_or_nat (M.owS s o) (M.shS s o) (by have := M.owS_lt s o; omega) (by have := M.shS_lt s o; omega)
  obtain ⟨x3, hx3⟩ : ∃ x : Nat, M.owS s o ||| M.shS s o = x := ⟨_, rfl⟩
  rw [hx3] at hor hh
  rw [terr_ne (by decide)]
  obtain ⟨x1, hx1⟩ : ∃ x : Nat, M.shS s o = x := ⟨_, rfl⟩
  obtain ⟨x2, hx2⟩ : ∃ x : Nat, M.owS s o = x := ⟨_, rfl⟩
  rw [hx1] at g0 hor
  rw [hx2] at g1 hor
  have hoi : (o : Int) < 4 := by omega
  clear h1 hx1 hx2 h0 hle hlt hx3
  go_enter Tryd.func26, Tryd.ntmps26
  go_wp2_with fail
  go_region
  go_wp2_with fail
  refine (hh _).mono ?_
  rintro e w' ⟨rfl, rfl⟩
  obtain ⟨w2, hw2⟩ : ∃ w2, ((w.alloc (.cells #[.int .i64 (t : Nat), .int .i64 (o : Nat), .int .i64 0] 38)).alloc (.cells #[.int .i64 (x1 : Nat), .int .i64 (x2 : Nat)] 55)).drew = w2 := ⟨_, rfl⟩
  have BB : Below w.heap.size w w2 := by rw [← hw2]; exact ((bel_al (bel_al (Below.refl _ _) _) _).drew)
  have T2 := HT.out.below BB
  have ba : AcAt ⟨(t : Nat), (o : Nat), 0⟩ w.heap.size 0 w2 := by rw [← hw2]; exact ((acAt_new w ⟨(t : Nat), (o : Nat), 0⟩).al _).drew
  have b0 : w2.cell? ⟨w.heap.size, 0, none⟩ = some (.int .i64 (t : Nat)) := ba.c0
  have b1 : w2.cell? ⟨w.heap.size, 1, none⟩ = some (.int .i64 (o : Nat)) := ba.c1
  have b2 : w2.cell? ⟨w.heap.size, 2, none⟩ = some (.int .i64 0) := ba.c2
  have lA := ba.lt
  clear ba
  rw [hw2]
  have FT : Hid (TV O S s w2) := T2
  have FB : Hid (Below w.heap.size w w2) := BB
  obtain ⟨v, R, hOS, hOv⟩ := T2
  have hown := R.act
  have ca := R.acts
  have lS := R.lt
  have hbS := R.blk
  have fz := R.blk.frozen 24
  have hne := R.neS
  obtain ⟨ad, c0, rfl⟩ := owns_slice hown
  obtain ⟨L, hLL⟩ : ∃ L, s.ac.length = L := ⟨_, rfl⟩
  rw [hLL] at hL hown ca hne
  clear hh g0 g1 hw2 R BB HT hLL hoi hOS hOv l1 hor
  have hLi : (24 : Int) ≤ (L : Int) := by omega
  go_wp2_with fail
  go_ret
  exact ⟨rfl, FT.out, Frm.of_below FB.out⟩
set_option maxRecDepth 100000 in
set_option maxHeartbeats 4000000 in
theorem act_full1 {O : Nat → Prop} {S : Nat} {s : M.Lk} (t o : Nat) (w : World) (h : TV O S s w) (ht : t < 5) (ho : o < 4) (h0 : 2 ≤ s.hd t o) (hL : 24 ≤ s.ac.length) :
    Calls Tryd.prog 26 #[.pointer (some ⟨S, 0, none⟩), .agg #[.int .i64 (t : Nat), .int .i64 (o : Nat), .int .i64 1]] w fun e w' => e = .returned (terr 4) ∧ TV O S s w' ∧ Frm O w w' := by
  have HT : Hid (TV O S s w) := h
  obtain ⟨v, h1, _⟩ := h
  have g0 := h1.sh ho
  have g1 := h1.ow ho
  have l1 := h1.lt
  have hlt : M.owS s o < 65536 := by
    have h2 := M.shS_lt s o
    have h3 := M.owS_lt s o
    have h4 : M.owS s o ||| M.shS s o < 32 := Nat.or_lt_two_pow (n := 5) h3 h2
    omega
  have hh := fun w' => has_any (M.owS s o) t w' (by
    have h2 := M.shS_lt s o
    have h3 := M.owS_lt s o
    have h4 : M.owS s o ||| M.shS s o < 32 := Nat.or_lt_two_pow (n := 5) h3 h2
    omega) (by omega)
  rw [M.ow_has s o ht, decide_eq_true h0] at hh
  rw [terr_ne (by decide)]
  obtain ⟨x1, hx1⟩ : ∃ x : Nat, M.shS s o = x := ⟨_, rfl⟩
  obtain ⟨x2, hx2⟩ : ∃ x : Nat, M.owS s o = x := ⟨_, rfl⟩
  rw [hx1] at g0
  rw [hx2] at g1 hh
  have hoi : (o : Int) < 4 := by omega
  clear h1 hx1 hx2 h0 hlt
  go_enter Tryd.func26, Tryd.ntmps26
  go_wp2_with fail
  go_region
  go_wp2_with fail
  refine (hh _).mono ?_
  rintro e w' ⟨rfl, rfl⟩
  obtain ⟨w2, hw2⟩ : ∃ w2, ((w.alloc (.cells #[.int .i64 (t : Nat), .int .i64 (o : Nat), .int .i64 1] 38)).alloc (.cells #[.int .i64 (x1 : Nat), .int .i64 (x2 : Nat)] 55)).drew = w2 := ⟨_, rfl⟩
  have BB : Below w.heap.size w w2 := by rw [← hw2]; exact ((bel_al (bel_al (Below.refl _ _) _) _).drew)
  have T2 := HT.out.below BB
  have ba : AcAt ⟨(t : Nat), (o : Nat), 1⟩ w.heap.size 0 w2 := by rw [← hw2]; exact ((acAt_new w ⟨(t : Nat), (o : Nat), 1⟩).al _).drew
  have b0 : w2.cell? ⟨w.heap.size, 0, none⟩ = some (.int .i64 (t : Nat)) := ba.c0
  have b1 : w2.cell? ⟨w.heap.size, 1, none⟩ = some (.int .i64 (o : Nat)) := ba.c1
  have b2 : w2.cell? ⟨w.heap.size, 2, none⟩ = some (.int .i64 1) := ba.c2
  have lA := ba.lt
  clear ba
  rw [hw2]
  have FT : Hid (TV O S s w2) := T2
  have FB : Hid (Below w.heap.size w w2) := BB
  obtain ⟨v, R, hOS, hOv⟩ := T2
  have hown := R.act
  have ca := R.acts
  have lS := R.lt
  have hbS := R.blk
  have fz := R.blk.frozen 24
  have hne := R.neS
  obtain ⟨ad, c0, rfl⟩ := owns_slice hown
  obtain ⟨L, hLL⟩ : ∃ L, s.ac.length = L := ⟨_, rfl⟩
  rw [hLL] at hL hown ca hne
  clear hh g0 g1 hw2 R BB HT hLL hoi hOS hOv l1
  have hLi : (24 : Int) ≤ (L : Int) := by omega
  go_wp2_with fail
  go_ret
  exact ⟨rfl, FT.out, Frm.of_below FB.out⟩
set_option maxRecDepth 100000 in
set_option maxHeartbeats 4000000 in
theorem act_ok0 {O : Nat → Prop} {S : Nat} {s : M.Lk} (t o : Nat) (w : World) (h : TV O S s w) (hle : ∀ x y, s.hd x y ≤ 3) (ht : t < 5) (ho : o < 4) (h0 : s.hd t o ≠ 0) (hL : s.ac.length < 24) (hO : ∀ k, w.heap.size ≤ k → O k) :
    Calls Tryd.prog 26 #[.pointer (some ⟨S, 0, none⟩), .agg #[.int .i64 (t : Nat), .int .i64 (o : Nat), .int .i64 0]] w fun e w' => e = .returned (terr 0) ∧ TV O S (M.sAct s t o 0) w' ∧ Frm O w w' := by
  have HT : Hid (TV O S s w) := h
  obtain ⟨v, h1, _⟩ := h
  have g0 := h1.sh ho
  have g1 := h1.ow ho
  have l1 := h1.lt
  have hlt : M.owS s o ||| M.shS s o < 65536 := by
    have h2 := M.shS_lt s o
    have h3 := M.owS_lt s o
    have h4 : M.owS s o ||| M.shS s o < 32 := Nat.or_lt_two_pow (n := 5) h3 h2
    omega
  have hh := fun w' => has_any (M.owS s o ||| M.shS s o) t w' (by
    have h2 := M.shS_lt s o
    have h3 := M.owS_lt s o
    have h4 : M.owS s o ||| M.shS s o < 32 := Nat.or_lt_two_pow (n := 5) h3 h2
    omega) (by omega)
  rw [M.any_has' ht (hle t o), decide_eq_true (by simpa using h0)] at hh
  have hor := i64_or_nat (M.owS s o) (M.shS s o) (by have := M.owS_lt s o; omega) (by have := M.shS_lt s o; omega)
  obtain ⟨x3, hx3⟩ : ∃ x : Nat, M.owS s o ||| M.shS s o = x := ⟨_, rfl⟩
  rw [hx3] at hor hh
  rw [terr_zero]
  obtain ⟨x1, hx1⟩ : ∃ x : Nat, M.shS s o = x := ⟨_, rfl⟩
  obtain ⟨x2, hx2⟩ : ∃ x : Nat, M.owS s o = x := ⟨_, rfl⟩
  rw [hx1] at g0 hor
  rw [hx2] at g1 hor
  have hoi : (o : Int) < 4 := by omega
  clear h1 hx1 hx2 h0 hle hlt hx3
  go_enter Tryd.func26, Tryd.ntmps26
  go_wp2_with fail
  go_region
  go_wp2_with fail
  refine (hh _).mono ?_
  rintro e w' ⟨rfl, rfl⟩
  obtain ⟨w2, hw2⟩ : ∃ w2, ((w.alloc (.cells #[.int .i64 (t : Nat), .int .i64 (o : Nat), .int .i64 0] 38)).alloc (.cells #[.int .i64 (x1 : Nat), .int .i64 (x2 : Nat)] 55)).drew = w2 := ⟨_, rfl⟩
  have BB : Below w.heap.size w w2 := by rw [← hw2]; exact ((bel_al (bel_al (Below.refl _ _) _) _).drew)
  have T2 := HT.out.below BB
  have ba : AcAt ⟨(t : Nat), (o : Nat), 0⟩ w.heap.size 0 w2 := by rw [← hw2]; exact ((acAt_new w ⟨(t : Nat), (o : Nat), 0⟩).al _).drew
  have b0 : w2.cell? ⟨w.heap.size, 0, none⟩ = some (.int .i64 (t : Nat)) := ba.c0
  have b1 : w2.cell? ⟨w.heap.size, 1, none⟩ = some (.int .i64 (o : Nat)) := ba.c1
  have b2 : w2.cell? ⟨w.heap.size, 2, none⟩ = some (.int .i64 0) := ba.c2
  have lA := ba.lt
  clear ba
  rw [hw2]
  have FT : Hid (TV O S s w2) := T2
  have FB : Hid (Below w.heap.size w w2) := BB
  obtain ⟨v, R, hOS, hOv⟩ := T2
  have hown := R.act
  have ca := R.acts
  have lS := R.lt
  have hbS := R.blk
  have fz := R.blk.frozen 24
  have hne := R.neS
  obtain ⟨ad, c0, rfl⟩ := owns_slice hown
  have FIN : Hid (∀ g cap w5, w5.ownsRow 0 38 3 (.slice (some ⟨g, 0, none⟩) (s.ac.length + 1) cap) (s.ac.length + 1) (acells s.ac ++ [.int .i64 (t : Nat), .int .i64 (o : Nat), .int .i64 0]) → (w2.alloc (.cells #[.int .i64 (t : Nat), .int .i64 (o : Nat), .int .i64 0] 38)).drew.grownBy w5 (Value.slice ad s.ac.length c0).ownBlock → ((Value.slice ad s.ac.length c0).ownBlock = some g ∨ g = w2.heap.size + 1) →
      TV O S (M.sAct s t o 0) (w5.setCell ⟨S, 24, none⟩ (.slice (some ⟨g, 0, none⟩) (s.ac.length + 1) cap)) ∧ Frm O w (w5.setCell ⟨S, 24, none⟩ (.slice (some ⟨g, 0, none⟩) (s.ac.length + 1) cap))) := by
    intro g cap w5 ho' hg hat
    have hgO : O g := by
      rcases hat with e | e
      · exact hOv g e
      · exact hO g (by omega)
    have hk : ∀ k, k < w2.heap.size → (Value.slice ad s.ac.length c0).ownBlock ≠ some k → w5.heap[k]? = w2.heap[k]? := fun k hk hne =>
      (hg.block k (Nat.lt_of_lt_of_le hk (by simp)) (Ne.symm hne)).trans (Below.heap_alloc w2 _ k hk)
    refine ⟨⟨_, R.did (s' := M.sAct s t o 0) rfl rfl rfl hk ?_, hOS, fun g' e => ?_⟩, ?_⟩
    · show w5.ownsRow _ _ _ _ (s.ac ++ [⟨t, o, 0⟩] : List M.SAct).length (acells (s.ac ++ [⟨t, o, 0⟩]))
      rw [acells_snoc, List.length_append]; exact ho'
    · obtain rfl : g = g' := by simpa [Value.ownBlock] using e
      exact hgO
    · exact ((((Frm.of_below (O := O) FB.out).alloc _).drew).grown hg (fun k hk => hOv k hk)).set (p := ⟨S, 24, none⟩) hOS _
  obtain ⟨i0, hi0, hz0, hz1, hz2⟩ := infoAct_parts infoAct
  obtain ⟨L, hLL⟩ : ∃ L, s.ac.length = L := ⟨_, rfl⟩
  rw [hLL] at hL hown ca hne FIN
  clear hh g0 g1 hw2 R BB HT hLL hoi hOS hOv l1 hor hO
  have hLi : (L : Int) < 24 := by omega
  obtain ⟨xs, hxs⟩ : ∃ xs, acells s.ac = xs := ⟨_, rfl⟩
  rw [hxs] at hown FIN
  clear hxs FT FB
  go_wp2_with fail
  go_region_law (refine step_append_lies _ (by rfl) _ _ _ (by rfl) 0 38 i0 _ 3 24 Tryd.underlying34 hi0 hz0 hz1 hz2 rfl (by omega) (.slice ad L c0) L xs (by rfl) ((hown.alloc _).drew) ⟨w2.heap.size, 0, none⟩ 1 1 [.int .i64 (t : Nat), .int .i64 (o : Nat), .int .i64 0] (by rfl) (by rfl) (World.news_of_block (cs := #[.int .i64 (t : Nat), .int .i64 (o : Nat), .int .i64 0]) (t := 38) (fr := (0, 0)) (heap_alloc_new w2 _)) (by simp [Value.oneCell']) (by omega) (by unfold maxLen; omega) (by omega) (by simp) (w2.heap.size + 1) (by simp) ?_; intro g cap w5 hown5 hgrow5 hat5 hlt5; have bq5 := hbS.of_block (w' := w5) ((hgrow5.block S (Nat.lt_of_lt_of_le lS (by simp)) (Ne.symm hne)).trans (Below.heap_alloc w2 _ S lS)); have q05 := bq5.cell (i := 24) (by omega); have f05 := bq5.frozen 24)
  all_goals go_wp2_with fail
  all_goals go_ret
  all_goals exact ⟨rfl, (FIN.out _ _ _ hown5 hgrow5 hat5).1.heap rfl, (FIN.out _ _ _ hown5 hgrow5 hat5).2.heap rfl rfl rfl rfl⟩
set_option maxRecDepth 100000 in
set_option maxHeartbeats 4000000 in
theorem act_ok1 {O : Nat → Prop} {S : Nat} {s : M.Lk} (t o : Nat) (w : World) (h : TV O S s w) (ht : t < 5) (ho : o < 4) (h0 : 2 ≤ s.hd t o) (hL : s.ac.length < 24) (hO : ∀ k, w.heap.size ≤ k → O k) :
    Calls Tryd.prog 26 #[.pointer (some ⟨S, 0, none⟩), .agg #[.int .i64 (t : Nat), .int .i64 (o : Nat), .int .i64 1]] w fun e w' => e = .returned (terr 0) ∧ TV O S (M.sAct s t o 1) w' ∧ Frm O w w' := by
  have HT : Hid (TV O S s w) := h
  obtain ⟨v, h1, _⟩ := h
  have g0 := h1.sh ho
  have g1 := h1.ow ho
  have l1 := h1.lt
  have hlt : M.owS s o < 65536 := by
    have h2 := M.shS_lt s o
    have h3 := M.owS_lt s o
    have h4 : M.owS s o ||| M.shS s o < 32 := Nat.or_lt_two_pow (n := 5) h3 h2
    omega
  have hh := fun w' => has_any (M.owS s o) t w' (by
    have h2 := M.shS_lt s o
    have h3 := M.owS_lt s o
    have h4 : M.owS s o ||| M.shS s o < 32 := Nat.or_lt_two_pow (n := 5) h3 h2
    omega) (by omega)
  rw [M.ow_has s o ht, decide_eq_true h0] at hh
  rw [terr_zero]
  obtain ⟨x1, hx1⟩ : ∃ x : Nat, M.shS s o = x := ⟨_, rfl⟩
  obtain ⟨x2, hx2⟩ : ∃ x : Nat, M.owS s o = x := ⟨_, rfl⟩
  rw [hx1] at g0
  rw [hx2] at g1 hh
  have hoi : (o : Int) < 4 := by omega
  clear h1 hx1 hx2 h0 hlt
  go_enter Tryd.func26, Tryd.ntmps26
  go_wp2_with fail
  go_region
  go_wp2_with fail
  refine (hh _).mono ?_
  rintro e w' ⟨rfl, rfl⟩
  obtain ⟨w2, hw2⟩ : ∃ w2, ((w.alloc (.cells #[.int .i64 (t : Nat), .int .i64 (o : Nat), .int .i64 1] 38)).alloc (.cells #[.int .i64 (x1 : Nat), .int .i64 (x2 : Nat)] 55)).drew = w2 := ⟨_, rfl⟩
  have BB : Below w.heap.size w w2 := by rw [← hw2]; exact ((bel_al (bel_al (Below.refl _ _) _) _).drew)
  have T2 := HT.out.below BB
  have ba : AcAt ⟨(t : Nat), (o : Nat), 1⟩ w.heap.size 0 w2 := by rw [← hw2]; exact ((acAt_new w ⟨(t : Nat), (o : Nat), 1⟩).al _).drew
  have b0 : w2.cell? ⟨w.heap.size, 0, none⟩ = some (.int .i64 (t : Nat)) := ba.c0
  have b1 : w2.cell? ⟨w.heap.size, 1, none⟩ = some (.int .i64 (o : Nat)) := ba.c1
  have b2 : w2.cell? ⟨w.heap.size, 2, none⟩ = some (.int .i64 1) := ba.c2
  have lA := ba.lt
  clear ba
  rw [hw2]
  have FT : Hid (TV O S s w2) := T2
  have FB : Hid (Below w.heap.size w w2) := BB
  obtain ⟨v, R, hOS, hOv⟩ := T2
  have hown := R.act
  have ca := R.acts
  have lS := R.lt
  have hbS := R.blk
  have fz := R.blk.frozen 24
  have hne := R.neS
  obtain ⟨ad, c0, rfl⟩ := owns_slice hown
  have FIN : Hid (∀ g cap w5, w5.ownsRow 0 38 3 (.slice (some ⟨g, 0, none⟩) (s.ac.length + 1) cap) (s.ac.length + 1) (acells s.ac ++ [.int .i64 (t : Nat), .int .i64 (o : Nat), .int .i64 1]) → (w2.alloc (.cells #[.int .i64 (t : Nat), .int .i64 (o : Nat), .int .i64 1] 38)).drew.grownBy w5 (Value.slice ad s.ac.length c0).ownBlock → ((Value.slice ad s.ac.length c0).ownBlock = some g ∨ g = w2.heap.size + 1) →
      TV O S (M.sAct s t o 1) (w5.setCell ⟨S, 24, none⟩ (.slice (some ⟨g, 0, none⟩) (s.ac.length + 1) cap)) ∧ Frm O w (w5.setCell ⟨S, 24, none⟩ (.slice (some ⟨g, 0, none⟩) (s.ac.length + 1) cap))) := by
    intro g cap w5 ho' hg hat
    have hgO : O g := by
      rcases hat with e | e
      · exact hOv g e
      · exact hO g (by omega)
    have hk : ∀ k, k < w2.heap.size → (Value.slice ad s.ac.length c0).ownBlock ≠ some k → w5.heap[k]? = w2.heap[k]? := fun k hk hne =>
      (hg.block k (Nat.lt_of_lt_of_le hk (by simp)) (Ne.symm hne)).trans (Below.heap_alloc w2 _ k hk)
    refine ⟨⟨_, R.did (s' := M.sAct s t o 1) rfl rfl rfl hk ?_, hOS, fun g' e => ?_⟩, ?_⟩
    · show w5.ownsRow _ _ _ _ (s.ac ++ [⟨t, o, 1⟩] : List M.SAct).length (acells (s.ac ++ [⟨t, o, 1⟩]))
      rw [acells_snoc, List.length_append]; exact ho'
    · obtain rfl : g = g' := by simpa [Value.ownBlock] using e
      exact hgO
    · exact ((((Frm.of_below (O := O) FB.out).alloc _).drew).grown hg (fun k hk => hOv k hk)).set (p := ⟨S, 24, none⟩) hOS _
  obtain ⟨i0, hi0, hz0, hz1, hz2⟩ := infoAct_parts infoAct
  obtain ⟨L, hLL⟩ : ∃ L, s.ac.length = L := ⟨_, rfl⟩
  rw [hLL] at hL hown ca hne FIN
  clear hh g0 g1 hw2 R BB HT hLL hoi hOS hOv l1 hO
  have hLi : (L : Int) < 24 := by omega
  obtain ⟨xs, hxs⟩ : ∃ xs, acells s.ac = xs := ⟨_, rfl⟩
  rw [hxs] at hown FIN
  clear hxs FT FB
  go_wp2_with fail
  go_region_law (refine step_append_lies _ (by rfl) _ _ _ (by rfl) 0 38 i0 _ 3 24 Tryd.underlying34 hi0 hz0 hz1 hz2 rfl (by omega) (.slice ad L c0) L xs (by rfl) ((hown.alloc _).drew) ⟨w2.heap.size, 0, none⟩ 1 1 [.int .i64 (t : Nat), .int .i64 (o : Nat), .int .i64 1] (by rfl) (by rfl) (World.news_of_block (cs := #[.int .i64 (t : Nat), .int .i64 (o : Nat), .int .i64 1]) (t := 38) (fr := (0, 0)) (heap_alloc_new w2 _)) (by simp [Value.oneCell']) (by omega) (by unfold maxLen; omega) (by omega) (by simp) (w2.heap.size + 1) (by simp) ?_; intro g cap w5 hown5 hgrow5 hat5 hlt5; have bq5 := hbS.of_block (w' := w5) ((hgrow5.block S (Nat.lt_of_lt_of_le lS (by simp)) (Ne.symm hne)).trans (Below.heap_alloc w2 _ S lS)); have q05 := bq5.cell (i := 24) (by omega); have f05 := bq5.frozen 24)
  all_goals go_wp2_with fail
  all_goals go_ret
  all_goals exact ⟨rfl, (FIN.out _ _ _ hown5 hgrow5 hat5).1.heap rfl, (FIN.out _ _ _ hown5 hgrow5 hat5).2.heap rfl rfl rfl rfl⟩
end Go.Proofs.YtcjodlgkmbmcgaaDoor
