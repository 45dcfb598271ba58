/- The closed fact on clocks (stampFact): it returns true; what lay in memory lies as it lay. -/
import Derived.Test.YtnofgmbpkgnciabTfc
import Derived.Test.YtnofgmbpkgnciabSpl
import Derived.Test.YtnofgmbpkgnciabSvc
import Derived.Test.YtnofgmbpkgnciabSrs
namespace Go.Proofs.Ytnofgmbpkgnciab
open Go.RowKit

theorem VRows.hasR {T : List (Int × Int)} {P n N A : Nat} {w : World} (h : VRows T P n n N A w) (hP : P ≤ 5) : HasR ((List.range n).map fun j => ints (M.vcs T j P)) (some ⟨A, 0, none⟩) w := fun j hj => by
  have hlt := h.lt
  obtain ⟨cs, h1, h2, h3⟩ := h
  have hj' : j < n := by simpa using hj
  obtain ⟨v, hv, ho⟩ := h3 j hj'
  obtain ⟨p, c, rfl⟩ := owns_slice ho
  have e : ((List.range n).map fun j => ints (M.vcs T j P))[j]?.getD [] = ints (M.vcs T j P) := by simp [hj']
  have hl : (ints (M.vcs T j P)).length = P := by rw [ints_length, M.vcs_length T j hP]
  refine ⟨A, 0, rfl, hlt, p, c, ?_, ?_⟩
  · rw [e, hl, Nat.zero_add]
    simp [World.cell?, h1, hv]
  · rw [e]; exact hasI_of_owns (M.vcs_length T j hP) ho
theorem talk_clocks : M.clocks talkT = [1, 2, 2] := by decide +kernel
theorem talk_vecs : ((List.range 3).map fun j => ints (M.vcs talkT j 2)) = [[1, 0], [1, 1], [2, 0]] := by decide +kernel
theorem hasI2 {w : World} {B : Nat} {x y : Int} (hB : B < w.heap.size) (h0 : w.cell? ⟨B, 0, none⟩ = some (.int .i64 x)) (h1 : w.cell? ⟨B, 1, none⟩ = some (.int .i64 y)) : HasI [x, y] (some ⟨B, 0, none⟩) w := fun j hj => by
  have hj2 : j < 2 := hj
  refine ⟨B, 0, rfl, hB, ?_⟩
  rcases j with _ | _ | j
  · simpa using h0
  · simpa using h1
  · omega
theorem hasR3 {w : World} {B n : Nat} {x y z : List Int} {a b c : Option Addr} (hB : B < w.heap.size) (h0 : w.cell? ⟨B, 0, none⟩ = some (.slice a n n)) (h1 : w.cell? ⟨B, 1, none⟩ = some (.slice b n n)) (h2 : w.cell? ⟨B, 2, none⟩ = some (.slice c n n)) (lx : x.length = n) (ly : y.length = n) (lz : z.length = n) (hx : HasI x a w) (hy : HasI y b w) (hz : HasI z c w) : HasR [x, y, z] (some ⟨B, 0, none⟩) w := fun j hj => by
  have hj3 : j < 3 := hj
  refine ⟨B, 0, rfl, hB, ?_⟩
  rcases j with _ | _ | _ | j
  · exact ⟨a, n, by simpa [lx] using h0, hx⟩
  · exact ⟨b, n, by simpa [ly] using h1, hy⟩
  · exact ⟨c, n, by simpa [lz] using h2, hz⟩
  · omega
theorem two_at (w : World) (x y : Int) : (w.alloc (.cells #[.int .i64 x, .int .i64 y] 3)).cell? ⟨w.heap.size, 0, none⟩ = some (.int .i64 x) ∧ (w.alloc (.cells #[.int .i64 x, .int .i64 y] 3)).cell? ⟨w.heap.size, 1, none⟩ = some (.int .i64 y) := ⟨by simp, by simp⟩
set_option maxRecDepth 100000 in
set_option maxHeartbeats 2000000 in
theorem stampFact_ok (w : World) : Calls Try.prog 4 #[] w fun e w' => e = .returned (.bool true) ∧ Below w.heap.size w w' := by
  go_enter Try.func4, Try.ntmps4
  go_wp2_with fail
  refine (talk_ok _).mono ?_
  rintro e w1 ⟨p, rfl, hc, hB1⟩
  go_wp2_with fail
  refine (plain_ok 2 talkT p 3 3 _ rfl (by unfold maxLen; omega) hc talk_code).mono ?_
  rw [talk_clocks]
  rintro e w2 ⟨A, rfl, hr, hA, hB2⟩
  have hC2 := bel_on hB1 hB2
  go_wp2_with fail
  refine (talk_ok _).mono ?_
  rintro e w3 ⟨p3, rfl, hc3, hB3⟩
  have hC3 := bel_on hC2 hB3
  go_wp2_with fail
  refine (vectors_ok 2 talkT p3 3 3 _ rfl (by unfold maxLen; omega) hc3 talk_code).mono ?_
  rintro e w4 ⟨A4, N4, rfl, hV4, hA4, _, hB4⟩
  have hC4 := bel_on hC3 hB4
  have hR4 := hV4.hasR (by omega)
  rw [talk_vecs] at hR4
  have hi4 : HasI [1, 2, 2] (some ⟨A, 0, none⟩) w4 := (RowAt.hasI hr).later (bel_on hB3 hB4)
  obtain ⟨w5, hw5⟩ : ∃ w5, w4.alloc (.cells #[.int .i64 1, .int .i64 2, .int .i64 2] 3) = w5 := ⟨_, rfl⟩
  have hB5 : Below w4.heap.size w4 w5 := hw5 ▸ bel_al (Below.refl _ _) _
  have h5 : HasI [1, 2, 2] (some ⟨w4.heap.size, 0, none⟩) w5 := hw5 ▸ hasI3 w4 1 2 2
  have hC5 := bel_on hC4 hB5
  have hs := same_intsI [1, 2, 2] _ _ 3 3 3 _ rfl (by unfold maxLen; omega) (hi4.later hB5) h5
  clear hV4 hr
  go_wp2_with fail
  refine hs.mono ?_
  rintro e w6 ⟨rfl, hB6⟩
  have hC6 := bel_on hC5 hB6
  have hR6 := hR4.later (bel_on hB5 hB6)
  clear hs hw5
  obtain ⟨wa, hwa⟩ : ∃ wa, w6.alloc (.cells #[.int .i64 1, .int .i64 0] 3) = wa := ⟨_, rfl⟩
  obtain ⟨wb, hwb⟩ : ∃ wb, wa.alloc (.cells #[.int .i64 1, .int .i64 1] 3) = wb := ⟨_, rfl⟩
  obtain ⟨wc, hwc⟩ : ∃ wc, wb.alloc (.cells #[.int .i64 2, .int .i64 0] 3) = wc := ⟨_, rfl⟩
  obtain ⟨wd, hwd⟩ : ∃ wd, wc.alloc (.cells #[.slice (some ⟨w6.heap.size, 0, none⟩) 2 2, .slice (some ⟨w6.heap.size + 1, 0, none⟩) 2 2, .slice (some ⟨w6.heap.size + 1 + 1, 0, none⟩) 2 2] 26) = wd := ⟨_, rfl⟩
  have sa : wa.heap.size = w6.heap.size + 1 := by subst hwa; simp
  have sb : wb.heap.size = w6.heap.size + 1 + 1 := by subst hwb; simp [sa]
  have sc : wc.heap.size = w6.heap.size + 1 + 1 + 1 := by subst hwc; simp [sb]
  have hBa : Below w6.heap.size w6 wa := hwa ▸ bel_al (Below.refl _ _) _
  have hBb : Below wa.heap.size wa wb := hwb ▸ bel_al (Below.refl _ _) _
  have hBc : Below wb.heap.size wb wc := hwc ▸ bel_al (Below.refl _ _) _
  have hBd : Below wc.heap.size wc wd := hwd ▸ bel_al (Below.refl _ _) _
  have ia : HasI [1, 0] (some ⟨w6.heap.size, 0, none⟩) wa := by have := two_at w6 1 0; rw [hwa] at this; exact hasI2 (by omega) this.1 this.2
  have ib : HasI [1, 1] (some ⟨w6.heap.size + 1, 0, none⟩) wb := by have := two_at wa 1 1; rw [hwb, sa] at this; exact hasI2 (by omega) this.1 this.2
  have ic : HasI [2, 0] (some ⟨w6.heap.size + 1 + 1, 0, none⟩) wc := by have := two_at wb 2 0; rw [hwc, sb] at this; exact hasI2 (by omega) this.1 this.2
  have hd0 : wd.cell? ⟨wc.heap.size, 0, none⟩ = some (.slice (some ⟨w6.heap.size, 0, none⟩) 2 2) := by subst hwd; simp
  have hd1 : wd.cell? ⟨wc.heap.size, 1, none⟩ = some (.slice (some ⟨w6.heap.size + 1, 0, none⟩) 2 2) := by subst hwd; simp
  have hd2 : wd.cell? ⟨wc.heap.size, 2, none⟩ = some (.slice (some ⟨w6.heap.size + 1 + 1, 0, none⟩) 2 2) := by subst hwd; simp
  have hdl : wc.heap.size < wd.heap.size := by subst hwd; simp
  have hRd : HasR [[1, 0], [1, 1], [2, 0]] (some ⟨wc.heap.size, 0, none⟩) wd := hasR3 hdl hd0 hd1 hd2 rfl rfl rfl (ia.later (bel_on hBb (bel_on hBc hBd))) (ib.later (bel_on hBc hBd)) (ic.later hBd)
  have hB6d := bel_on hBa (bel_on hBb (bel_on hBc hBd))
  have hs := same_rows [[1, 0], [1, 1], [2, 0]] _ _ 3 3 3 _ rfl (by unfold maxLen; omega) (fun j => by rcases j with _ | _ | _ | j <;> simp [maxLen]) (hR6.later hB6d) hRd
  rw [sc] at hs
  go_wp2_with fail
  refine hs.mono ?_
  rintro e w7 ⟨rfl, hB7⟩
  go_wp2_with fail
  go_ret
  exact ⟨rfl, bel_on (bel_on hC6 hB6d) hB7⟩
end Go.Proofs.Ytnofgmbpkgnciab
