/- A move is done (package snap, Do). -/
import Derived.Test.YtplplgpfglaajaaDoorBk6
namespace Go.Proofs.YtplplgpfglaajaaDoor
open Go.RowKit
/-- A move as a value. -/
abbrev mvV (k f t s : Int) : Value := .agg #[.int .i64 k, .int .i64 f, .int .i64 t, .int .i64 s]
set_option maxRecDepth 100000 in
set_option maxHeartbeats 2000000 in
theorem do_ok {O : Nat → Prop} {S n : Nat} {b : M.Bk} (k f t s : Int) (w : World) (h : BV O S n b w) (hO : ∀ k, w.heap.size ≤ k → O k) (hg : M.BG n b) :
    Calls Tryd.prog 8 #[.pointer (some ⟨S, 0, none⟩), mvV k f t s] w fun e w' => e = .returned (terr (M.mvB n b k f t s).2) ∧ BV O S n (M.mvB n b k f t s).1 w' ∧ Frm O w w' := by
  obtain ⟨w1, hw1⟩ : ∃ w1, w.alloc (.cells #[.int .i64 k, .int .i64 f, .int .i64 t, .int .i64 s] 38) = w1 := ⟨_, rfl⟩
  have hB1 : Below w.heap.size w w1 := by rw [← hw1]; exact bel_al (Below.refl _ _) _
  have hR : w1.rowIs w.heap.size 38 4 (fun i => if i = 0 then .int .i64 k else if i = 1 then .int .i64 f else if i = 2 then .int .i64 t else .int .i64 s) := by
    rw [← hw1]
    refine World.rowIs_alloc w #[.int .i64 k, .int .i64 f, .int .i64 t, .int .i64 s] _ _ (fun i hi => ?_)
    have hi' : i < 4 := hi
    rcases i with _ | _ | _ | _ | i
    · rfl
    · rfl
    · rfl
    · rfl
    · omega
  have H : Hid (BV O S n b w1) := h.below hB1
  have HF : Hid (Frm O w w1) := Frm.of_below hB1
  have hO1 : ∀ k, w1.heap.size ≤ k → O k := fun k hk => hO k (Nat.le_trans hB1.size hk)
  have c0 : w1.cell? ⟨w.heap.size, 0, none⟩ = some (.int .i64 k) := hR.cell (i := 0) (by omega)
  have c1 : w1.cell? ⟨w.heap.size, 1, none⟩ = some (.int .i64 f) := hR.cell (i := 1) (by omega)
  have c2 : w1.cell? ⟨w.heap.size, 2, none⟩ = some (.int .i64 t) := hR.cell (i := 2) (by omega)
  have c3 : w1.cell? ⟨w.heap.size, 3, none⟩ = some (.int .i64 s) := hR.cell (i := 3) (by omega)
  have n5 := hg.n5
  have HG : Hid (M.BG n b) := hg
  obtain ⟨R, hRR⟩ : ∃ R, M.mvB n b k f t s = R := ⟨_, rfl⟩
  rw [hRR]
  unfold M.mvB at hRR
  clear h hO hg hB1 hR
  by_cases hk : 0 ≤ k ∧ k ≤ 2
  case neg =>
    rw [if_pos (.inl hk)] at hRR
    subst hRR
    by_cases hk0 : k < 0
    · clear hk
      go_enter Tryd.func8, Tryd.ntmps8
      go_wp2_with fail
      go_ret
      exact ⟨rfl, H.out, HF.out⟩
    · have hk0' : 0 ≤ k := by omega
      have hk2 : 2 < k := by omega
      clear hk hk0
      go_enter Tryd.func8, Tryd.ntmps8
      go_wp2_with fail
      go_ret
      exact ⟨rfl, H.out, HF.out⟩
  obtain ⟨hk0, hk2⟩ := hk
  by_cases hf : 0 ≤ f ∧ f < n
  case neg =>
    rw [if_pos (.inr hf)] at hRR
    subst hRR
    have e : thingZ f n = false := thingZ_false hf
    clear hf
    go_enter Tryd.func8, Tryd.ntmps8
    go_wp2_with fail
    refine (has_ok f w1 H.out).mono ?_
    rw [e]
    rintro e w2 ⟨rfl, rfl⟩
    clear e
    go_wp2_with fail
    go_ret
    exact ⟨rfl, H.out, HF.out⟩
  rw [if_neg (fun x => x.elim (fun y => y ⟨hk0, hk2⟩) (fun y => y hf))] at hRR
  obtain ⟨hf0, hfn⟩ := hf
  have ef : thingZ f n = true := thingZ_true hf0 hfn
  obtain ⟨p, rfl⟩ : ∃ p : Nat, f = (p : Int) := ⟨f.toNat, by omega⟩
  have hp : p < n := by omega
  rw [Int.toNat_natCast] at hRR
  by_cases h2 : k = 2
  · subst h2
    rw [if_pos rfl] at hRR
    clear hf0 hfn
    by_cases hbe : b.be = true
    · rw [if_pos hbe] at hRR
      subst hRR
      have hex := HG.out.bg hbe
      go_enter Tryd.func8, Tryd.ntmps8
      go_wp2_with fail
      refine (has_ok (p : Int) w1 H.out).mono ?_
      rw [ef]
      rintro e w2 ⟨rfl, rfl⟩
      clear ef
      go_wp2_with fail
      refine (begin_old p w1 H.out n5 hex).mono ?_
      rintro e w3 ⟨rfl, hB3⟩
      have G1 : Hid (BV O S n b w3) := H.out.below hB3
      have G2 : Hid (Frm O w w3) := HF.out.trans (Frm.of_below hB3)
      clear hB3 hw1 c0 c1 c2 c3 hex
      go_wp2_with fail
      go_ret
      exact ⟨rfl, G1.out, G2.out⟩
    · rw [if_neg hbe] at hRR
      subst hRR
      have hno : ∀ s, s < n → ¬ 0 ≤ b.no s := fun s hs x => hbe (HG.out.ok.beg s hs x)
      have HNO : Hid (∀ s, s < n → ¬ 0 ≤ b.no s) := hno
      clear hno hbe
      go_enter Tryd.func8, Tryd.ntmps8
      go_wp2_with fail
      refine (has_ok (p : Int) w1 H.out).mono ?_
      rw [ef]
      rintro e w2 ⟨rfl, rfl⟩
      clear ef
      go_wp2_with fail
      refine (begin_new p w1 H.out hO1 hp n5 (fun s hs => by have := HNO.out s hs; omega) (HG.out.mo0 hp) (fun c => by have := HG.out.cnt p c; omega)).mono ?_
      rintro e w3 ⟨rfl, hB3, hF3⟩
      have G1 : Hid (BV O S n (M.noteB n b p) w3) := hB3
      have G2 : Hid (Frm O w w3) := HF.out.trans hF3
      clear hB3 hF3 hw1 c0 c1 c2 c3
      go_wp2_with fail
      go_ret
      exact ⟨rfl, G1.out, G2.out⟩
  rw [if_neg h2] at hRR
  have hk2' : k < 2 := by omega
  have h2d : (k == 2) = false := by simp; omega
  clear h2 hk2
  by_cases ht : 0 ≤ t ∧ t < n
  case neg =>
    rw [if_pos ht] at hRR
    subst hRR
    have et : thingZ t n = false := thingZ_false ht
    clear ht hf0 hfn
    go_enter Tryd.func8, Tryd.ntmps8
    go_wp2_with fail
    refine (has_ok (p : Int) w1 H.out).mono ?_
    rw [ef]
    rintro e w2 ⟨rfl, rfl⟩
    clear ef
    go_wp2_with fail
    refine (has_ok t w1 H.out).mono ?_
    rw [et]
    rintro e w2 ⟨rfl, rfl⟩
    clear et
    go_wp2_with fail
    go_ret
    exact ⟨rfl, H.out, HF.out⟩
  rw [if_neg (fun x => x ht)] at hRR
  obtain ⟨ht0, htn⟩ := ht
  have et : thingZ t n = true := thingZ_true ht0 htn
  obtain ⟨q, rfl⟩ : ∃ q : Nat, t = (q : Int) := ⟨t.toNat, by omega⟩
  have hq : q < n := by omega
  rw [Int.toNat_natCast] at hRR
  clear ht0 htn hf0 hfn
  by_cases hpq : p = q
  · subst hpq
    rw [if_pos rfl] at hRR
    subst hRR
    go_enter Tryd.func8, Tryd.ntmps8
    go_wp2_with fail
    refine (has_ok (p : Int) w1 H.out).mono ?_
    rw [ef]
    rintro e w2 ⟨rfl, rfl⟩
    clear ef
    go_wp2_with fail
    refine (has_ok (p : Int) w1 H.out).mono ?_
    rw [et]
    rintro e w2 ⟨rfl, rfl⟩
    clear et
    go_wp2_with fail
    go_ret
    exact ⟨rfl, H.out, HF.out⟩
  rw [if_neg (show ¬ (p : Int) = (q : Int) by omega)] at hRR
  have hd : ((q : Int) == (p : Int)) = false := by simp; omega
  have hd' : (q == p) = false := by simp; omega
  have HPQ : Hid (p ≠ q) := hpq
  clear hpq
  by_cases h0 : k = 0
  · subst h0
    rw [if_pos rfl] at hRR
    have HRR : Hid (M.payR b p q s = R) := hRR
    clear hRR
    go_enter Tryd.func8, Tryd.ntmps8
    go_wp2_with fail
    refine (has_ok (p : Int) w1 H.out).mono ?_
    rw [ef]
    rintro e w2 ⟨rfl, rfl⟩
    clear ef
    go_wp2_with fail
    refine (has_ok (q : Int) w1 H.out).mono ?_
    rw [et]
    rintro e w2 ⟨rfl, rfl⟩
    clear et
    go_wp2_with fail
    refine (pay_ok p q s w1 H.out hO1 HG.out hp hq).mono ?_
    rintro e w3 ⟨rfl, hB3, hF3⟩
    rw [HRR.out] at hB3 ⊢
    have G1 : Hid (BV O S n R.1 w3) := hB3
    have G2 : Hid (Frm O w w3) := HF.out.trans hF3
    clear hB3 hF3 hw1 c0 c1 c2 c3
    go_wp2_with fail
    go_ret
    exact ⟨rfl, G1.out, G2.out⟩
  · rw [if_neg h0] at hRR
    have h0d : (k == 0) = false := by simp; omega
    have HRR : Hid (M.comeR n b p q = R) := hRR
    clear hRR h0
    go_enter Tryd.func8, Tryd.ntmps8
    go_wp2_with fail
    refine (has_ok (p : Int) w1 H.out).mono ?_
    rw [ef]
    rintro e w2 ⟨rfl, rfl⟩
    clear ef
    go_wp2_with fail
    refine (has_ok (q : Int) w1 H.out).mono ?_
    rw [et]
    rintro e w2 ⟨rfl, rfl⟩
    clear et
    go_wp2_with fail
    refine (come_ok p q w1 H.out hO1 HG.out hp hq HPQ.out).mono ?_
    rintro e w3 ⟨rfl, hB3, hF3⟩
    rw [HRR.out] at hB3 ⊢
    have G1 : Hid (BV O S n R.1 w3) := hB3
    have G2 : Hid (Frm O w w3) := HF.out.trans hF3
    clear hB3 hF3 hw1 c0 c1 c2 c3
    go_wp2_with fail
    go_ret
    exact ⟨rfl, G1.out, G2.out⟩
end Go.Proofs.YtplplgpfglaajaaDoor
