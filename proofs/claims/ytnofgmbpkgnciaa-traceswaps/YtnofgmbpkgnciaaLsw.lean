/- TOLD IN ANOTHER ORDER IT IS ONE TRACE (law TraceSwaps): whatever the trace and the number, the call returns true; what lay in memory lies as it lay. -/
import Derived.Test.YtnofgmbpkgnciaaTfc
import Derived.Test.YtnofgmbpkgnciaaTsm
import Derived.Deep.CutRange
namespace Go.Proofs.Ytnofgmbpkgnciaa
open Go.RowKit

/-- Block B holds a trace that is being told: its number of processes, and its events so far. -/
def UBox (w : World) (B : Nat) (P : Int) (v : Value) : Prop := w.heap[B]? = some (.cells #[.int .i64 P, v] 24 (0, 0))
theorem UBox.lt {w : World} {B : Nat} {P : Int} {v : Value} (h : UBox w B P v) : B < w.heap.size := (Array.getElem?_eq_some_iff.1 h).1
theorem UBox.c0 {w : World} {B : Nat} {P : Int} {v : Value} (h : UBox w B P v) : w.cell? ⟨B, 0, none⟩ = some (.int .i64 P) := by simp [World.cell?, show w.heap[B]? = _ from h]
theorem UBox.c1 {w : World} {B : Nat} {P : Int} {v : Value} (h : UBox w B P v) : w.cell? ⟨B, 1, none⟩ = some v := by simp [World.cell?, show w.heap[B]? = _ from h]
theorem UBox.fr {w : World} {B : Nat} {P : Int} {v : Value} (h : UBox w B P v) (k : Nat) : w.frozen? ⟨B, k, none⟩ = false := by simp [World.frozen?, show w.heap[B]? = _ from h]
theorem UBox.kept {w w' : World} {B : Nat} {P : Int} {v : Value} {row : Option Nat} (h : UBox w B P v) (hg : w.grownBy w' row) (hne : some B ≠ row) : UBox w' B P v := (hg.block B h.lt hne).trans h
theorem UBox.alloc {w : World} {B : Nat} {P : Int} {v : Value} (h : UBox w B P v) (o : Obj) : UBox (w.alloc o) B P v := h.kept (World.grownBy_alloc w o none) (by simp)
theorem UBox.below {w w' : World} {B N : Nat} {P : Int} {v : Value} (h : UBox w B P v) (hb : Below N w w') (hB : B < N) : UBox w' B P v := (hb.block B hB).trans h
theorem UBox.set1 {w : World} {B : Nat} {P : Int} {v : Value} (h : UBox w B P v) (u : Value) : UBox (w.setCell ⟨B, 1, none⟩ u) B P u := by
  obtain ⟨hlt, hk⟩ := Array.getElem?_eq_some_iff.1 h
  show (w.heap.modify B _)[B]? = _
  rw [Array.getElem?_eq_getElem (by rw [Array.size_modify]; exact hlt), Array.getElem_modify_self, hk]
  simp
/-- The first k events, as cells. -/
def evC (T : List (Int × Int)) (k : Nat) : List Value := (List.range (k * 2)).map fun x => Value.int .i64 (if x % 2 = 0 then M.pr T (x / 2) else M.fm T (x / 2))
theorem evC_succ (T : List (Int × Int)) (k : Nat) {x y : Int} (hx : M.pr T k = x) (hy : M.fm T k = y) : evC T (k + 1) = evC T k ++ [.int .i64 x, .int .i64 y] := by
  unfold evC
  rw [show (k + 1) * 2 = k * 2 + 1 + 1 by omega, List.range_succ, List.range_succ, List.map_append, List.map_append]
  simp only [List.map_cons, List.map_nil, List.append_assoc, List.cons_append, List.nil_append]
  rw [if_pos (by omega), if_neg (by omega), show k * 2 / 2 = k by omega, show (k * 2 + 1) / 2 = k by omega, hx, hy]
theorem hasE_of_owns {w : World} {base n : Nat} {v : Value} {T : List (Int × Int)} (hT : T.length = n) (h : w.ownsRow base 33 2 v n (evC T n)) : ∃ p cap, v = .slice p n cap ∧ HasE T p w := by
  rcases h.2 with ⟨rfl, rfl⟩ | ⟨g, cap, cur, rfl, hb, hg, h1, h2, h3, h4⟩
  · exact ⟨none, 0, rfl, fun j hj => by omega⟩
  · have hcell : ∀ x, x < n * 2 → w.cell? ⟨g, x, none⟩ = some (.int .i64 (if x % 2 = 0 then M.pr T (x / 2) else M.fm T (x / 2))) := fun x hx => by
      have e : cur[x]? = (evC T n)[x]? := by
        rw [← h4, List.getElem?_take, if_pos hx]; simp
      simp only [World.cell?, hg, e]
      unfold evC
      simp [hx]
    refine ⟨_, cap, rfl, fun j hj => ⟨g, 0, rfl, (Array.getElem?_eq_some_iff.1 hg).1, ?_, ?_⟩⟩
    · rw [Nat.zero_add, hcell _ (by omega), if_pos (by omega), show j * 2 / 2 = j by omega]
    · rw [Nat.zero_add, hcell _ (by omega), if_neg (by omega), show (j * 2 + 1) / 2 = j by omega]
theorem two_new (w : World) (x y : Int) (t : TypeId) : ∀ (j : Nat) (u : Value), ([.int .i64 x, .int .i64 y] : List Value)[j]? = some u → (w.alloc (.cells #[.int .i64 x, .int .i64 y] t)).cell? ((⟨w.heap.size, 0, none⟩ : Addr).add j) = some u := by
  intro j u h
  rcases j with _ | _ | j
  · simp at h; subst h; simp [Addr.add]
  · simp at h; subst h; simp [Addr.add]
  · simp at h
theorem two_at {w : World} {N : Nat} (h : w.heap.size = N) (x y : Int) (t : TypeId) : ∀ (j : Nat) (u : Value), ([.int .i64 x, .int .i64 y] : List Value)[j]? = some u → (w.alloc (.cells #[.int .i64 x, .int .i64 y] t)).cell? ((⟨N, 0, none⟩ : Addr).add j) = some u := by
  subst h; exact two_new w x y t
theorem owns_slice {w : World} {base n size : Nat} {e : TypeId} {v : Value} {xs : List Value} (h : w.ownsRow base e size v n xs) : ∃ p c, v = .slice p n c := by
  rcases h.2 with ⟨rfl, rfl⟩ | ⟨g, cap, _, rfl, _⟩
  · exact ⟨none, 0, rfl⟩
  · exact ⟨_, cap, rfl⟩
theorem owns_other {w : World} {base n size : Nat} {e : TypeId} {v : Value} {xs : List Value} (h : w.ownsRow base e size v n xs) {a : Addr} (ha : a.block < base) (u : Value) : (w.setCell a u).ownsRow base e size v n xs := by
  refine ⟨h.1, ?_⟩
  rcases h.2 with h2 | ⟨g, cap, cur, h1, h2, h3, h4⟩
  · exact .inl h2
  · exact .inr ⟨g, cap, cur, h1, h2, (Below.heap_setCell w a u g (by omega)).trans h3, h4⟩
theorem infoEv : (Try.prog.info? 33).map (fun i => (i.zero, i.size, i.bytes)) = some (some (.agg #[.int .i64 0, .int .i64 0]), 2, 16) := by kernel_rfl
set_option maxRecDepth 100000 in
set_option maxHeartbeats 4000000 in
theorem tsw_walk (P : Int) (T : List (Int × Int)) (p : Option Addr) (n cap : Nat) (iz : Int) (w : World) (hl : T.length = n) (hmax : n ≤ maxLen) (hc : HasE T p w) (hiz : (Lit.int .i64 iz).wf = true) :
    Calls Try.prog 4 #[trV P p n cap, .int .i64 iz] w fun e w' => e = .returned (.bool true) ∧ Below w.heap.size w w' := by
  have hB0 : Below w.heap.size w (w.alloc (.cells #[.int .i64 P, .slice p n cap] 24)) := (Below.refl _ _).alloc (Nat.le_refl _) _
  have hbox := tbox_new w P p n cap
  obtain ⟨wb, hwb⟩ : ∃ wb, w.alloc (.cells #[.int .i64 P, .slice p n cap] 24) = wb := ⟨_, rfl⟩
  rw [hwb] at hB0 hbox
  go_enter Try.func4, Try.ntmps4
  go_wp2_with fail
  refine (traceFact_ok _).mono ?_
  rintro e w1 ⟨rfl, hB1⟩
  have hC1 := bel_on hB0 hB1
  have hb1 := hbox.later hB1 hbox.lt
  have hk1 := hb1.procs
  have hk2 := hb1.events
  clear hwb
  go_wp2_with fail
  by_cases h0 : M.tcode P T = 0
  · have hok := M.tcode_zero.1 h0
    have hn : n ≤ 24 := hl ▸ hok.len
    refine (same_ok P P T T p p n n cap cap _ hl hl hmax hmax (hc.later hC1) (hc.later hC1) h0 h0).mono ?_
    rw [M.same_self]
    rintro e w2 ⟨rfl, hB2⟩
    have hC2 := bel_on hC1 hB2
    have hb2 := hb1.later hB2 hb1.lt
    clear hk1 hk2
    have hk1 := hb2.procs
    have hk2 := hb2.events
    have hbl := hb2.lt
    have hc2 := hc.later hC2
    by_cases h1 : iz < 1
    · have d1 : decide (iz < 1) = true := decide_eq_true h1
      clear hiz
      go_wp2_with fail
      go_big_quiet (fail)
      go_wp2_with fail
      go_ret
      exact ⟨rfl, bel_drN hC2 _⟩
    · have d1 : decide (iz < 1) = false := decide_eq_false h1
      by_cases h2 : (n : Int) ≤ iz
      · have d2 : decide ((n : Int) ≤ iz) = true := decide_eq_true h2
        clear hiz
        go_wp2_with fail
        go_big_quiet (fail)
        go_wp2_with fail
        go_ret
        exact ⟨rfl, bel_drN hC2 _⟩
      · obtain ⟨i, rfl⟩ : ∃ i : Nat, iz = i := ⟨iz.toNat, by omega⟩
        have d2 : decide ((n : Int) ≤ (i : Int)) = false := decide_eq_false h2
        have d3 : decide (n ≤ i) = false := decide_eq_false (by omega)
        obtain ⟨i1, hi1⟩ : ∃ i1 : Nat, i = i1 + 1 := ⟨i - 1, by omega⟩
        have hii : (i : Int) - 1 = (i1 : Int) := by omega
        have hin : i < n := by omega
        have hi1n : i1 < n := by omega
        have hinI : (i : Int) < (n : Int) := by omega
        have hi1I : (i1 : Int) < (n : Int) := by omega
        have HI1 : Hid (i = i1 + 1) := hi1
        clear hi1 hiz h1 h2
        obtain ⟨b, off, rfl, hb, hp1, hp2⟩ := hc2 i (by omega)
        obtain ⟨_, _, e0, _, hq1, hq2⟩ := hc2 i1 (by omega)
        cases e0
        by_cases hpr : M.pr T i = M.pr T i1
        · have d4 : (M.pr T i == M.pr T i1) = true := by rw [hpr]; exact beq_self_eq_true _
          obtain ⟨a, ha⟩ : ∃ a, M.pr T i = a := ⟨_, rfl⟩
          obtain ⟨a1, ha1⟩ : ∃ a, M.pr T i1 = a := ⟨_, rfl⟩
          rw [ha] at hp1 d4
          rw [ha1] at hq1 d4
          clear ha ha1 hpr
          go_wp2_with fail
          go_big_quiet (fail)
          go_wp2_with fail
          go_ret
          exact ⟨rfl, bel_drN hC2 _⟩
        · have d4 : (M.pr T i == M.pr T i1) = false := by simpa using hpr
          obtain ⟨a, ha⟩ : ∃ a, M.pr T i = a := ⟨_, rfl⟩
          obtain ⟨a1, ha1⟩ : ∃ a, M.pr T i1 = a := ⟨_, rfl⟩
          obtain ⟨f, hf⟩ : ∃ a, M.fm T i = a := ⟨_, rfl⟩
          rw [ha] at hp1 d4
          rw [ha1] at hq1 d4
          rw [hf] at hp2
          have HPR : Hid (M.pr T i ≠ M.pr T (i - 1)) := by show _ ≠ _; rw [HI1.out] at hpr ⊢; exact hpr
          clear ha ha1 hpr
          by_cases hfe : f = (i1 : Int)
          · have d5 : (f == (i1 : Int)) = true := by rw [hfe]; exact beq_self_eq_true _
            clear hfe hf
            go_wp2_with fail
            go_big_quiet (fail)
            go_wp2_with fail
            go_ret
            exact ⟨rfl, bel_drN hC2 _⟩
          · have d5 : (f == (i1 : Int)) = false := by simpa using hfe
            have HFE : Hid (M.fm T i ≠ (i : Int) - 1) := by show _ ≠ _; rw [hf, hii]; exact hfe
            clear hfe hf
            go_wp2_with fail
            go_big_quiet (fail)
            have hB3 := below_drewN w2 nq
            obtain ⟨w3, hw3⟩ : ∃ w3, w2.drewN nq = w3 := ⟨_, rfl⟩
            rw [hw3] at hB3 ⊢
            have hC3 := bel_on hC2 hB3
            have hb3 := hb2.later hB3 hb2.lt
            have hc3 := hc2.later hB3
            clear hw3 hk1 hk2 hp1 hp2 hq1 hq2 hb1 hb2 hbox hB1 hB2 hB0 hb
            have hk1 := hb3.procs
            have hk2 := hb3.events
            have hbl3 := hb3.lt
            have hu0 : UBox (w3.alloc (.cells #[.int .i64 P, .slice none 0 0] 24)) w3.heap.size P (.slice none 0 0) := World.alloc_heap_new _ _
            have hBu : Below w3.heap.size w3 (w3.alloc (.cells #[.int .i64 P, .slice none 0 0] 24)) := bel_al (Below.refl _ _) _
            go_wp2_with fail
            go_loopw [9] (fun v wr => ∃ (k : Nat) (u : Value), v = .int .i64 k ∧ k ≤ n ∧ UBox wr w3.heap.size P u ∧ wr.ownsRow (w3.heap.size + 1) 33 2 u k (evC (M.swapT T i) k) ∧ Below w3.heap.size w3 wr) (fun v _ => n - (intOf v).toNat)
            case atStart => exact ⟨0, _, rfl, Nat.zero_le _, hu0, World.ownsRow_nil _ _ _ _, hBu⟩
            case round =>
              clear hk1 hk2 hu0 hBu
              obtain ⟨k, u, rfl, hk, hu, hown, hBr⟩ := hrel
              have hbr := hb3.later hBr hb3.lt
              have hk2 := hbr.events
              have hk1 := hbr.procs
              have hc0 := hu.c0
              have hc1 := hu.c1
              have hul := hu.lt
              have hbrl := hbr.lt
              by_cases hlt : k < n
              · obtain ⟨_, _, e0, hb, hp1, hp2⟩ := (hc3.later hBr) i (by omega)
                cases e0
                obtain ⟨_, _, e0, _, hq1, hq2⟩ := (hc3.later hBr) i1 (by omega)
                cases e0
                obtain ⟨_, _, e0, _, hr1, hr2⟩ := (hc3.later hBr) k (by omega)
                cases e0
                obtain ⟨i0, hi0, hz0, hz1, hz2⟩ := info_parts infoEv
                obtain ⟨pi, hpi⟩ : ∃ a, M.pr T i = a := ⟨_, rfl⟩
                obtain ⟨fi, hfi⟩ : ∃ a, M.fm T i = a := ⟨_, rfl⟩
                obtain ⟨pj, hpj⟩ : ∃ a, M.pr T i1 = a := ⟨_, rfl⟩
                obtain ⟨fj, hfj⟩ : ∃ a, M.fm T i1 = a := ⟨_, rfl⟩
                obtain ⟨pk, hpk⟩ : ∃ a, M.pr T k = a := ⟨_, rfl⟩
                obtain ⟨fk, hfk⟩ : ∃ a, M.fm T k = a := ⟨_, rfl⟩
                have HX0 : Hid (M.pr (M.swapT T i) k = M.pr T (M.sw i k)) := M.swapT_pr (by omega)
                have HY0 : Hid (M.fm (M.swapT T i) k = M.swI i (M.fm T (M.sw i k))) := M.swapT_fm (by omega)
                by_cases hki : k = i
                · have d6 : ((k : Int) == (i : Int)) = true := by simp; omega
                  have d7 : ((k : Int) == (i1 : Int)) = false := by simp; have := HI1.out; omega
                  have hsw : M.sw i k = i1 := by unfold M.sw; rw [if_pos hki]; have := HI1.out; omega
                  rw [hsw, hpj] at HX0
                  rw [hsw, hfj] at HY0
                  rw [hpi] at hp1
                  rw [hfi] at hp2
                  rw [hpj] at hq1
                  rw [hfj] at hq2
                  rw [hpk] at hr1
                  rw [hfk] at hr2
                  clear hpi hfi hpj hfj hpk hfk hsw hki
                  by_cases hg1 : fj = (i : Int)
                  · have d8 : (fj == (i : Int)) = true := by rw [hg1]; exact beq_self_eq_true _
                    have HY : Hid (M.fm (M.swapT T i) k = (i1 : Int)) := by show _ = _; rw [HY0.out]; unfold M.swI; rw [if_pos hg1]; exact hii
                    clear hg1 HY0
                    have hown2 := (hown.alloc (.cells #[.int .i64 pj, .int .i64 (i1 : Nat)] 33)).alloc (.cells #[.int .i64 pj, .int .i64 (i1 : Nat)] 33)
                    have hu2 := (hu.alloc (.cells #[.int .i64 pj, .int .i64 (i1 : Nat)] 33)).alloc (.cells #[.int .i64 pj, .int .i64 (i1 : Nat)] 33)
                    have hB2' := bel_al (bel_al hBr (.cells #[.int .i64 pj, .int .i64 (i1 : Nat)] 33)) (.cells #[.int .i64 pj, .int .i64 (i1 : Nat)] 33)
                    have hnews := two_at (w := wr.alloc (.cells #[.int .i64 pj, .int .i64 (i1 : Nat)] 33)) (N := wr.heap.size + 1) (by simp) pj (i1 : Nat) 33
                    have hbs : w3.heap.size + 1 ≤ ((wr.alloc (.cells #[.int .i64 pj, .int .i64 (i1 : Nat)] 33)).alloc (.cells #[.int .i64 pj, .int .i64 (i1 : Nat)] 33)).heap.size := by simp; omega
                    go_wp2_with (at_builtin; refine wpList_append_own _ rfl _ _ 22 rfl (w3.heap.size + 1) 33 i0 (.agg #[.int .i64 0, .int .i64 0]) 2 16 Try.underlying22 hi0 hz0 hz1 hz2 rfl (by decide) _ _ _ rfl hown2 ⟨wr.heap.size + 1, 0, none⟩ 1 1 [.int .i64 pj, .int .i64 (i1 : Nat)] rfl rfl hnews (by simp [Value.oneCell']) (by unfold maxLen; omega) (by omega) hbs ?_; intro v' wv hown' hgrow _; obtain ⟨q', c', rfl⟩ := owns_slice hown'; have hu4 := hu2.kept hgrow (fun e => by have := (hown.lt _ e.symm).1; omega); have hcv := hu4.c1; have hfv := hu4.fr 1)
                    have hu5 := hu4.set1 (.slice q' (k + 1) c')
                    have hown5 := owns_other hown' (a := ⟨w3.heap.size, 1, none⟩) (Nat.lt_succ_self _) (.slice q' (k + 1) c')
                    rw [← evC_succ _ _ HX0.out HY.out] at hown5
                    have hB5 := (hB2'.grown hgrow hB2'.size (fun j e => by have := (hown.lt j e).1; omega)).setCell (p := ⟨w3.heap.size, 1, none⟩) (Nat.le_refl _) (.slice q' (k + 1) c')
                    first | go_roundw | skip
                    case rel => exact ⟨k + 1, _, by go_num, by omega, hu5, hown5, hB5⟩
                    case measure => simp [intOf]; omega
                  · have d8 : (fj == (i : Int)) = false := by simpa using hg1
                    by_cases hg2 : fj = (i1 : Int)
                    · have d9 : (fj == (i1 : Int)) = true := by rw [hg2]; exact beq_self_eq_true _
                      have HY : Hid (M.fm (M.swapT T i) k = (i : Int)) := by show _ = _; rw [HY0.out]; unfold M.swI; rw [if_neg hg1, if_pos (by rw [hii]; exact hg2)]
                      clear hg1 hg2 HY0
                      have hown2 := (hown.alloc (.cells #[.int .i64 pj, .int .i64 (i : Nat)] 33)).alloc (.cells #[.int .i64 pj, .int .i64 (i : Nat)] 33)
                      have hu2 := (hu.alloc (.cells #[.int .i64 pj, .int .i64 (i : Nat)] 33)).alloc (.cells #[.int .i64 pj, .int .i64 (i : Nat)] 33)
                      have hB2' := bel_al (bel_al hBr (.cells #[.int .i64 pj, .int .i64 (i : Nat)] 33)) (.cells #[.int .i64 pj, .int .i64 (i : Nat)] 33)
                      have hnews := two_at (w := wr.alloc (.cells #[.int .i64 pj, .int .i64 (i : Nat)] 33)) (N := wr.heap.size + 1) (by simp) pj (i : Nat) 33
                      have hbs : w3.heap.size + 1 ≤ ((wr.alloc (.cells #[.int .i64 pj, .int .i64 (i : Nat)] 33)).alloc (.cells #[.int .i64 pj, .int .i64 (i : Nat)] 33)).heap.size := by simp; omega
                      go_wp2_with (at_builtin; refine wpList_append_own _ rfl _ _ 22 rfl (w3.heap.size + 1) 33 i0 (.agg #[.int .i64 0, .int .i64 0]) 2 16 Try.underlying22 hi0 hz0 hz1 hz2 rfl (by decide) _ _ _ rfl hown2 ⟨wr.heap.size + 1, 0, none⟩ 1 1 [.int .i64 pj, .int .i64 (i : Nat)] rfl rfl hnews (by simp [Value.oneCell']) (by unfold maxLen; omega) (by omega) hbs ?_; intro v' wv hown' hgrow _; obtain ⟨q', c', rfl⟩ := owns_slice hown'; have hu4 := hu2.kept hgrow (fun e => by have := (hown.lt _ e.symm).1; omega); have hcv := hu4.c1; have hfv := hu4.fr 1)
                      have hu5 := hu4.set1 (.slice q' (k + 1) c')
                      have hown5 := owns_other hown' (a := ⟨w3.heap.size, 1, none⟩) (Nat.lt_succ_self _) (.slice q' (k + 1) c')
                      rw [← evC_succ _ _ HX0.out HY.out] at hown5
                      have hB5 := (hB2'.grown hgrow hB2'.size (fun j e => by have := (hown.lt j e).1; omega)).setCell (p := ⟨w3.heap.size, 1, none⟩) (Nat.le_refl _) (.slice q' (k + 1) c')
                      first | go_roundw | skip
                      case rel => exact ⟨k + 1, _, by go_num, by omega, hu5, hown5, hB5⟩
                      case measure => simp [intOf]; omega
                    · have d9 : (fj == (i1 : Int)) = false := by simpa using hg2
                      have HY : Hid (M.fm (M.swapT T i) k = fj) := by show _ = _; rw [HY0.out]; unfold M.swI; rw [if_neg hg1, if_neg (by rw [hii]; exact hg2)]
                      clear hg1 hg2 HY0
                      have hown2 := (hown.alloc (.cells #[.int .i64 pj, .int .i64 fj] 33)).alloc (.cells #[.int .i64 pj, .int .i64 fj] 33)
                      have hu2 := (hu.alloc (.cells #[.int .i64 pj, .int .i64 fj] 33)).alloc (.cells #[.int .i64 pj, .int .i64 fj] 33)
                      have hB2' := bel_al (bel_al hBr (.cells #[.int .i64 pj, .int .i64 fj] 33)) (.cells #[.int .i64 pj, .int .i64 fj] 33)
                      have hnews := two_at (w := wr.alloc (.cells #[.int .i64 pj, .int .i64 fj] 33)) (N := wr.heap.size + 1) (by simp) pj fj 33
                      have hbs : w3.heap.size + 1 ≤ ((wr.alloc (.cells #[.int .i64 pj, .int .i64 fj] 33)).alloc (.cells #[.int .i64 pj, .int .i64 fj] 33)).heap.size := by simp; omega
                      go_wp2_with (at_builtin; refine wpList_append_own _ rfl _ _ 22 rfl (w3.heap.size + 1) 33 i0 (.agg #[.int .i64 0, .int .i64 0]) 2 16 Try.underlying22 hi0 hz0 hz1 hz2 rfl (by decide) _ _ _ rfl hown2 ⟨wr.heap.size + 1, 0, none⟩ 1 1 [.int .i64 pj, .int .i64 fj] rfl rfl hnews (by simp [Value.oneCell']) (by unfold maxLen; omega) (by omega) hbs ?_; intro v' wv hown' hgrow _; obtain ⟨q', c', rfl⟩ := owns_slice hown'; have hu4 := hu2.kept hgrow (fun e => by have := (hown.lt _ e.symm).1; omega); have hcv := hu4.c1; have hfv := hu4.fr 1)
                      have hu5 := hu4.set1 (.slice q' (k + 1) c')
                      have hown5 := owns_other hown' (a := ⟨w3.heap.size, 1, none⟩) (Nat.lt_succ_self _) (.slice q' (k + 1) c')
                      rw [← evC_succ _ _ HX0.out HY.out] at hown5
                      have hB5 := (hB2'.grown hgrow hB2'.size (fun j e => by have := (hown.lt j e).1; omega)).setCell (p := ⟨w3.heap.size, 1, none⟩) (Nat.le_refl _) (.slice q' (k + 1) c')
                      first | go_roundw | skip
                      case rel => exact ⟨k + 1, _, by go_num, by omega, hu5, hown5, hB5⟩
                      case measure => simp [intOf]; omega
                · have d6 : ((k : Int) == (i : Int)) = false := by simp; omega
                  by_cases hk1' : k = i1
                  · have d7 : ((k : Int) == (i1 : Int)) = true := by simp; omega
                    have hsw : M.sw i k = i := by unfold M.sw; rw [if_neg hki, if_pos (by have := HI1.out; omega)]
                    rw [hsw, hpi] at HX0
                    rw [hsw, hfi] at HY0
                    rw [hpi] at hp1
                    rw [hfi] at hp2
                    rw [hpj] at hq1
                    rw [hfj] at hq2
                    rw [hpk] at hr1
                    rw [hfk] at hr2
                    clear hpi hfi hpj hfj hpk hfk hsw hki hk1'
                    by_cases hg1 : fi = (i : Int)
                    · have d8 : (fi == (i : Int)) = true := by rw [hg1]; exact beq_self_eq_true _
                      have HY : Hid (M.fm (M.swapT T i) k = (i1 : Int)) := by show _ = _; rw [HY0.out]; unfold M.swI; rw [if_pos hg1]; exact hii
                      clear hg1 HY0
                      have hown2 := (hown.alloc (.cells #[.int .i64 pi, .int .i64 (i1 : Nat)] 33)).alloc (.cells #[.int .i64 pi, .int .i64 (i1 : Nat)] 33)
                      have hu2 := (hu.alloc (.cells #[.int .i64 pi, .int .i64 (i1 : Nat)] 33)).alloc (.cells #[.int .i64 pi, .int .i64 (i1 : Nat)] 33)
                      have hB2' := bel_al (bel_al hBr (.cells #[.int .i64 pi, .int .i64 (i1 : Nat)] 33)) (.cells #[.int .i64 pi, .int .i64 (i1 : Nat)] 33)
                      have hnews := two_at (w := wr.alloc (.cells #[.int .i64 pi, .int .i64 (i1 : Nat)] 33)) (N := wr.heap.size + 1) (by simp) pi (i1 : Nat) 33
                      have hbs : w3.heap.size + 1 ≤ ((wr.alloc (.cells #[.int .i64 pi, .int .i64 (i1 : Nat)] 33)).alloc (.cells #[.int .i64 pi, .int .i64 (i1 : Nat)] 33)).heap.size := by simp; omega
                      go_wp2_with (at_builtin; refine wpList_append_own _ rfl _ _ 22 rfl (w3.heap.size + 1) 33 i0 (.agg #[.int .i64 0, .int .i64 0]) 2 16 Try.underlying22 hi0 hz0 hz1 hz2 rfl (by decide) _ _ _ rfl hown2 ⟨wr.heap.size + 1, 0, none⟩ 1 1 [.int .i64 pi, .int .i64 (i1 : Nat)] rfl rfl hnews (by simp [Value.oneCell']) (by unfold maxLen; omega) (by omega) hbs ?_; intro v' wv hown' hgrow _; obtain ⟨q', c', rfl⟩ := owns_slice hown'; have hu4 := hu2.kept hgrow (fun e => by have := (hown.lt _ e.symm).1; omega); have hcv := hu4.c1; have hfv := hu4.fr 1)
                      have hu5 := hu4.set1 (.slice q' (k + 1) c')
                      have hown5 := owns_other hown' (a := ⟨w3.heap.size, 1, none⟩) (Nat.lt_succ_self _) (.slice q' (k + 1) c')
                      rw [← evC_succ _ _ HX0.out HY.out] at hown5
                      have hB5 := (hB2'.grown hgrow hB2'.size (fun j e => by have := (hown.lt j e).1; omega)).setCell (p := ⟨w3.heap.size, 1, none⟩) (Nat.le_refl _) (.slice q' (k + 1) c')
                      first | go_roundw | skip
                      case rel => exact ⟨k + 1, _, by go_num, by omega, hu5, hown5, hB5⟩
                      case measure => simp [intOf]; omega
                    · have d8 : (fi == (i : Int)) = false := by simpa using hg1
                      by_cases hg2 : fi = (i1 : Int)
                      · have d9 : (fi == (i1 : Int)) = true := by rw [hg2]; exact beq_self_eq_true _
                        have HY : Hid (M.fm (M.swapT T i) k = (i : Int)) := by show _ = _; rw [HY0.out]; unfold M.swI; rw [if_neg hg1, if_pos (by rw [hii]; exact hg2)]
                        clear hg1 hg2 HY0
                        have hown2 := (hown.alloc (.cells #[.int .i64 pi, .int .i64 (i : Nat)] 33)).alloc (.cells #[.int .i64 pi, .int .i64 (i : Nat)] 33)
                        have hu2 := (hu.alloc (.cells #[.int .i64 pi, .int .i64 (i : Nat)] 33)).alloc (.cells #[.int .i64 pi, .int .i64 (i : Nat)] 33)
                        have hB2' := bel_al (bel_al hBr (.cells #[.int .i64 pi, .int .i64 (i : Nat)] 33)) (.cells #[.int .i64 pi, .int .i64 (i : Nat)] 33)
                        have hnews := two_at (w := wr.alloc (.cells #[.int .i64 pi, .int .i64 (i : Nat)] 33)) (N := wr.heap.size + 1) (by simp) pi (i : Nat) 33
                        have hbs : w3.heap.size + 1 ≤ ((wr.alloc (.cells #[.int .i64 pi, .int .i64 (i : Nat)] 33)).alloc (.cells #[.int .i64 pi, .int .i64 (i : Nat)] 33)).heap.size := by simp; omega
                        go_wp2_with (at_builtin; refine wpList_append_own _ rfl _ _ 22 rfl (w3.heap.size + 1) 33 i0 (.agg #[.int .i64 0, .int .i64 0]) 2 16 Try.underlying22 hi0 hz0 hz1 hz2 rfl (by decide) _ _ _ rfl hown2 ⟨wr.heap.size + 1, 0, none⟩ 1 1 [.int .i64 pi, .int .i64 (i : Nat)] rfl rfl hnews (by simp [Value.oneCell']) (by unfold maxLen; omega) (by omega) hbs ?_; intro v' wv hown' hgrow _; obtain ⟨q', c', rfl⟩ := owns_slice hown'; have hu4 := hu2.kept hgrow (fun e => by have := (hown.lt _ e.symm).1; omega); have hcv := hu4.c1; have hfv := hu4.fr 1)
                        have hu5 := hu4.set1 (.slice q' (k + 1) c')
                        have hown5 := owns_other hown' (a := ⟨w3.heap.size, 1, none⟩) (Nat.lt_succ_self _) (.slice q' (k + 1) c')
                        rw [← evC_succ _ _ HX0.out HY.out] at hown5
                        have hB5 := (hB2'.grown hgrow hB2'.size (fun j e => by have := (hown.lt j e).1; omega)).setCell (p := ⟨w3.heap.size, 1, none⟩) (Nat.le_refl _) (.slice q' (k + 1) c')
                        first | go_roundw | skip
                        case rel => exact ⟨k + 1, _, by go_num, by omega, hu5, hown5, hB5⟩
                        case measure => simp [intOf]; omega
                      · have d9 : (fi == (i1 : Int)) = false := by simpa using hg2
                        have HY : Hid (M.fm (M.swapT T i) k = fi) := by show _ = _; rw [HY0.out]; unfold M.swI; rw [if_neg hg1, if_neg (by rw [hii]; exact hg2)]
                        clear hg1 hg2 HY0
                        have hown2 := (hown.alloc (.cells #[.int .i64 pi, .int .i64 fi] 33)).alloc (.cells #[.int .i64 pi, .int .i64 fi] 33)
                        have hu2 := (hu.alloc (.cells #[.int .i64 pi, .int .i64 fi] 33)).alloc (.cells #[.int .i64 pi, .int .i64 fi] 33)
                        have hB2' := bel_al (bel_al hBr (.cells #[.int .i64 pi, .int .i64 fi] 33)) (.cells #[.int .i64 pi, .int .i64 fi] 33)
                        have hnews := two_at (w := wr.alloc (.cells #[.int .i64 pi, .int .i64 fi] 33)) (N := wr.heap.size + 1) (by simp) pi fi 33
                        have hbs : w3.heap.size + 1 ≤ ((wr.alloc (.cells #[.int .i64 pi, .int .i64 fi] 33)).alloc (.cells #[.int .i64 pi, .int .i64 fi] 33)).heap.size := by simp; omega
                        go_wp2_with (at_builtin; refine wpList_append_own _ rfl _ _ 22 rfl (w3.heap.size + 1) 33 i0 (.agg #[.int .i64 0, .int .i64 0]) 2 16 Try.underlying22 hi0 hz0 hz1 hz2 rfl (by decide) _ _ _ rfl hown2 ⟨wr.heap.size + 1, 0, none⟩ 1 1 [.int .i64 pi, .int .i64 fi] rfl rfl hnews (by simp [Value.oneCell']) (by unfold maxLen; omega) (by omega) hbs ?_; intro v' wv hown' hgrow _; obtain ⟨q', c', rfl⟩ := owns_slice hown'; have hu4 := hu2.kept hgrow (fun e => by have := (hown.lt _ e.symm).1; omega); have hcv := hu4.c1; have hfv := hu4.fr 1)
                        have hu5 := hu4.set1 (.slice q' (k + 1) c')
                        have hown5 := owns_other hown' (a := ⟨w3.heap.size, 1, none⟩) (Nat.lt_succ_self _) (.slice q' (k + 1) c')
                        rw [← evC_succ _ _ HX0.out HY.out] at hown5
                        have hB5 := (hB2'.grown hgrow hB2'.size (fun j e => by have := (hown.lt j e).1; omega)).setCell (p := ⟨w3.heap.size, 1, none⟩) (Nat.le_refl _) (.slice q' (k + 1) c')
                        first | go_roundw | skip
                        case rel => exact ⟨k + 1, _, by go_num, by omega, hu5, hown5, hB5⟩
                        case measure => simp [intOf]; omega
                  · have d7 : ((k : Int) == (i1 : Int)) = false := by simp; omega
                    have hsw : M.sw i k = k := by unfold M.sw; rw [if_neg hki, if_neg (by have := HI1.out; omega)]
                    rw [hsw, hpk] at HX0
                    rw [hsw, hfk] at HY0
                    rw [hpi] at hp1
                    rw [hfi] at hp2
                    rw [hpj] at hq1
                    rw [hfj] at hq2
                    rw [hpk] at hr1
                    rw [hfk] at hr2
                    clear hpi hfi hpj hfj hpk hfk hsw hki hk1'
                    by_cases hg1 : fk = (i : Int)
                    · have d8 : (fk == (i : Int)) = true := by rw [hg1]; exact beq_self_eq_true _
                      have HY : Hid (M.fm (M.swapT T i) k = (i1 : Int)) := by show _ = _; rw [HY0.out]; unfold M.swI; rw [if_pos hg1]; exact hii
                      clear hg1 HY0
                      have hown2 := (hown.alloc (.cells #[.int .i64 pk, .int .i64 (i1 : Nat)] 33)).alloc (.cells #[.int .i64 pk, .int .i64 (i1 : Nat)] 33)
                      have hu2 := (hu.alloc (.cells #[.int .i64 pk, .int .i64 (i1 : Nat)] 33)).alloc (.cells #[.int .i64 pk, .int .i64 (i1 : Nat)] 33)
                      have hB2' := bel_al (bel_al hBr (.cells #[.int .i64 pk, .int .i64 (i1 : Nat)] 33)) (.cells #[.int .i64 pk, .int .i64 (i1 : Nat)] 33)
                      have hnews := two_at (w := wr.alloc (.cells #[.int .i64 pk, .int .i64 (i1 : Nat)] 33)) (N := wr.heap.size + 1) (by simp) pk (i1 : Nat) 33
                      have hbs : w3.heap.size + 1 ≤ ((wr.alloc (.cells #[.int .i64 pk, .int .i64 (i1 : Nat)] 33)).alloc (.cells #[.int .i64 pk, .int .i64 (i1 : Nat)] 33)).heap.size := by simp; omega
                      go_wp2_with (at_builtin; refine wpList_append_own _ rfl _ _ 22 rfl (w3.heap.size + 1) 33 i0 (.agg #[.int .i64 0, .int .i64 0]) 2 16 Try.underlying22 hi0 hz0 hz1 hz2 rfl (by decide) _ _ _ rfl hown2 ⟨wr.heap.size + 1, 0, none⟩ 1 1 [.int .i64 pk, .int .i64 (i1 : Nat)] rfl rfl hnews (by simp [Value.oneCell']) (by unfold maxLen; omega) (by omega) hbs ?_; intro v' wv hown' hgrow _; obtain ⟨q', c', rfl⟩ := owns_slice hown'; have hu4 := hu2.kept hgrow (fun e => by have := (hown.lt _ e.symm).1; omega); have hcv := hu4.c1; have hfv := hu4.fr 1)
                      have hu5 := hu4.set1 (.slice q' (k + 1) c')
                      have hown5 := owns_other hown' (a := ⟨w3.heap.size, 1, none⟩) (Nat.lt_succ_self _) (.slice q' (k + 1) c')
                      rw [← evC_succ _ _ HX0.out HY.out] at hown5
                      have hB5 := (hB2'.grown hgrow hB2'.size (fun j e => by have := (hown.lt j e).1; omega)).setCell (p := ⟨w3.heap.size, 1, none⟩) (Nat.le_refl _) (.slice q' (k + 1) c')
                      first | go_roundw | skip
                      case rel => exact ⟨k + 1, _, by go_num, by omega, hu5, hown5, hB5⟩
                      case measure => simp [intOf]; omega
                    · have d8 : (fk == (i : Int)) = false := by simpa using hg1
                      by_cases hg2 : fk = (i1 : Int)
                      · have d9 : (fk == (i1 : Int)) = true := by rw [hg2]; exact beq_self_eq_true _
                        have HY : Hid (M.fm (M.swapT T i) k = (i : Int)) := by show _ = _; rw [HY0.out]; unfold M.swI; rw [if_neg hg1, if_pos (by rw [hii]; exact hg2)]
                        clear hg1 hg2 HY0
                        have hown2 := (hown.alloc (.cells #[.int .i64 pk, .int .i64 (i : Nat)] 33)).alloc (.cells #[.int .i64 pk, .int .i64 (i : Nat)] 33)
                        have hu2 := (hu.alloc (.cells #[.int .i64 pk, .int .i64 (i : Nat)] 33)).alloc (.cells #[.int .i64 pk, .int .i64 (i : Nat)] 33)
                        have hB2' := bel_al (bel_al hBr (.cells #[.int .i64 pk, .int .i64 (i : Nat)] 33)) (.cells #[.int .i64 pk, .int .i64 (i : Nat)] 33)
                        have hnews := two_at (w := wr.alloc (.cells #[.int .i64 pk, .int .i64 (i : Nat)] 33)) (N := wr.heap.size + 1) (by simp) pk (i : Nat) 33
                        have hbs : w3.heap.size + 1 ≤ ((wr.alloc (.cells #[.int .i64 pk, .int .i64 (i : Nat)] 33)).alloc (.cells #[.int .i64 pk, .int .i64 (i : Nat)] 33)).heap.size := by simp; omega
                        go_wp2_with (at_builtin; refine wpList_append_own _ rfl _ _ 22 rfl (w3.heap.size + 1) 33 i0 (.agg #[.int .i64 0, .int .i64 0]) 2 16 Try.underlying22 hi0 hz0 hz1 hz2 rfl (by decide) _ _ _ rfl hown2 ⟨wr.heap.size + 1, 0, none⟩ 1 1 [.int .i64 pk, .int .i64 (i : Nat)] rfl rfl hnews (by simp [Value.oneCell']) (by unfold maxLen; omega) (by omega) hbs ?_; intro v' wv hown' hgrow _; obtain ⟨q', c', rfl⟩ := owns_slice hown'; have hu4 := hu2.kept hgrow (fun e => by have := (hown.lt _ e.symm).1; omega); have hcv := hu4.c1; have hfv := hu4.fr 1)
                        have hu5 := hu4.set1 (.slice q' (k + 1) c')
                        have hown5 := owns_other hown' (a := ⟨w3.heap.size, 1, none⟩) (Nat.lt_succ_self _) (.slice q' (k + 1) c')
                        rw [← evC_succ _ _ HX0.out HY.out] at hown5
                        have hB5 := (hB2'.grown hgrow hB2'.size (fun j e => by have := (hown.lt j e).1; omega)).setCell (p := ⟨w3.heap.size, 1, none⟩) (Nat.le_refl _) (.slice q' (k + 1) c')
                        first | go_roundw | skip
                        case rel => exact ⟨k + 1, _, by go_num, by omega, hu5, hown5, hB5⟩
                        case measure => simp [intOf]; omega
                      · have d9 : (fk == (i1 : Int)) = false := by simpa using hg2
                        have HY : Hid (M.fm (M.swapT T i) k = fk) := by show _ = _; rw [HY0.out]; unfold M.swI; rw [if_neg hg1, if_neg (by rw [hii]; exact hg2)]
                        clear hg1 hg2 HY0
                        have hown2 := (hown.alloc (.cells #[.int .i64 pk, .int .i64 fk] 33)).alloc (.cells #[.int .i64 pk, .int .i64 fk] 33)
                        have hu2 := (hu.alloc (.cells #[.int .i64 pk, .int .i64 fk] 33)).alloc (.cells #[.int .i64 pk, .int .i64 fk] 33)
                        have hB2' := bel_al (bel_al hBr (.cells #[.int .i64 pk, .int .i64 fk] 33)) (.cells #[.int .i64 pk, .int .i64 fk] 33)
                        have hnews := two_at (w := wr.alloc (.cells #[.int .i64 pk, .int .i64 fk] 33)) (N := wr.heap.size + 1) (by simp) pk fk 33
                        have hbs : w3.heap.size + 1 ≤ ((wr.alloc (.cells #[.int .i64 pk, .int .i64 fk] 33)).alloc (.cells #[.int .i64 pk, .int .i64 fk] 33)).heap.size := by simp; omega
                        go_wp2_with (at_builtin; refine wpList_append_own _ rfl _ _ 22 rfl (w3.heap.size + 1) 33 i0 (.agg #[.int .i64 0, .int .i64 0]) 2 16 Try.underlying22 hi0 hz0 hz1 hz2 rfl (by decide) _ _ _ rfl hown2 ⟨wr.heap.size + 1, 0, none⟩ 1 1 [.int .i64 pk, .int .i64 fk] rfl rfl hnews (by simp [Value.oneCell']) (by unfold maxLen; omega) (by omega) hbs ?_; intro v' wv hown' hgrow _; obtain ⟨q', c', rfl⟩ := owns_slice hown'; have hu4 := hu2.kept hgrow (fun e => by have := (hown.lt _ e.symm).1; omega); have hcv := hu4.c1; have hfv := hu4.fr 1)
                        have hu5 := hu4.set1 (.slice q' (k + 1) c')
                        have hown5 := owns_other hown' (a := ⟨w3.heap.size, 1, none⟩) (Nat.lt_succ_self _) (.slice q' (k + 1) c')
                        rw [← evC_succ _ _ HX0.out HY.out] at hown5
                        have hB5 := (hB2'.grown hgrow hB2'.size (fun j e => by have := (hown.lt j e).1; omega)).setCell (p := ⟨w3.heap.size, 1, none⟩) (Nat.le_refl _) (.slice q' (k + 1) c')
                        first | go_roundw | skip
                        case rel => exact ⟨k + 1, _, by go_num, by omega, hu5, hown5, hB5⟩
                        case measure => simp [intOf]; omega
              · obtain rfl : k = n := by omega
                obtain ⟨pu, cu, rfl, hcu⟩ := hasE_of_owns (by rw [M.swapT_length, hl]) hown
                have hok2 := M.swapT_ok hok (i := i) (by omega) (by omega) HFE.out
                have hs := M.same_swap hok (i := i) (by omega) (by omega) HPR.out
                have h9 := M.tcode_zero.2 hok2
                have hcr := hc3.later hBr
                have hCr := bel_on hC3 hBr
                have hls : (M.swapT T i).length = k := by rw [M.swapT_length, hl]
                go_wp2_with fail
                refine (same_ok P P T (M.swapT T i) _ pu k k cap cu _ hl hls hmax hmax hcr hcu h0 h9).mono ?_
                rw [hs.1]
                rintro e w4 ⟨rfl, hB4⟩
                have hu4 := hu.below hB4 hu.lt
                have hbr4 := hbr.later hB4 hbr.lt
                have hj1 := hbr4.procs
                have hj2 := hbr4.events
                have hj3 := hu4.c0
                have hj4 := hu4.c1
                clear hk1 hk2 hc0 hc1
                go_wp2_with fail
                refine (same_ok P P (M.swapT T i) T pu _ k k cu cap _ hls hl hmax hmax (hcu.later hB4) (hcr.later hB4) h9 h0).mono ?_
                rw [hs.2]
                rintro e w5 ⟨rfl, hB5⟩
                go_wp2_with fail
                go_ret
                exact ⟨rfl, bel_on (bel_on hCr hB4) hB5⟩
  · refine (same_err1 P P T p p n n cap cap _ _ hl hmax (hc.later hC1) rfl h0).mono ?_
    rintro e w2 ⟨rfl, hB2⟩
    go_wp2_with fail
    go_ret
    exact ⟨rfl, bel_on hC1 hB2⟩
end Go.Proofs.Ytnofgmbpkgnciaa
