/- The document's own count of whole cuts (package whensteadref2, Cuts, which calls itself): how many go on from a told list; what lay in memory lies as it lay. -/
import Derived.Test.YtlhpkpjcfjdgaaaDoorRefCt3
import Derived.Test.YtlhpkpjcfjdgaaaDoorRefCt1
import Derived.Test.YtlhpkpjcfjdgaaaDoorAppAny
import Derived.Deep.RegionHeldLaw
import Derived.Deep.AppendLies
import Derived.Deep.CutRange
namespace Go.Proofs.YtlhpkpjcfjdgaaaDoor
open Go.RowKit
namespace M
/-- how many whole cuts go on from c by one of the first k numbers -/
def ctsTo (T : List (Int × Int)) (d : Nat) (c : List Nat) (k : Nat) : Nat := ((List.range k).map fun j => cts T d (c ++ [j])).sum
theorem ctsTo_succ (T : List (Int × Int)) (d : Nat) (c : List Nat) (k : Nat) : ctsTo T d c (k + 1) = ctsTo T d c k + cts T d (c ++ [k]) := by
  unfold ctsTo
  rw [List.range_succ, List.map_append, List.sum_append_nat]
  simp
theorem cts_bound {T : List (Int × Int)} (hn : T.length ≤ 24) (d : Nat) : ∀ c, cts T d c ≤ 25 ^ d := by
  induction d with
  | zero => intro c; simp only [cts]; split <;> simp
  | succ d ih =>
    intro c
    have h : ∀ k, ctsTo T d c k ≤ k * 25 ^ d := fun k => by
      induction k with
      | zero => simp [ctsTo]
      | succ k ihk => rw [ctsTo_succ, Nat.succ_mul]; exact Nat.add_le_add ihk (ih _)
    have h2 := h (evn T c.length T.length + 1)
    have h3 := evn_le T c.length T.length
    rw [Nat.pow_succ, Nat.mul_comm]
    exact Nat.le_trans h2 (Nat.mul_le_mul (by omega) (Nat.le_refl _))
theorem ctsTo_bound {T : List (Int × Int)} (hn : T.length ≤ 24) (d : Nat) (c : List Nat) (k : Nat) : ctsTo T d c k ≤ k * 25 ^ d := by
  induction k with
  | zero => simp [ctsTo]
  | succ k ih => rw [ctsTo_succ, Nat.succ_mul]; exact Nat.add_le_add ih (cts_bound hn d _)
end M
theorem icells_len (c : List Nat) : (icells c).length = c.length := by simp [icells]
theorem icells_one (c : List Nat) : ∀ u ∈ icells c, u.oneCell' = true := by
  intro u hu
  obtain ⟨x, _, rfl⟩ := List.mem_map.1 hu
  rfl
theorem hasI_cells {c : List Nat} {q : Option Addr} {w : World} (h : HasI (ints c) q w) : ∀ ad, q = some ad → ∀ j u, (icells c)[j]? = some u → w.cell? (ad.add j) = some u := by
  intro ad e j u hu
  have hj : j < c.length := by
    have := (List.getElem?_eq_some_iff.1 hu).1
    rwa [icells_len] at this
  obtain ⟨b, off, e2, _, hc⟩ := hasI_nat h hj rfl
  rw [e] at e2
  cases e2
  have : u = .int .i64 (M.row c j : Nat) := by
    unfold icells at hu
    rw [List.getElem?_map, List.getElem?_eq_getElem hj] at hu
    unfold M.row
    rw [List.getElem?_eq_getElem hj]
    exact (Option.some.inj hu).symm
  rw [this]
  rw [Addr.add_lit]
  exact hc
set_option maxRecDepth 100000 in
set_option maxHeartbeats 1500000 in
theorem refCuts_ok (P : Nat) (T : List (Int × Int)) (p : Option Addr) (n cap : Nat) (hl : T.length = n) (hok : M.TOk (P : Nat) T) : ∀ (d : Nat) (c : List Nat) (q : Option Addr) (m cap2 : Nat) (w : World), m + d = P → HasE T p w → c.length = m → HasI (ints c) q w → (q = none → m = 0 ∧ cap2 = 0) →
    Calls Tryd.prog 10 #[trV (P : Nat) p n cap, .slice q m cap2] w fun e w' => e = .returned (.int .i64 (M.cts T d c : Nat)) ∧ Below w.heap.size w w' := by
  have hn : n ≤ 24 := hl ▸ hok.len
  have hP5 : P ≤ 5 := by have := hok.p5; omega
  obtain ⟨i0, hi0, hz0, hz1, hz2⟩ := info_parts infoInt
  intro d
  induction d with
  | zero =>
    intro c q m cap2 w hmd hc hlc hz hnil
    obtain rfl : m = P := by omega
    obtain ⟨wa, hwa⟩ : ∃ wa, w.alloc (.cells #[.int .i64 (m : Nat), .slice p n cap] 24) = wa := ⟨_, rfl⟩
    have ta : TBox wa w.heap.size (m : Nat) p n cap := hwa ▸ tbox_new w (m : Nat) p n cap
    have hBa : Below w.heap.size w wa := by rw [← hwa]; exact bel_al (Below.refl _ _) _
    have k0 := ta.procs
    have k1 := ta.events
    have kl := ta.lt
    go_enter Tryd.func10, Tryd.ntmps10
    go_wp2_with fail
    clear hwa k0 k1 kl
    refine (refWhole_ok (m : Nat) T p n cap c q m cap2 _ hl (hc.later hBa) hlc (hz.later hBa) hok (by omega)).mono ?_
    have hcz : M.cts T 0 c = if M.whB T c = true then 1 else 0 := rfl
    cases hwh : M.whB T c with
    | true =>
      rw [hwh, if_pos rfl] at hcz
      rintro e w1 ⟨rfl, hB1⟩
      have HC : Hid (Below _ _ _) := bel_on hBa hB1
      have HZ : Hid (M.cts T 0 c = 1) := hcz
      clear hBa hB1 hcz ta
      go_wp2_with fail
      go_ret
      exact ⟨by rw [HZ.out]; rfl, HC.out⟩
    | false =>
      rw [hwh, if_neg (by simp)] at hcz
      rintro e w1 ⟨rfl, hB1⟩
      have HC : Hid (Below _ _ _) := bel_on hBa hB1
      have HZ : Hid (M.cts T 0 c = 0) := hcz
      clear hBa hB1 hcz ta
      go_wp2_with fail
      go_ret
      exact ⟨by rw [HZ.out]; rfl, HC.out⟩
  | succ d ih =>
    intro c q m cap2 w hmd hc hlc hz hnil
    have hmP : m < P := by omega
    obtain ⟨wa, hwa⟩ : ∃ wa, w.alloc (.cells #[.int .i64 (P : Nat), .slice p n cap] 24) = wa := ⟨_, rfl⟩
    have ta : TBox wa w.heap.size (P : Nat) p n cap := hwa ▸ tbox_new w (P : Nat) p n cap
    have hBa : Below w.heap.size w wa := by rw [← hwa]; exact bel_al (Below.refl _ _) _
    have hca := hc.later hBa
    have hza := hz.later hBa
    have k0 := ta.procs
    have k1 := ta.events
    have kl := ta.lt
    have hoe := M.ofs_evn' T m n
    have hel := M.evn_le T m n
    have hcs : M.cts T (d + 1) c = M.ctsTo T d c (M.evn T m n + 1) := by
      show ((List.range (M.evn T c.length T.length + 1)).map fun k => M.cts T d (c ++ [k])).sum = _
      rw [hlc, hl]; rfl
    obtain ⟨ev, hev⟩ : ∃ ev, M.evn T m n = ev := ⟨_, rfl⟩
    rw [hev] at hoe hel hcs
    have HCS : Hid (M.cts T (d + 1) c = M.ctsTo T d c (ev + 1)) := hcs
    have hmP1 : ((m : Int) == (P : Int)) = false := by simp; omega
    have hmP2 : (m == P) = false := by simp; omega
    have hOf : ∀ W, Below wa.heap.size wa W → Calls Tryd.prog 39 #[trV (P : Nat) p n cap, .int .i64 (m : Nat)] W fun e w' => ∃ q c, e = .returned (.slice q ev c) ∧ Below W.heap.size W w' := fun W hW => by
      refine (refOf_ok (P : Nat) (m : Nat) T p n cap W hl (hca.later hW) hn).mono ?_
      rw [hoe]
      rintro e w4 ⟨q4, c4, h1, -, h3⟩
      exact ⟨q4, c4, h1, h3⟩
    clear hev hcs hoe
    go_enter Tryd.func10, Tryd.ntmps10
    go_wp2_with fail
    clear hwa k0 k1 kl
    go_loopw [6, 7] (fun u v wr => ∃ k : Nat, v = .int .i64 k ∧ u = .int .i64 (M.ctsTo T d c k : Nat) ∧ k ≤ ev + 1 ∧ Below wa.heap.size wa wr) (fun _ v _ => ev + 1 - (intOf v).toNat)
    case atStart => exact ⟨0, rfl, rfl, Nat.zero_le _, Below.refl _ _⟩
    case round =>
      obtain ⟨k, rfl, rfl, hk, hB⟩ := hrel
      have t2 := ta.later hB ta.lt
      have k0 := t2.procs
      have k1 := t2.events
      have kl := t2.lt
      have hbd := M.ctsTo_bound (T := T) (by omega) d c k
      have hcb := M.cts_bound (T := T) (by omega) d (c ++ [k])
      have hpw : 25 ^ d ≤ 390625 := Nat.le_trans (Nat.pow_le_pow_right (by omega) (show d ≤ 4 by omega)) (by decide)
      have hbd2 : M.ctsTo T d c k ≤ 25 * 390625 := Nat.le_trans hbd (Nat.mul_le_mul (by omega) hpw)
      have hnx := M.ctsTo_succ T d c k
      obtain ⟨s, hs⟩ : ∃ s, M.ctsTo T d c k = s := ⟨_, rfl⟩
      rw [hs] at hbd2 hnx ⊢
      by_cases hlt : k ≤ ev
      · have f1 : decide ((k : Int) ≤ (ev : Int)) = true := decide_eq_true (by omega)
        have f2 : decide (k ≤ ev) = true := decide_eq_true hlt
        obtain ⟨r, hr⟩ : ∃ r, M.cts T d (c ++ [k]) = r := ⟨_, rfl⟩
        rw [hr] at hcb hnx
        obtain ⟨s2, hs2⟩ : ∃ s2, s + r = s2 := ⟨_, rfl⟩
        rw [hs2] at hnx
        have HN : Hid (M.ctsTo T d c (k + 1) = s2) := hnx
        have hsr : (s : Int) + (r : Int) = (s2 : Int) := by omega
        have hwr : IntKind.i64.wrap ((s2 : Nat) : Int) = (s2 : Int) := i64_wrap_nat s2 (by omega)
        have HR : Hid (M.cts T d (c ++ [k]) = r) := hr
        clear hnx hr hs hbd hs2
        go_wp2_with fail
        refine (hOf _ hB).mono ?_
        rintro e w3 ⟨q3, c3, rfl, hB3⟩
        have hB4 := bel_on hB hB3
        have t3 := t2.later hB3 t2.lt
        have hz3 := hza.later hB4
        have hc3 := hca.later hB4
        clear k0 k1 kl t2 hB3 hB
        go_wp2_with (at_builtin; refine wpList_append_ownAny _ rfl _ _ 25 rfl w3.heap.size 3 i0 (.int .i64 0) 1 8 Tryd.underlying25 hi0 hz0 hz1 hz2 rfl (by decide) _ 0 [] rfl (World.ownsRow_nil _ _ _ _) q m cap2 (icells c) rfl (by rw [icells_len, hlc, Nat.mul_one]) hnil (hasI_cells hz3) (icells_one c) (by unfold maxLen; omega) (by omega) (Nat.le_refl _) ?_; intro v5 w5 ho5 hg5)
        have hB5 : Below w3.heap.size w3 w5 := (Below.refl _ w3).grown hg5 (Nat.le_refl _) (fun j e => by cases e)
        rw [Nat.zero_add, List.nil_append] at ho5
        clear hg5 hOf hnil
        have hmk : ∀ W, Below w3.heap.size w3 W → W.cell? ⟨w.heap.size, 0, none⟩ = some (.int .i64 (P : Nat)) ∧ W.cell? ⟨w.heap.size, 1, none⟩ = some (.slice p n cap) := fun W hW => ⟨(t3.later hW t3.lt).procs, (t3.later hW t3.lt).events⟩
        have hih : ∀ (g cc : Nat) (W : World), Below w3.heap.size w3 W → W.ownsRow w3.heap.size 3 1 (.slice (some ⟨g, 0, none⟩) (m + 1) cc) (m + 1) (icells c ++ [.int .i64 (k : Nat)]) → Calls Tryd.prog 10 #[trV (P : Nat) p n cap, .slice (some ⟨g, 0, none⟩) (m + 1) cc] W fun e w' => e = .returned (.int .i64 (r : Nat)) ∧ Below W.heap.size W w' := fun g cc W hW ho => by
          rw [← HR.out]
          rw [← icells_snoc] at ho
          exact ih (c ++ [k]) (some ⟨g, 0, none⟩) (m + 1) cc W (by omega) (hc3.later hW) (by simp [hlc]) (hasI_of_owns (by simp [hlc]) ho) (fun h => by cases h)
        have sz5 := hB5.size
        have szo : ∀ j, v5.ownBlock = some j → w3.heap.size ≤ j := fun j e => (ho5.lt j e).1
        clear ih
        go_region_held_law (fun W => W.cell? ⟨w.heap.size, 0, none⟩ = some (.int .i64 (P : Nat)) ∧ W.cell? ⟨w.heap.size, 1, none⟩ = some (.slice p n cap)) (first | exact hmk _ hB5.drew | exact hmk _ ((bel_al hB5 _).drew) | exact hmk _ hB6 | exact hmk _ (bel_on hB6 hB7)) (first | (refine step_append_lies _ (by rfl) _ _ _ (by rfl) w3.heap.size 3 i0 _ 1 8 Tryd.underlying25 hi0 hz0 hz1 hz2 rfl (by omega) v5 m (icells c) (by rfl) ((ho5.alloc _).drew) ⟨w5.heap.size, 0, none⟩ 1 1 [.int .i64 (k : Nat)] (by rfl) (by rfl) (World.news_of_block (cs := #[.int .i64 (k : Nat)]) (t := 3) (fr := (0, 0)) (heap_alloc_new w5 _)) (by simp [Value.oneCell']) (by omega) (by unfold maxLen; omega) (by omega) (by simp; omega) (w5.heap.size + 1) (by simp) ?_; intro g6 c6 w6 ho6 hg6 ha6 hl6; have hB6 : Below w3.heap.size w3 w6 := ((bel_al hB5 _).drew).grown hg6 (Nat.le_trans sz5 (by simp)) szo) | (go_at_call 10; refine (hih g6 c6 _ hB6 ho6).mono ?_; rintro e w7 ⟨rfl, hB7⟩))
        all_goals (have hB9 := bel_on hB4 (bel_on hB6 hB7))
        all_goals clear hih hmk szo
        all_goals go_wp2_with fail
        all_goals go_roundw
        all_goals first | exact ⟨k + 1, by go_num, by rw [HN.out], by omega, hB9⟩ | (simp [intOf]; omega)
      · obtain rfl : k = ev + 1 := by omega
        have f1 : decide (((ev + 1 : Nat) : Int) ≤ (ev : Int)) = false := decide_eq_false (by omega)
        have f2 : decide (ev + 1 ≤ ev) = false := decide_eq_false (by omega)
        obtain ⟨e1, he1⟩ : ∃ e1, ev + 1 = e1 := ⟨_, rfl⟩
        rw [he1] at f1 f2 ⊢
        have HS : Hid (M.cts T (d + 1) c = s) := by show _ = _; rw [HCS.out]; exact hs
        clear hnx hs he1 hbd hcb
        go_wp2_with fail
        refine (hOf _ hB).mono ?_
        rintro e w3 ⟨q3, c3, rfl, hB3⟩
        have HC : Hid (Below _ _ _) := bel_on hBa (bel_on hB hB3)
        clear hB3 hB hlt
        go_wp2_with fail
        go_ret
        exact ⟨by rw [HS.out]; rfl, HC.out⟩
end Go.Proofs.YtlhpkpjcfjdgaaaDoor
