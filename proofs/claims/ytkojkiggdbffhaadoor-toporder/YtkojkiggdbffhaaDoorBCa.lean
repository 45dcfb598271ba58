/- Cuts as five numbers: all events of a trace, process by process (package cut, allOf), and the events of a cut as a set (package cut, eventsIn); what lay in memory lies as it lay. The events of a cut, as a set (package cut, eventsIn); what lay in memory lies as it lay. -/
import Derived.Test.YtkojkiggdbffhaaDoorBTr
import Derived.Test.YtkojkiggdbffhaaDoorBMb
namespace Go.Proofs.YtkojkiggdbffhaaDoor
open Go.RowKit
namespace M
/-- how many of the first i events were at each process -/
def evl (T : List (Int × Int)) (i : Nat) : List Nat := [evn T 0 i, evn T 1 i, evn T 2 i, evn T 3 i, evn T 4 i]
theorem evl_zero (T : List (Int × Int)) : evl T 0 = [0, 0, 0, 0, 0] := rfl
theorem evl_length (T : List (Int × Int)) (i : Nat) : (evl T i).length = 5 := rfl
theorem evl_row (T : List (Int × Int)) (i : Nat) {a : Nat} (h : a < 5) : row (evl T i) a = evn T a i := by
  have hd : a = 0 ∨ a = 1 ∨ a = 2 ∨ a = 3 ∨ a = 4 := by omega
  rcases hd with rfl | rfl | rfl | rfl | rfl <;> rfl
theorem evl_set (T : List (Int × Int)) (i : Nat) {a v : Nat} (h : a < 5) (ha : pr T i = (a : Nat)) (hv : v = evn T a i + 1) : (evl T i).set a v = evl T (i + 1) := by
  subst hv
  have e : ∀ q : Nat, evn T q (i + 1) = evn T q i + if a = q then 1 else 0 := fun q => by
    rw [evn_succ, ha]
    by_cases h : a = q
    · rw [if_pos h, if_pos (by omega)]
    · rw [if_neg h, if_neg (by omega)]
  have hd : a = 0 ∨ a = 1 ∨ a = 2 ∨ a = 3 ∨ a = 4 := by omega
  rcases hd with rfl | rfl | rfl | rfl | rfl <;> simp [evl, e]
end M
abbrev nuV (a b c d e : Nat) : Value := .agg #[.int .i64 (a : Nat), .int .i64 (b : Nat), .int .i64 (c : Nat), .int .i64 (d : Nat), .int .i64 (e : Nat)]
theorem results_nu {fn : Func} {t : Tmp} (h : fn.results = #[.cell t 59]) (tmps : Array Value) (w : World) (B : Nat) (a b c d e : Nat) (hp : tmps.getD t undef = .pointer (some ⟨B, 0, none⟩)) (hr : RowAt 59 w B [a, b, c, d, e]) :
    (results fn tmps).run Tryd.prog w = .ok (nuV a b c d e) w := by
  have hp' : tmps[t]?.getD undef = .pointer (some ⟨B, 0, none⟩) := by simpa using hp
  have h0 : w.cell? ⟨B, 0, none⟩ = some (.int .i64 (a : Nat)) := hr.cell (k := 0) (by simp)
  have h1 : w.cell? ⟨B, 1, none⟩ = some (.int .i64 (b : Nat)) := hr.cell (k := 1) (by simp)
  have h2 : w.cell? ⟨B, 2, none⟩ = some (.int .i64 (c : Nat)) := hr.cell (k := 2) (by simp)
  have h3 : w.cell? ⟨B, 3, none⟩ = some (.int .i64 (d : Nat)) := hr.cell (k := 3) (by simp)
  have h4 : w.cell? ⟨B, 4, none⟩ = some (.int .i64 (e : Nat)) := hr.cell (k := 4) (by simp)
  simp [results, h, go_sem, hp', h0, h1, h2, h3, h4]
/-- All events of a trace, process by process. -/
abbrev evV (T : List (Int × Int)) (n : Nat) : Value := nuV (M.evn T 0 n) (M.evn T 1 n) (M.evn T 2 n) (M.evn T 3 n) (M.evn T 4 n)
set_option maxRecDepth 100000 in
set_option maxHeartbeats 2000000 in
theorem allOf_ok (P : Int) (T : List (Int × Int)) (p : Option Addr) (n cap : Nat) (w : World) (hl : T.length = n) (hc : HasE T p w) (h0 : M.tcode P T = 0) :
    Calls Tryd.prog 29 #[trV P p n cap] w fun e w' => e = .returned (evV T n) ∧ Below w.heap.size w w' := by
  have hok := M.tcode_zero.1 h0
  have hn : n ≤ 24 := hl ▸ hok.len
  obtain ⟨w1, hw1⟩ : ∃ w1, w.alloc (.cells #[.int .i64 P, .slice p n cap] 24) = w1 := ⟨_, rfl⟩
  obtain ⟨w2, hw2⟩ : ∃ w2, w1.alloc (.cells #[.int .i64 0, .int .i64 0, .int .i64 0, .int .i64 0, .int .i64 0] 59) = w2 := ⟨_, rfl⟩
  obtain ⟨w3, hw3⟩ : ∃ w3, w2.alloc (.cells #[.int .i64 0, .int .i64 0, .int .i64 0, .int .i64 0, .int .i64 0] 59) = w3 := ⟨_, rfl⟩
  have s1 : w1.heap.size = w.heap.size + 1 := by subst hw1; simp
  have s2 : w2.heap.size = w.heap.size + 1 + 1 := by subst hw2; simp [s1]
  have b1 : TBox w1 w.heap.size P p n cap := hw1 ▸ tbox_new w P p n cap
  have r2 : RowAt 59 w2 (w.heap.size + 1) [0, 0, 0, 0, 0] := by subst hw2; unfold RowAt; rw [← s1, World.alloc_heap_new]; rfl
  have r3 : RowAt 59 w3 (w.heap.size + 1 + 1) (M.evl T 0) := by subst hw3; unfold RowAt; rw [← s2, World.alloc_heap_new]; rfl
  have q2 : RowAt 59 w3 (w.heap.size + 1) [0, 0, 0, 0, 0] := hw3 ▸ r2.alloc _
  have hB3 : Below w.heap.size w w3 := by rw [← hw3, ← hw2, ← hw1]; exact bel_al (bel_al (bel_al (Below.refl _ _) _) _) _
  have b3 : TBox w3 w.heap.size P p n cap := by
    have h : Below w1.heap.size w1 w3 := by rw [← hw3, ← hw2]; exact bel_al (bel_al (Below.refl _ _) _) _
    exact b1.later h (by omega)
  have hk2 := b3.events
  have hbl := b3.lt
  clear r2 b1
  go_enter Tryd.func29, Tryd.ntmps29
  go_wp2_with fail
  go_loopw [9] (fun v wr => ∃ i : Nat, v = .int .i64 i ∧ i ≤ n ∧ RowAt 59 wr (w.heap.size + 1) [0, 0, 0, 0, 0] ∧ RowAt 59 wr (w.heap.size + 1 + 1) (M.evl T i) ∧ Below w.heap.size w wr) (fun v _ => n - (intOf v).toNat)
  case atStart => exact ⟨0, rfl, Nat.zero_le _, q2, r3, hB3⟩
  case round =>
    clear hk2 q2 r3 hB3 hw1 hw2 hw3 b3
    obtain ⟨i, rfl, hi, hZ, hA, hB⟩ := hrel
    have hAl := hA.lt
    by_cases hlt : i < n
    · obtain ⟨b, off, rfl, hb, hp1, hp2⟩ := (hc.later hB) i (by omega)
      have hT : i < T.length := by omega
      have ha0 := hok.pr0 i hT
      have haP := hok.prP i hT
      have hP5 := hok.p5
      obtain ⟨a, ha⟩ : ∃ a : Nat, M.pr T i = a := ⟨(M.pr T i).toNat, by omega⟩
      have ha5 : a < 5 := by omega
      rw [ha] at hp1
      have hcA := hA.cell (k := a) ha5
      rw [M.evl_row T i ha5] at hcA
      have hle := M.evn_le T a i
      have hST := M.evl_set T i ha5 ha rfl
      obtain ⟨q, hq⟩ : ∃ q, M.evn T a i = q := ⟨_, rfl⟩
      rw [hq] at hcA hle hST
      obtain ⟨f, hf⟩ : ∃ f, M.fm T i = f := ⟨_, rfl⟩
      rw [hf] at hp2
      clear hf hq ha ha0 haP
      have hfA := hA.frozen a
      have hai : (a : Int) < 5 := by omega
      have hA2 := (hA.set a (q + 1)).alloc (.cells #[.int .i64 (a : Nat), .int .i64 f] 53)
      rw [hST] at hA2
      have hZ2 := (hZ.other (a := ⟨w.heap.size + 1 + 1, a, none⟩) (show w.heap.size + 1 ≠ w.heap.size + 1 + 1 by omega) (.int .i64 ((q + 1 : Nat) : Int))).alloc (.cells #[.int .i64 (a : Nat), .int .i64 f] 53)
      have hB2 := bel_al (hB.setCell (p := ⟨w.heap.size + 1 + 1, a, none⟩) (show w.heap.size ≤ w.heap.size + 1 + 1 by omega) (.int .i64 ((q + 1 : Nat) : Int))) (.cells #[.int .i64 (a : Nat), .int .i64 f] 53)
      have hq1 : ((q : Int) + 1) = ((q + 1 : Nat) : Int) := by omega
      obtain ⟨q1, hq1e⟩ : ∃ q1, q + 1 = q1 := ⟨_, rfl⟩
      rw [hq1e] at hq1 hA2 hZ2 hB2
      have H1 : Hid (RowAt _ _ _ _) := hA2
      have H2 : Hid (RowAt _ _ _ _) := hZ2
      have H3 : Hid (Below _ _ _) := hB2
      clear hA hZ hA2 hZ2 hB hB2 hST hq1e
      go_wp2_with fail
      go_roundw
      case rel => exact ⟨i + 1, by go_num, by omega, H2.out, H1.out, H3.out⟩
      case measure => simp [intOf]; omega
    · obtain rfl : i = n := by omega
      have c0 := hA.cell (k := 0) (by rw [M.evl_length]; omega)
      have c1 := hA.cell (k := 1) (by rw [M.evl_length]; omega)
      have c2 := hA.cell (k := 2) (by rw [M.evl_length]; omega)
      have c3 := hA.cell (k := 3) (by rw [M.evl_length]; omega)
      have c4 := hA.cell (k := 4) (by rw [M.evl_length]; omega)
      rw [M.evl_row T _ (by omega)] at c0 c1 c2 c3 c4
      have z0 := hZ.cell (k := 0) (by simp)
      have z1 := hZ.cell (k := 1) (by simp)
      have z2 := hZ.cell (k := 2) (by simp)
      have z3 := hZ.cell (k := 3) (by simp)
      have z4 := hZ.cell (k := 4) (by simp)
      have f0 := hZ.frozen 0
      have f1 := hZ.frozen 1
      have f2 := hZ.frozen 2
      have f3 := hZ.frozen 3
      have f4 := hZ.frozen 4
      have HR : Hid (RowAt 59 _ _ _) := ((((hZ.set 0 (M.evn T 0 i)).set 1 (M.evn T 1 i)).set 2 (M.evn T 2 i)).set 3 (M.evn T 3 i)).set 4 (M.evn T 4 i)
      have HB : Hid (Below _ _ _) := ((((hB.setCell (p := ⟨w.heap.size + 1, 0, none⟩) (Nat.le_succ _) (.int .i64 (M.evn T 0 i : Nat))).setCell (p := ⟨w.heap.size + 1, 1, none⟩) (Nat.le_succ _) (.int .i64 (M.evn T 1 i : Nat))).setCell (p := ⟨w.heap.size + 1, 2, none⟩) (Nat.le_succ _) (.int .i64 (M.evn T 2 i : Nat))).setCell (p := ⟨w.heap.size + 1, 3, none⟩) (Nat.le_succ _) (.int .i64 (M.evn T 3 i : Nat))).setCell (p := ⟨w.heap.size + 1, 4, none⟩) (Nat.le_succ _) (.int .i64 (M.evn T 4 i : Nat))
      clear hA hZ hB
      go_wp2_with fail
      refine bodyPost_ret (v := evV T i) (results_nu rfl _ _ (w.heap.size + 1) _ _ _ _ _ rfl HR.out) rfl ⟨rfl, HB.out⟩
end Go.Proofs.YtkojkiggdbffhaaDoor
namespace Go.Proofs.YtkojkiggdbffhaaDoor
open Go.RowKit
namespace M
theorem cset_hit {T : List (Int × Int)} {c : List Nat} {k : Nat} (h : inC T c k = true) : cset T c k ||| 1 <<< k = cset T c (k + 1) := by
  simp only [cset]
  rw [if_pos h, Nat.shiftLeft_eq, Nat.one_mul]
  have := Nat.two_pow_add_eq_or_of_lt (cset_lt T c k) 1
  rw [Nat.mul_one] at this
  rw [Nat.or_comm, ← this]; omega
theorem cset_miss {T : List (Int × Int)} {c : List Nat} {k : Nat} (h : inC T c k = false) : cset T c k = cset T c (k + 1) := by
  simp only [cset]
  rw [if_neg (by rw [h]; simp)]
end M
set_option maxRecDepth 100000 in
set_option maxHeartbeats 4000000 in
theorem events_ok (P : Int) (T : List (Int × Int)) (p : Option Addr) (n cap : Nat) (x0 x1 x2 x3 x4 : Nat) (w : World) (hl : T.length = n) (hc : HasE T p w) (h0 : M.tcode P T = 0) :
    Calls Tryd.prog 48 #[trV P p n cap, nuV x0 x1 x2 x3 x4] w fun e w' => e = .returned (.int .i64 (M.cset T [x0, x1, x2, x3, x4] n : Nat)) ∧ Below w.heap.size w w' := by
  have hok := M.tcode_zero.1 h0
  have hn : n ≤ 24 := hl ▸ hok.len
  obtain ⟨w1, hw1⟩ : ∃ w1, w.alloc (.cells #[.int .i64 P, .slice p n cap] 24) = w1 := ⟨_, rfl⟩
  obtain ⟨w2, hw2⟩ : ∃ w2, w1.alloc (.cells (arr [x0, x1, x2, x3, x4]) 59) = w2 := ⟨_, rfl⟩
  obtain ⟨w3, hw3⟩ : ∃ w3, w2.alloc (.cells #[.int .i64 0, .int .i64 0, .int .i64 0, .int .i64 0, .int .i64 0] 59) = w3 := ⟨_, rfl⟩
  have s1 : w1.heap.size = w.heap.size + 1 := by subst hw1; simp
  have s2 : w2.heap.size = w.heap.size + 1 + 1 := by subst hw2; simp [s1]
  have b1 : TBox w1 w.heap.size P p n cap := hw1 ▸ tbox_new w P p n cap
  have r2 : RowAt 59 w2 (w.heap.size + 1) [x0, x1, x2, x3, x4] := by subst hw2; unfold RowAt; rw [← s1, World.alloc_heap_new]
  have r3 : RowAt 59 w3 (w.heap.size + 1 + 1) (M.evl T 0) := by subst hw3; unfold RowAt; rw [← s2, World.alloc_heap_new]; rfl
  have q2 : RowAt 59 w3 (w.heap.size + 1) [x0, x1, x2, x3, x4] := hw3 ▸ r2.alloc _
  have hB3 : Below w.heap.size w w3 := by rw [← hw3, ← hw2, ← hw1]; exact bel_al (bel_al (bel_al (Below.refl _ _) _) _) _
  have b3 : TBox w3 w.heap.size P p n cap := by
    have h : Below w1.heap.size w1 w3 := by rw [← hw3, ← hw2]; exact bel_al (bel_al (Below.refl _ _) _) _
    exact b1.later h (by omega)
  have hk2 := b3.events
  have hbl := b3.lt
  have hw2' : w1.alloc (.cells #[.int .i64 (x0 : Nat), .int .i64 (x1 : Nat), .int .i64 (x2 : Nat), .int .i64 (x3 : Nat), .int .i64 (x4 : Nat)] 59) = w2 := hw2
  clear r2 b1 hw2
  obtain ⟨c, hcc⟩ : ∃ c, [x0, x1, x2, x3, x4] = c := ⟨_, rfl⟩
  have hcl : c.length = 5 := by rw [← hcc]; rfl
  rw [hcc] at q2
  rw [hcc]
  clear hcc
  go_enter Tryd.func48, Tryd.ntmps48
  go_wp2_with fail
  go_loopw [5, 12] (fun u v wr => ∃ i : Nat, v = .int .i64 i ∧ u = .int .i64 (M.cset T c i : Nat) ∧ i ≤ n ∧ RowAt 59 wr (w.heap.size + 1) c ∧ RowAt 59 wr (w.heap.size + 1 + 1) (M.evl T i) ∧ Below w.heap.size w wr) (fun _ v _ => n - (intOf v).toNat)
  case atStart => exact ⟨0, rfl, rfl, Nat.zero_le _, q2, r3, hB3⟩
  case round =>
    clear hk2 q2 r3 hB3 hw1 hw2' hw3 b3
    obtain ⟨i, rfl, rfl, hi, hN, hA, hB⟩ := hrel
    have hAl := hA.lt
    have hNl := hN.lt
    by_cases hlt : i < n
    · obtain ⟨b, off, rfl, hb, hp1, hp2⟩ := (hc.later hB) i (by omega)
      have hT : i < T.length := by omega
      have ha0 := hok.pr0 i hT
      have haP := hok.prP i hT
      have hP5 := hok.p5
      obtain ⟨a, ha⟩ : ∃ a : Nat, M.pr T i = a := ⟨(M.pr T i).toNat, by omega⟩
      have ha5 : a < 5 := by omega
      rw [ha] at hp1
      have hcA := hA.cell (k := a) ha5
      have hcN := hN.cell (k := a) (by omega)
      rw [M.evl_row T i ha5] at hcA
      have hle := M.evn_le T a i
      have hST := M.evl_set T i ha5 ha rfl
      have hin := M.inC_iff (c := c) ha
      rw [M.nth_evn ha] at hin
      have hcs := M.cset_lt T c i
      have hpw := pow_24 i (by omega)
      have hhit := @M.cset_hit T c i
      have hmiss := @M.cset_miss T c i
      obtain ⟨s, hs⟩ : ∃ s, M.cset T c i = s := ⟨_, rfl⟩
      obtain ⟨q, hq⟩ : ∃ q, M.evn T a i = q := ⟨_, rfl⟩
      obtain ⟨y, hy⟩ : ∃ y, M.row c a = y := ⟨_, rfl⟩
      obtain ⟨f, hf⟩ : ∃ f, M.fm T i = f := ⟨_, rfl⟩
      rw [hq] at hcA hle hST hin
      rw [hy] at hcN hin
      rw [hs] at hcs hhit hmiss
      rw [hs]
      rw [hf] at hp2
      clear hf hq hy hs ha ha0 haP
      have hfA := hA.frozen a
      have hai : (a : Int) < 5 := by omega
      have hB2 : ∀ k, Below w.heap.size w (((wr.alloc (.cells #[.int .i64 (a : Nat), .int .i64 f] 53)).drewN k).setCell ⟨w.heap.size + 1 + 1, a, none⟩ (.int .i64 ((q + 1 : Nat) : Int))) := fun k => (bel_drN (bel_al hB _) k).setCell (p := ⟨w.heap.size + 1 + 1, a, none⟩) (show w.heap.size ≤ w.heap.size + 1 + 1 by omega) _
      have hA2 : ∀ k, RowAt 59 (((wr.alloc (.cells #[.int .i64 (a : Nat), .int .i64 f] 53)).drewN k).setCell ⟨w.heap.size + 1 + 1, a, none⟩ (.int .i64 ((q + 1 : Nat) : Int))) (w.heap.size + 1 + 1) (M.evl T (i + 1)) := fun k => by
        rw [← hST]
        exact ((hA.alloc _).below (below_drewN _ k) (hA.alloc _).lt).set a (q + 1)
      have hN2 : ∀ k, RowAt 59 (((wr.alloc (.cells #[.int .i64 (a : Nat), .int .i64 f] 53)).drewN k).setCell ⟨w.heap.size + 1 + 1, a, none⟩ (.int .i64 ((q + 1 : Nat) : Int))) (w.heap.size + 1) c := fun k =>
        ((hN.alloc _).below (below_drewN _ k) (hN.alloc _).lt).other (a := ⟨w.heap.size + 1 + 1, a, none⟩) (show w.heap.size + 1 ≠ w.heap.size + 1 + 1 by omega) _
      have hq1 : ((q : Int) + 1) = ((q + 1 : Nat) : Int) := by omega
      obtain ⟨q1, hq1e⟩ : ∃ q1, q + 1 = q1 := ⟨_, rfl⟩
      rw [hq1e] at hq1 hA2 hN2 hB2
      have H1 : Hid (∀ k, RowAt _ _ _ _) := hA2
      have H2 : Hid (∀ k, RowAt _ _ _ _) := hN2
      have H3 : Hid (∀ k, Below _ _ _) := hB2
      clear hA hN hA2 hN2 hB hB2 hST hq1e
      have hwl : wr.heap.size < (wr.alloc (.cells #[.int .i64 (a : Nat), .int .i64 f] 53)).heap.size := by simp
      by_cases hqy : q < y
      · have hdq : decide ((q : Int) < (y : Int)) = true := decide_eq_true (by omega)
        have hdq' : decide (q < y) = true := decide_eq_true hqy
        have hH : Hid (s ||| 1 <<< i = M.cset T c (i + 1)) := hhit (hin.2 hqy)
        have hsh : IntKind.i64.wrap (2 ^ i) = ((1 <<< i : Nat) : Int) := i64_shl_big i (by omega)
        have hjp : 1 <<< i < 1073741824 := by have := shl_24 i (by omega); omega
        obtain ⟨d, hd⟩ : ∃ d : Nat, 1 <<< i = d := ⟨_, rfl⟩
        rw [hd] at hsh hjp hH
        have hor := i64_or_big s d (by omega) hjp
        obtain ⟨v, hv⟩ : ∃ v : Nat, s ||| d = v := ⟨_, rfl⟩
        rw [hv] at hor hH
        clear hd hv hhit hmiss hin hqy
        go_wp2_with fail
        go_big_quiet (fail)
        go_wp2_with fail
        go_roundw
        case rel => exact ⟨i + 1, by go_num, by rw [hH.out], by omega, H2.out _, H1.out _, H3.out _⟩
        case measure => simp [intOf]; omega
      · have hdq : decide ((q : Int) < (y : Int)) = false := decide_eq_false (by omega)
        have hdq' : decide (q < y) = false := decide_eq_false hqy
        have hH : Hid (s = M.cset T c (i + 1)) := hmiss (by cases h : M.inC T c i with | false => rfl | true => exact absurd (hin.1 h) hqy)
        clear hhit hmiss hin hqy
        go_wp2_with fail
        go_big_quiet (fail)
        go_wp2_with fail
        go_roundw
        case rel => exact ⟨i + 1, by go_num, by rw [hH.out], by omega, H2.out _, H1.out _, H3.out _⟩
        case measure => simp [intOf]; omega
    · obtain rfl : i = n := by omega
      go_wp2_with fail
      go_ret
      exact ⟨rfl, hB⟩
end Go.Proofs.YtkojkiggdbffhaaDoor
