/- What is wrong with letters (package fold, Check), at whatever numbers; what lay in memory lies as it lay. -/
import Derived.Test.YtejnjokjkinpkaaDoorFo0
import Derived.Test.YtejnjokjkinpkaaDoorIterP
import Derived.Test.YtejnjokjkinpkaaDoorTck
namespace Go.Proofs.YtejnjokjkinpkaaDoor
open Go.RowKit Go.Shelf
attribute [local go_sem] Oper.semAt_some

theorem results_cellE {fn : Func} {t : Tmp} (h : fn.results = #[.cell t 25]) (tmps : Array Value) (w : World) (a : Addr) (v : Value) (hp : tmps.getD t undef = .pointer (some a)) (hc : w.cell? a = some v) :
    (results fn tmps).run Tryd.prog w = .ok v w := by
  have hp' : tmps[t]?.getD undef = .pointer (some a) := by simpa using hp
  simp [results, h, go_sem, hp']
  rw [hc]
def errC (c : Nat) : Value := .iface 49 (.int .i64 (c : Nat))

set_option maxRecDepth 100000 in
set_option maxHeartbeats 4000000 in
theorem fcheck_any (zs : List Int) (p : Option Addr) (n cap : Nat) (w : World) (hl : zs.length = n) (he : Env w) (hmax : n ≤ maxLen) (hc : HasI zs p w) :
    Calls Tryd.prog 59 #[.slice p n cap] w fun e w' => e = .returned (terr (frcode zs)) ∧ Below w.heap.size w w' := by
  unfold maxLen at hmax
  refine callsIn_wide.1 (callsIn_of_wp_marks (n := 3) Tryd.func59 rfl trivial ?_ rfl)
  simp only [Tryd.ntmps59, List.size_toArray, List.length_cons, List.length_nil, Nat.reduceAdd, Nat.reduceSub, Array.replicate_succ, Array.replicate_zero, List.push_toArray, List.append_toArray, List.nil_append, List.cons_append]
  refine wpIn_wide.2 ?_
  obtain ⟨Wa, hWa⟩ : ∃ Wa, (w.alloc (.cells #[.slice p n cap] 22)).alloc (.cells #[.nilIface] 25) = Wa := ⟨_, rfl⟩
  have hsz : Wa.heap.size = w.heap.size + 2 := by rw [← hWa]; simp
  have hb1 : Boxed Wa w.heap.size 22 (.slice p n cap) := by rw [← hWa]; exact (Boxed.new w _ _).alloc _
  have hb2 : Boxed Wa (w.heap.size + 1) 25 .nilIface := by
    rw [← hWa]
    have h := Boxed.new (w.alloc (.cells #[.slice p n cap] 22)) 25 .nilIface
    rw [World.size_alloc] at h; exact h
  have hB0 : Below w.heap.size w Wa := by rw [← hWa]; exact bel_al (bel_al (Below.refl _ w) _) _
  have k1 := hb1.cell
  have k2 := hb2.cell
  have k3 := hb2.frozen
  have hlt1 := hb1.lt
  have hlt2 := hb2.lt
  by_cases h6 : 6 < n
  · have HC : Hid (frcode zs = 4) := frcode_full (by omega)
    have hd6 : decide ((6 : Int) < (n : Int)) = true := decide_eq_true (by omega)
    go_wp2_with fail
    have hx := hb2.set (errC 4)
    refine leaves_marks (base := w.heap.size) [] 0 (Wa.setCell ⟨w.heap.size + 1, 0, none⟩ (errC 4)) (by simp; omega) trivial (fun W' ht => ⟨_, results_cellE rfl _ _ _ (errC 4) rfl ?_, ?_, ?_⟩)
    · exact (show Boxed W' _ _ _ from ht.cells _ _ hx rfl).cell
    · rw [HC.out]; rfl
    · exact (hB0.setCell (p := ⟨w.heap.size + 1, 0, none⟩) (by simp) _).trans ht.below
  · have hd6 : decide ((6 : Int) < (n : Int)) = false := decide_eq_false (by omega)
    have hn6 : n ≤ 6 := by omega
    clear h6
    go_wp2_with fail
    go_loopw [14] (fun v wr => ∃ i : Nat, v = .int .i64 i ∧ i ≤ n ∧ Hid (∀ j, j < i → setB (zs[j]?.getD 0) n = true) ∧ wr = Wa) (fun v _ => n - (intOf v).toNat)
    case atStart => exact ⟨0, rfl, Nat.zero_le _, show ∀ j, j < 0 → _ from fun j hj => absurd hj (Nat.not_lt_zero _), rfl⟩
    case round =>
      obtain ⟨i, rfl, hi, hJ, rfl⟩ := hrel
      by_cases hlt : i < n
      · obtain ⟨b, off, rfl, hb, hcz⟩ := (hc.later hB0) i (by omega)
        obtain ⟨z, hz⟩ : ∃ z, zs[i]?.getD 0 = z := ⟨_, rfl⟩
        rw [hz] at hcz
        have HZ : Hid (zs[i]?.getD 0 = z) := hz
        clear hz
        have his := fun W => isSet_any z n W (by omega)
        cases hs : setB z n with
        | false =>
          rw [hs] at his
          have HC : Hid (frcode zs = 1) := frcode_range (by omega) (by
            cases h : allSets zs with
            | false => rfl
            | true => have := (allSets_iff zs).1 h i (by omega); rw [HZ.out, hl, hs] at this; cases this)
          clear hs
          go_wp2_with fail
          refine (his _).mono ?_
          rintro e w2 ⟨rfl, rfl⟩
          go_wp2_with fail
          have hx := hb2.set (errC 1)
          refine leaves_marks (base := w.heap.size) [] 0 (wr.setCell ⟨w.heap.size + 1, 0, none⟩ (errC 1)) (by simp; omega) trivial (fun W' ht => ⟨_, results_cellE rfl _ _ _ (errC 1) rfl ?_, ?_, ?_⟩)
          · exact (show Boxed W' _ _ _ from ht.cells _ _ hx rfl).cell
          · rw [HC.out]; rfl
          · exact (hB0.setCell (p := ⟨w.heap.size + 1, 0, none⟩) (by simp) _).trans ht.below
        | true =>
          rw [hs] at his
          have HJ : Hid (∀ j, j < i + 1 → setB (zs[j]?.getD 0) n = true) := fun j hj => by
            by_cases e : j = i
            · subst e; rw [HZ.out]; exact hs
            · exact hJ.out j (by omega)
          clear hs
          go_wp2_with fail
          refine (his _).mono ?_
          rintro e w2 ⟨rfl, rfl⟩
          go_wp2_with fail
          go_roundw
          case rel => exact ⟨i + 1, by go_num, by omega, HJ, trivial⟩
          case measure => simp [intOf]; omega
      · obtain rfl : i = n := by omega
        have hall : allSets zs = true := (allSets_iff zs).2 (by rw [hl]; exact hJ.out)
        obtain ⟨F, rfl⟩ : ∃ F, zs = ints F := ⟨nats zs, ints_nats hall⟩
        have hlF : F.length = i := by rw [ints_length] at hl; exact hl
        have hO : M.Ok F := by have := nats_ok hall; rw [nats_ints] at this; exact this
        have HF0 : Hid (frcode (ints F) = if M.frB F then 0 else 6) := by
          show _ = _
          cases hf : M.frB F with
          | true => exact frcode_none (by rw [ints_length]; omega) hall (by rw [nats_ints]; exact hf)
          | false => exact frcode_clash (by rw [ints_length]; omega) hall (by rw [nats_ints]; exact hf)
        clear hall hJ hd6
        go_wp2_with fail
        refine wp_loop (fun a W => ∃ (k : Nat) (ds : List Deferred) (u3 u4 u5 u6 u7 u8 u9 u10 u11 u12 u13 u14 u15 u16 u17 u18 u19 u20 u21 u22 u23 u24 u28 u29 u30 u31 u32 u33 u34 u35 u36 u37 u38 u39 u40 u41 u42 u43 u44 u45 u46 u47 : Value), k ≤ i ∧ Hid (∀ a, a < k → M.gdL F a) ∧ Boxed W w.heap.size 22 (.slice p i cap) ∧ Boxed W (w.heap.size + 1) 25 .nilIface ∧ Below w.heap.size w W ∧ Marks w.heap.size W W.heap.size ds ∧
          a = { tmps := #[.slice p i cap, .pointer (some ⟨w.heap.size, 0, none⟩), .pointer (some ⟨w.heap.size + 1, 0, none⟩), u3, u4, u5, u6, u7, u8, u9, u10, u11, u12, u13, u14, u15, u16, u17, u18, u19, u20, u21, u22, u23, u24, .slice p i cap, .int .i64 (i : Nat), .int .i64 (k : Nat), u28, u29, u30, u31, u32, u33, u34, u35, u36, u37, u38, u39, u40, u41, u42, u43, u44, u45, u46, u47], defers := ds }) (fun a _ => i - (intOf (a.tmps.getD 27 undef)).toNat) ?start ?round2
        case start => exact ⟨0, [], _, _, _, _, _, _, _, _, _, _, _, _, _, _, _, _, _, _, _, _, _, _, _, _, _, _, _, _, _, _, _, _, _, _, _, _, _, _, _, _, _, _, Nat.zero_le _, show ∀ a, a < 0 → _ from fun a ha => absurd ha (Nat.not_lt_zero _), hb1, hb2, hB0, trivial, rfl⟩
        case round2 =>
          rintro a W ⟨k, ds, u3, u4, u5, u6, u7, u8, u9, u10, u11, u12, u13, u14, u15, u16, u17, u18, u19, u20, u21, u22, u23, u24, u28, u29, u30, u31, u32, u33, u34, u35, u36, u37, u38, u39, u40, u41, u42, u43, u44, u45, u46, u47, hk, hG, x1, x2, hB, hmk, rfl⟩
          clear hb1 hb2 hB0 k1 k2 k3 hlt1 hlt2 hsz hWa
          dsimp only
          have q1 := x1.cell
          have q2 := x2.cell
          have q3 := x2.frozen
          have l1 := x1.lt
          have l2 := x2.lt
          by_cases hlt : k < i
          · obtain ⟨b, off, rfl, hb, hcz⟩ := (hc.later hB) k (by rw [ints_length]; omega)
            rw [ints_get] at hcz
            have hrk : M.row F k < 4096 := by have h1 := hO k; have h2 : 2 ^ F.length ≤ 2 ^ 6 := Nat.pow_le_pow_right (by omega) (by omega); omega
            have hrk2 : M.row F k < 2 ^ i := by have h1 := hO k; rw [hlF] at h1; exact h1
            have hhas := fun W => has_any (M.row F k) k W hrk (by omega)
            obtain ⟨s, hs⟩ : ∃ s, M.row F k = s := ⟨_, rfl⟩
            rw [hs] at hcz hrk hrk2 hhas
            have HS : Hid (M.row F k = s) := hs
            clear hs
            cases hbit : s.testBit k with
            | true =>
              rw [hbit] at hhas
              have HC : Hid (M.frB F = false) := M.frB_not hO (a := k) (by omega) (fun h => by have := h.1; unfold M.fr at this; rw [HS.out, hbit] at this; cases this)
              clear hbit
              go_wp2_with fail
              refine (hhas _).mono ?_
              rintro e w2 ⟨rfl, rfl⟩
              go_wp2_with fail
              have hx := (x2.set (errC 6)).alloc (.cells #[.int .i64 (k : Nat)] 3)
              refine leaves_marks (base := w.heap.size) ds (W.heap.size + 1) ((W.setCell ⟨w.heap.size + 1, 0, none⟩ (errC 6)).alloc (.cells #[.int .i64 (k : Nat)] 3)) (by have := hB.size; simp; omega) (((hmk.others (KeepsOthers.setCell _ _ _)).others (KeepsOthers.alloc _ _)).hi (by omega)) (fun W' ht => ⟨_, results_cellE rfl _ _ _ (errC 6) rfl ?_, ?_, ?_⟩)
              · exact (show Boxed W' _ _ _ from ht.cells _ _ hx rfl).cell
              · rw [HF0.out, HC.out]; rfl
              · exact (bel_al (hB.setCell (p := ⟨w.heap.size + 1, 0, none⟩) (by simp) _) _).trans ht.below
            | false =>
              rw [hbit] at hhas
              have HSelf : Hid (M.fr F k k = false) := (by unfold M.fr; rw [HS.out]; exact hbit : M.fr F k k = false)
              clear hbit
              go_wp2_with fail
              refine (hhas _).mono ?_
              rintro e w2 ⟨rfl, rfl⟩
              go_wp2_with (go_at_call 38; refine (things_any _ _).mono ?_; rintro e w' ⟨rfl, rfl⟩)
              obtain ⟨Wx, hWx⟩ : ∃ Wx, (W.alloc (.cells #[.int .i64 (k : Nat)] 3)).alloc (.cells #[.int .i64 (s : Nat)] 3) = Wx := ⟨_, rfl⟩
              have hxs : Wx.heap.size = W.heap.size + 2 := by rw [← hWx]; simp
              have y1 : Boxed Wx w.heap.size 22 (.slice (some ⟨b, off, none⟩) i cap) := by rw [← hWx]; exact (x1.alloc _).alloc _
              have y2 : Boxed Wx (w.heap.size + 1) 25 .nilIface := by rw [← hWx]; exact (x2.alloc _).alloc _
              have y3 : Boxed Wx W.heap.size 3 (.int .i64 (k : Nat)) := by rw [← hWx]; exact (Boxed.new W _ _).alloc _
              have y4 : Boxed Wx (W.heap.size + 1) 3 (.int .i64 (s : Nat)) := by
                rw [← hWx]
                have h := Boxed.new (W.alloc (.cells #[.int .i64 (k : Nat)] 3)) 3 (.int .i64 (s : Nat))
                rw [World.size_alloc] at h; exact h
              have hBx : Below w.heap.size w Wx := by rw [← hWx]; exact bel_al (bel_al hB _) _
              have hmx : Marks w.heap.size Wx (W.heap.size + 2) ds := by rw [← hWx]; exact ((hmk.others (KeepsOthers.alloc _ _)).others (KeepsOthers.alloc _ _)).hi (by omega)
              rw [hWx]
              have hT2 := he.tab.below hBx he.two
              have htw := he.two
              have hwW := hB.size
              clear hmk q1 q2 q3 x1 x2 hWx
              refine (wpIn_wide (n := 3)).1 ?_
              refine wpIn_rangeFunc_ownG rfl (by omega) (gf := 52) (lb := #[.pointer (some ⟨W.heap.size + 1, 0, none⟩)]) rfl trivial (enters_of Tryd.func52 (by kernel_rfl) rfl)
                (things_stopsP (3 - 1) (W.heap.size + 1) w.heap.size i s (by omega) hrk2 he.two _ (by omega) (by omega) hT2 y4.cell) belowK_t (belowK_b (by omega)) (Below.refl _ _) (fun _ => rfl)
                (fun (pre : List (Fin i)) W' => (∀ x, x ∈ pre.map (fun x : Fin i => x.1) → M.fr F x k = true) ∧ Boxed W' w.heap.size 22 (.slice (some ⟨b, off, none⟩) i cap) ∧ Boxed W' (w.heap.size + 1) 25 .nilIface ∧ Boxed W' W.heap.size 3 (.int .i64 (k : Nat)) ∧ Below w.heap.size w W' ∧ Marks w.heap.size W' (W.heap.size + 2) ds)
                (fun cc (pre : List (Fin i)) W' => cc = .ret ∧ (∃ x, x ∈ pre.map (fun x : Fin i => x.1) ∧ M.fr F x k = false) ∧ Boxed W' (w.heap.size + 1) 25 (errC 6) ∧ Below w.heap.size w W' ∧ Marks w.heap.size W' (W.heap.size + 2) ds)
                (OwnFrom.and (fun _ _ _ _ h _ _ => h) (OwnFrom.and (Own.from (boxed_own _ _ fun _ => (.slice (some ⟨b, off, none⟩) i cap)) _) (OwnFrom.and (Own.from (boxed_own _ _ fun _ => .nilIface) _) (OwnFrom.and (Own.from (boxed_own _ _ fun _ => .int .i64 (k : Nat)) _) (OwnFrom.and (ownFrom_below (Nat.le_refl _) (by omega)) (by rw [hxs]; exact marks_own w.heap.size (W.heap.size + 2) ds))))))
                (fun _ => OwnFrom.and (fun _ _ _ _ h _ _ => h) (OwnFrom.and (fun _ _ _ _ h _ _ => h) (OwnFrom.and (Own.from (boxed_own _ _ fun _ => errC 6) _) (OwnFrom.and (ownFrom_below (Nat.le_refl _) (by omega)) (by rw [hxs]; exact marks_own w.heap.size (W.heap.size + 2) ds)))))
                ⟨fun x hx => (by simp at hx), y1, y2, y3, hBx, hmx⟩
                (fun x => { tmps := #[.slice (some ⟨b, off, none⟩) i cap, .pointer (some ⟨w.heap.size, 0, none⟩), .pointer (some ⟨w.heap.size + 1, 0, none⟩), u3, u4, .pointer (some ⟨W.heap.size, 0, none⟩), .int .i64 (s : Nat), .int .i64 (x.1 : Nat), u8, u9, u10, u11, u12, u13, u14, u15, u16, u17, u18, u19, u20, u21, u22, u23, u24, .slice (some ⟨b, off, none⟩) i cap, .int .i64 (i : Nat), .int .i64 (k : Nat), .bool true, .int .i64 (k : Nat), .pointer (some ⟨b, off + k, none⟩), .int .i64 (s : Nat), .int .i64 (s : Nat), .int .i64 (k : Nat), .bool false, u35, .int .i64 (s : Nat), .func (.func 52) #[] #[.pointer (some ⟨W.heap.size + 1, 0, none⟩)], .int .i64 (x.1 : Nat), u39, u40, u41, u42, u43, u44, u45, u46, u47], defers := [] }) ?assign ?body ?done ?stop
              case assign =>
                intro l x W K hK
                gi_wp2
                exact hK
              case body =>
                rintro l pre x Wb ⟨hpre, z1, z2, z3, hBb, hmb⟩ _
                have hx := x.2
                have c1 := z1.cell
                have c2 := z2.cell
                have c3 := z3.cell
                have f2 := z2.frozen
                have m1 := z1.lt
                have m2 := z2.lt
                have m3 := z3.lt
                obtain ⟨b', off', e', hbb, hcell⟩ := (hc.later hBb) x.1 (by rw [ints_length, hlF]; exact hx)
                cases e'
                rw [ints_get] at hcell
                have hrx : M.row F x.1 < 4096 := by have h1 := hO x.1; have h2 : 2 ^ F.length ≤ 2 ^ 6 := Nat.pow_le_pow_right (by omega) (by omega); omega
                have hh := fun W => has_any (M.row F x.1) k W hrx (by omega)
                obtain ⟨y, hy⟩ : ∃ y, M.row F x.1 = y := ⟨_, rfl⟩
                rw [hy] at hcell hh
                have HY : Hid (M.fr F x.1 k = y.testBit k) := (by unfold M.fr; rw [hy] : M.fr F x.1 k = y.testBit k)
                clear hy hrx
                gi_wp2
                refine wpIn_region_still_tail 5 (by kernel_rfl) (by kernel_rfl) (fun _ _ h => h) (by kernel_rfl) ?_
                simp only [List.take_succ_cons, List.take_zero, List.drop_succ_cons, List.drop_zero]
                repeat still_step
                refine wpStill_nil ?_
                go_wp2_with fail
                refine (hh _).mono ?_
                cases hbit : y.testBit k with
                | true =>
                  rintro e w' ⟨rfl, rfl⟩
                  have HB : Hid (M.fr F x.1 k = true) := HY.out.trans hbit
                  clear hbit
                  go_wp2_with fail
                  gi_wp2
                  refine ⟨(KeepsOthers.drew _).from _, (Below.refl _ Wb).drew, fun y hy => ?_, boxed_drew z1, boxed_drew z2, boxed_drew z3, hBb.drew, hmb.others (KeepsOthers.drew _)⟩
                  rw [List.map_append, List.map_cons, List.map_nil] at hy
                  rcases List.mem_append.1 hy with hy | hy
                  · exact hpre y hy
                  · obtain rfl := List.mem_singleton.1 hy
                    exact HB.out
                | false =>
                  rintro e w' ⟨rfl, rfl⟩
                  have HB : Hid (M.fr F x.1 k = false) := HY.out.trans hbit
                  clear hbit
                  go_wp2_with fail
                  gi_wp2
                  refine ⟨((KeepsOthers.drew _).trans (KeepsOthers.setCell _ _ _)).from _, rfl, ⟨x.1, by simp, HB.out⟩, (boxed_drew z2).set _, (hBb.drew).setCell (p := ⟨w.heap.size + 1, 0, none⟩) (by simp) _, (hmb.others (KeepsOthers.drew _)).others (KeepsOthers.setCell _ _ _)⟩
              case done =>
                rintro D ys Wd hD hys ⟨hpre, z1, z2, z3, hBb, hmb⟩ hK
                have hD' : W.heap.size + 2 ≤ D := by rw [← hxs]; exact hD
                have hDl := (Array.getElem?_eq_some_iff.1 hK).1
                rw [hys] at hpre
                have HG : Hid (∀ a, a < k + 1 → M.gdL F a) := fun a ha => by
                  by_cases e : a = k
                  · subst e
                    refine ⟨HSelf.out, fun b hb => hpre b (M.mem_bits.2 ⟨?_, ?_⟩)⟩
                    · have := M.fr_to hO hb; omega
                    · unfold M.fr at hb; rw [HS.out] at hb; exact hb
                  · exact hG.out a (by omega)
                clear hpre
                go_wp2_with fail
                refine ⟨⟨k + 1, { target := .collected D, args := #[] } :: ds, _, _, _, _, _, _, _, _, _, _, _, _, _, _, _, _, _, _, _, _, _, _, _, _, _, _, _, _, _, _, _, _, _, _, _, _, _, _, _, _, _, _, by omega, HG, z1, z2, hBb, ⟨D, by omega, hDl, rfl, hK, hmb.hi hD'⟩, rfl⟩, ?_⟩
                simp [intOf]; omega
              case stop =>
                rintro D cc pre Wd hD ⟨rr, hrr⟩ ⟨rfl, ⟨y, hym, hyn⟩, z2, hBb, hmb⟩ hK
                have hD' : W.heap.size + 2 ≤ D := by rw [← hxs]; exact hD
                have hDl := (Array.getElem?_eq_some_iff.1 hK).1
                have hyb := M.mem_bits.1 (show y ∈ M.bits s by rw [hrr]; exact List.mem_append_left _ hym)
                have HC : Hid (M.frB F = false) := M.frB_not hO (a := k) (by omega) (fun h => by
                  have := h.2 y (by unfold M.fr; rw [HS.out]; exact hyb.2)
                  rw [hyn] at this; cases this)
                clear hyb hyn hym hrr
                gi_wp2
                refine leaves_marks (base := w.heap.size) ({ target := .collected D, args := #[] } :: ds) (D + 1) Wd hBb.size ⟨D, by omega, by omega, rfl, hK, hmb.hi hD'⟩ (fun W' ht => ⟨_, results_cellE rfl _ _ _ (errC 6) rfl ?_, ?_, ?_⟩)
                · exact (show Boxed W' _ _ _ from ht.cells _ _ z2 rfl).cell
                · rw [HF0.out, HC.out]; rfl
                · exact hBb.trans ht.below
          · obtain rfl : k = i := by omega
            have HC : Hid (M.frB F = true) := (M.frB_iff hO).2 (by rw [hlF]; exact hG.out)
            go_wp2_with fail
            have hx := x2.set .nilIface
            refine leaves_marks (base := w.heap.size) ds (W.heap.size) (W.setCell ⟨w.heap.size + 1, 0, none⟩ .nilIface) (by have := hB.size; simp; omega) (hmk.others (KeepsOthers.setCell _ _ _)) (fun W' ht => ⟨_, results_cellE rfl _ _ _ .nilIface rfl ?_, ?_, ?_⟩)
            · exact (show Boxed W' _ _ _ from ht.cells _ _ hx rfl).cell
            · rw [HF0.out, HC.out]; rfl
            · exact (hB.setCell (p := ⟨w.heap.size + 1, 0, none⟩) (by simp) _).trans ht.below
end Go.Proofs.YtejnjokjkinpkaaDoor
