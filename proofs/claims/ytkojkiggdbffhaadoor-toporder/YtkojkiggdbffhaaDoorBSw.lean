/- Package chain's sideBySide: whether none of a set stands behind another one of it, at closed rows of at most twelve things; what lay in memory lies as it lay. Package chain's Widest, at whatever numbers: it tells what is wrong as the document has it, else the widest set of things side by side, of several the least number; what lay in memory lies as it lay. -/
import Derived.Test.YtkojkiggdbffhaaDoorBFt
import Derived.Test.YtkojkiggdbffhaaDoorIterP
import Derived.Test.YtkojkiggdbffhaaDoorOnes
namespace Go.Proofs.YtkojkiggdbffhaaDoor
open Go.RowKit Go.Shelf
attribute [local go_sem] Oper.semAt_some

theorem results_cell {fn : Func} {t : Tmp} (h : fn.results = #[.cell t 4]) (tmps : Array Value) (w : World) (a : Addr) (v : Value) (hp : tmps.getD t undef = .pointer (some a)) (hc : w.cell? a = some v) :
    (results fn tmps).run Tryd.prog w = .ok v w := by
  have hp' : tmps[t]?.getD undef = .pointer (some a) := by simpa using hp
  simp [results, h, go_sem, hp']
  rw [hc]
theorem side_true {c : List Nat} {s : Nat} (h : ∀ x, x ∈ M.bits s → M.row c x &&& s = 0) : M.side c s = true := by
  unfold M.side
  rw [List.all_eq_true]
  intro x hx
  simp [h x hx]
theorem side_false {c : List Nat} {s x : Nat} (hx : x < 12) (hb : s.testBit x = true) (h : M.row c x &&& s ≠ 0) : M.side c s = false := by
  cases hs : M.side c s with
  | false => rfl
  | true => exact absurd (M.side_iff.1 hs x hx hb) h

set_option maxRecDepth 100000 in
set_option maxHeartbeats 2000000 in
theorem sideBy_any (c : List Nat) (s : Nat) (p : Option Addr) (n cap : Nat) (w : World) (hl : c.length = n) (he : Env w) (hn : n ≤ 12) (hok : M.Ok c) (hs : s < 2 ^ n) (hc : Has (ints c) p w) :
    Calls Tryd.prog 44 #[.slice p n cap, .int .i64 s] w fun e w' => e = .returned (.bool (M.side c s)) ∧ Below w.heap.size w w' := by
  have hpw := pow_lt n hn
  refine callsIn_wide.1 (callsIn_of_wp_marks (n := 3) Tryd.func44 rfl trivial ?_ rfl)
  simp only [Tryd.ntmps44, List.size_toArray, List.length_cons, List.length_nil, Nat.reduceAdd, Nat.reduceSub, Array.replicate_succ, Array.replicate_zero, List.push_toArray, List.append_toArray, List.nil_append, List.cons_append]
  refine wpIn_wide.2 ?_
  obtain ⟨Wa, hWa⟩ : ∃ Wa, ((w.alloc (.cells #[.slice p n cap] 25)).alloc (.cells #[.int .i64 s] 3)).alloc (.cells #[.bool false] 4) = Wa := ⟨_, rfl⟩
  have hsz : Wa.heap.size = w.heap.size + 3 := by rw [← hWa]; simp
  have hb1 : Boxed Wa w.heap.size 25 (.slice p n cap) := by rw [← hWa]; exact ((Boxed.new w _ _).alloc _).alloc _
  have hb2 : Boxed Wa (w.heap.size + 1) 3 (.int .i64 s) := by
    rw [← hWa]
    have h := Boxed.new (w.alloc (.cells #[.slice p n cap] 25)) 3 (.int .i64 s)
    rw [World.size_alloc] at h; exact h.alloc _
  have hb3 : Boxed Wa (w.heap.size + 2) 4 (.bool false) := by
    rw [← hWa]
    have h := Boxed.new ((w.alloc (.cells #[.slice p n cap] 25)).alloc (.cells #[.int .i64 s] 3)) 4 (.bool false)
    rw [World.size_alloc, World.size_alloc] at h; exact h
  have hB0 : Below w.heap.size w Wa := by rw [← hWa]; exact (((Below.refl _ w).alloc (Nat.le_refl _) _).alloc (by simp) _).alloc (by simp; omega) _
  have hs2 := hb2.cell
  have hs1 : ((w.alloc (.cells #[.slice p n cap] 25)).alloc (.cells #[.int .i64 s] 3)).alloc (.cells #[.bool false] 4) = Wa := hWa
  go_wp2_with (go_at_call 28; refine (things_any _ _).mono ?_; rintro e w' ⟨rfl, rfl⟩)
  rename_i Q' K hK0
  have hbs : Boxed (Wa.alloc (.cells #[.int .i64 s] 3)) (w.heap.size + 3) 3 (.int .i64 s) := by
    have h := Boxed.new Wa 3 (.int .i64 s)
    rw [hsz] at h; exact h
  have hBx : Below w.heap.size w (Wa.alloc (.cells #[.int .i64 s] 3)) := hB0.alloc (by omega) _
  have hT2 := he.tab.below hBx he.two
  have htw := he.two
  refine (wpIn_wide (n := 3)).1 ?_
  refine wpIn_rangeFunc_ownG rfl (by omega) (gf := 45) (lb := #[.pointer (some ⟨w.heap.size + 3, 0, none⟩)]) rfl trivial (enters_of Tryd.func45 (by kernel_rfl) rfl)
    (things_stopsP (3 - 1) (w.heap.size + 3) w.heap.size n s hn hs he.two _ (by simp; omega) (by simp; omega) hT2 hbs.cell) belowK_t (belowK_b (by simp; omega)) (Below.refl _ _) (fun _ => rfl)
    (fun (pre : List (Fin n)) W' => (∀ x, x ∈ pre.map (fun x : Fin n => x.1) → M.row c x &&& s = 0) ∧ Boxed W' w.heap.size 25 (.slice p n cap) ∧ Boxed W' (w.heap.size + 1) 3 (.int .i64 s) ∧ Boxed W' (w.heap.size + 1 + 1) 4 (.bool false) ∧ Below w.heap.size w W')
    (fun cc (pre : List (Fin n)) W' => cc = .ret ∧ (∃ x, x ∈ pre.map (fun x : Fin n => x.1) ∧ M.row c x &&& s ≠ 0) ∧ Boxed W' (w.heap.size + 1 + 1) 4 (.bool false) ∧ Below w.heap.size w W')
    (OwnFrom.and (fun _ _ _ _ h _ _ => h) (OwnFrom.and (Own.from (boxed_own _ _ fun _ => (.slice p n cap)) _) (OwnFrom.and (Own.from (boxed_own _ _ fun _ => .int .i64 (s : Nat)) _) (OwnFrom.and (Own.from (boxed_own _ _ fun _ => .bool false) _) (ownFrom_below (Nat.le_refl _) (by simp; omega))))))
    (fun _ => OwnFrom.and (fun _ _ _ _ h _ _ => h) (OwnFrom.and (fun _ _ _ _ h _ _ => h) (OwnFrom.and (Own.from (boxed_own _ _ fun _ => .bool false) _) (ownFrom_below (Nat.le_refl _) (by simp; omega)))))
    ⟨fun x hx => (by simp at hx), hb1.alloc _, hb2.alloc _, hb3.alloc _, hBx⟩
    (fun x => { tmps := #[.slice p n cap, .int .i64 s, .pointer (some ⟨w.heap.size, 0, none⟩), .pointer (some ⟨w.heap.size + 1, 0, none⟩), .pointer (some ⟨w.heap.size + 1 + 1, 0, none⟩), .int .i64 (x.1 : Nat), .int .i64 s, .func (.func 45) #[] #[.pointer (some ⟨w.heap.size + 3, 0, none⟩)], .int .i64 (x.1 : Nat), undef, undef, undef, undef, undef, undef, undef], defers := [] }) ?assign ?body ?done ?stop
  case assign =>
    intro l x W K hK
    gi_wp2
    exact hK
  case body =>
    rintro l pre x Wb ⟨hpre, hx1, hx2, hx3, hB⟩ _
    have hx := x.2
    have hc1 := hx1.cell
    have hc2 := hx2.cell
    have hc3 := hx3.cell
    obtain ⟨b, off, hp, hbb, hcell⟩ := (hc.later hB) x.1 (by rw [ints_length, hl]; exact hx)
    rw [ints_get] at hcell
    subst hp
    have hrx : M.row c x.1 < 4096 := by have := hok x.1; rw [hl] at this; omega
    have hand := i64_and_nat (M.row c x.1) s (by omega) (by omega)
    obtain ⟨q, hq⟩ : ∃ q : Nat, M.row c x.1 &&& s = q := ⟨_, rfl⟩
    rw [hq] at hand
    gi_wp2
    refine wpIn_region_still_tail 6 (by kernel_rfl) (by kernel_rfl) (fun _ _ h => h) (by kernel_rfl) ?_
    simp only [List.take_succ_cons, List.take_zero, List.drop_succ_cons, List.drop_zero]
    repeat still_step
    refine wpStill_nil ?_
    by_cases h0 : q = 0
    · subst h0
      go_wp2
      gi_wp2
      refine ⟨(KeepsOthers.drew _).from _, (Below.refl _ Wb).drew, fun y hy => ?_, boxed_drew hx1, boxed_drew hx2, boxed_drew hx3, hB.drew⟩
      rw [List.map_append, List.map_cons, List.map_nil] at hy
      rcases List.mem_append.1 hy with hy | hy
      · exact hpre y hy
      · obtain rfl := List.mem_singleton.1 hy
        exact hq
    · have hne : ((q : Int) != 0) = true := by simp; omega
      have hf3 := hx3.frozen
      go_wp2
      gi_wp2
      refine ⟨((KeepsOthers.setCell _ _ _).trans (KeepsOthers.drew _)).from _, rfl, ⟨x.1, by simp, by rw [hq]; exact h0⟩, boxed_drew (hx3.set _), (hB.setCell (p := ⟨w.heap.size + 1 + 1, 0, none⟩) (by simp; omega) _).drew⟩
  case done =>
    rintro D ys Wd hD hys ⟨hpre, hx1, hx2, hx3, hB⟩ hK
    have hD' : w.heap.size + 4 ≤ D := by simpa [hsz] using hD
    have hDl := (Array.getElem?_eq_some_iff.1 hK).1
    rw [hys] at hpre
    have hst := side_true hpre
    show K _ _
    refine hK0 _ _ ?_
    have hc3 := hx3.cell
    have hf3 := hx3.frozen
    go_wp2_with fail
    have hx4 := hx3.set (.bool true)
    refine leaves_marks _ (D + 1) (Wd.setCell ⟨w.heap.size + 1 + 1, 0, none⟩ (.bool true)) (by have := hB.size; simpa using this) ⟨D, by omega, by omega, rfl, ?_, trivial⟩ (fun W' ht => ⟨_, results_cell rfl _ _ _ (.bool true) rfl ?_, ?_, ?_⟩)
    · rw [Below.heap_setCell _ _ _ _ (by simp; omega)]; exact hK
    · exact (show Boxed W' _ _ _ from ht.cells _ _ hx4 rfl).cell
    · rw [hst]
    · exact (hB.setCell (p := ⟨w.heap.size + 1 + 1, 0, none⟩) (by simp; omega) _).trans ht.below
  case stop =>
    rintro D cc pre W hD ⟨rr, hrr⟩ ⟨rfl, ⟨x, hxm, hxn⟩, hx3, hB⟩ hK
    have hxb := M.mem_bits.1 (show x ∈ M.bits s by rw [hrr]; exact List.mem_append_left _ hxm)
    have hsf := side_false hxb.1 hxb.2 hxn
    have hD' : w.heap.size + 4 ≤ D := by simpa [hsz] using hD
    have hDl := (Array.getElem?_eq_some_iff.1 hK).1
    gi_wp2
    refine leaves_marks _ (D + 1) W hB.size ⟨D, by omega, by omega, rfl, hK, trivial⟩ (fun W' ht => ⟨_, results_cell rfl _ _ _ (.bool false) rfl ?_, ?_, ?_⟩)
    · exact (show Boxed W' _ _ _ from ht.cells _ _ hx3 rfl).cell
    · rw [hsf]
    · exact hB.trans ht.below
end Go.Proofs.YtkojkiggdbffhaaDoor
namespace Go.Proofs.YtkojkiggdbffhaaDoor
open Go.RowKit Go.Shelf

theorem wUp_lt (c : List Nat) (k : Nat) (hk : k ≤ 2 ^ c.length) : M.wUp c k < 2 ^ c.length := by
  rcases (M.wUp_inv c k).1 with h | h
  · omega
  · rw [h]; exact Nat.two_pow_pos _
set_option maxHeartbeats 1000000 in
theorem rwidest_any (c : List Nat) (p : Option Addr) (n cap : Nat) (w : World) (hl : c.length = n) (he : Env w) (hn : n ≤ 12) (hok : M.Ok c) (hc : Has (ints c) p w) :
    Calls Tryd.prog 26 #[.slice p n cap] w fun e w' => e = .returned (.int .i64 (M.widest c : Nat)) ∧ Below w.heap.size w w' := by
  have hpw := pow_lt n hn
  have hsh : IntKind.i64.wrap (2 ^ n) = ((2 ^ n : Nat) : Int) := by have := i64_shl n hn; rw [Nat.shiftLeft_eq, Nat.one_mul] at this; exact this
  have hlt : ∀ k, k ≤ 2 ^ n → M.wUp c k < 2 ^ n := fun k hk => by have := wUp_lt c k (by rw [hl]; exact hk); rw [hl] at this; exact this
  have hgoal : Hid (M.widest c = M.wUp c (2 ^ n)) := (by unfold M.widest; rw [hl] : M.widest c = M.wUp c (2 ^ n))
  have hsb : ∀ (s : Nat) (w1 : World), s < 2 ^ n → Below w.heap.size w w1 → Calls Tryd.prog 44 #[.slice p n cap, .int .i64 s] w1 fun e w' => e = .returned (.bool (M.side c s)) ∧ Below w1.heap.size w1 w' :=
    fun s w1 hs hB => sideBy_any c s p n cap w1 hl (he.later hB) hn hok hs (hc.later hB)
  have HQ : ∃ q : Nat, 2 ^ n = q := ⟨_, rfl⟩
  obtain ⟨q, hq⟩ := HQ
  rw [hq] at hsh hpw hlt hsb hgoal
  clear hq
  go_enter Tryd.func26, Tryd.ntmps26
  go_wp2
  go_loopw [3, 8] (fun b k wr => ∃ (i z : Nat), i ≤ q ∧ Hid (z = M.wUp c i) ∧ z < q ∧ b = .int .i64 z ∧ k = .int .i64 i ∧ Below w.heap.size w wr) (fun _ k _ => q - (intOf k).toNat)
  case atStart => exact ⟨0, 0, Nat.zero_le _, (rfl : 0 = M.wUp c 0), by have := hlt 0 (Nat.zero_le _); omega, rfl, rfl, Below.refl _ _⟩
  case round =>
    obtain ⟨i, z, hi, hz, hzl, rfl, rfl, hB⟩ := hrel
    by_cases hiq : i < q
    · have h1 := size_any i wr (by omega)
      have h2 := size_any z wr (by omega)
      have h3 := hsb i wr hiq hB
      have hstep : Hid (M.wUp c (i + 1) = if M.pc z < M.pc i && M.side c i then i else z) := (by rw [hz.out]; rfl : M.wUp c (i + 1) = if M.pc z < M.pc i && M.side c i then i else z)
      have hpi : M.pc i ≤ 12 := M.cnt_le 12 i
      have hpz : M.pc z ≤ 12 := M.cnt_le 12 z
      generalize M.pc i = a at *
      generalize M.pc z = b at *
      generalize M.side c i = sd at *
      by_cases hgt : b < a
      · have hne : decide ((b : Int) < a) = true := decide_eq_true (by omega)
        go_wp2_with fail
        refine h1.mono ?_
        rintro e w1 ⟨rfl, rfl⟩
        go_wp2_with fail
        refine h2.mono ?_
        rintro e w1 ⟨rfl, rfl⟩
        go_wp2_with fail
        refine h3.mono ?_
        rintro e w1 ⟨rfl, hB1⟩
        have hB2 := hB.trans (hB1.mono hB.size)
        cases sd with
        | true =>
          go_wp2_with fail
          go_roundw
          case rel => exact ⟨i + 1, i, by omega, (by rw [hstep.out]; simp [hgt] : i = M.wUp c (i + 1)), hiq, rfl, by go_num, hB2⟩
          case measure => simp [intOf]; omega
        | false =>
          go_wp2_with fail
          go_roundw
          case rel => exact ⟨i + 1, z, by omega, (by rw [hstep.out]; simp : z = M.wUp c (i + 1)), hzl, rfl, by go_num, hB2⟩
          case measure => simp [intOf]; omega
      · have hne : decide ((b : Int) < a) = false := decide_eq_false (by omega)
        go_wp2_with fail
        refine h1.mono ?_
        rintro e w1 ⟨rfl, rfl⟩
        go_wp2_with fail
        refine h2.mono ?_
        rintro e w1 ⟨rfl, rfl⟩
        go_wp2_with fail
        go_roundw
        case rel => exact ⟨i + 1, z, by omega, (by rw [hstep.out]; simp [hgt] : z = M.wUp c (i + 1)), hzl, rfl, by go_num, hB⟩
        case measure => simp [intOf]; omega
    · obtain rfl : i = q := by omega
      go_wp2_with fail
      go_ret
      exact ⟨(by rw [hgoal.out, ← hz.out]; rfl), hB⟩
set_option maxHeartbeats 400000 in
theorem widest_err (zs : List Int) (p : Option Addr) (n cap c : Nat) (w : World) (hl : zs.length = n) (he : Env w) (hmax : n ≤ maxLen) (hc : Has zs p w) (h0 : code zs = c) (hne : c ≠ 0) :
    Calls Tryd.prog 8 #[.slice p n cap] w fun e w' => e = .returned (.tuple #[.int .i64 0, .iface 49 (.int .i64 (c : Nat))]) ∧ Below w.heap.size w w' := by
  go_enter Tryd.func8, Tryd.ntmps8
  go_wp2_with (go_at_call 4; refine (behind_err zs p n cap c _ hl he hmax hc h0 hne).mono ?_; rintro e w' ⟨rfl, hB⟩)
  go_ret2
  exact ⟨rfl, hB⟩
set_option maxHeartbeats 400000 in
theorem widest_ok (zs : List Int) (p : Option Addr) (n cap : Nat) (w : World) (hl : zs.length = n) (he : Env w) (hmax : n ≤ maxLen) (hc : Has zs p w) (h0 : code zs = 0) :
    Calls Tryd.prog 8 #[.slice p n cap] w fun e w' => e = .returned (.tuple #[.int .i64 (M.widest (M.clo (nats zs)) : Nat), .nilIface]) ∧ Below w.heap.size w w' := by
  have hz := code_zero h0
  have hlen : (M.clo (nats zs)).length = n := by rw [M.clo_length, nats_length, hl]
  go_enter Tryd.func8, Tryd.ntmps8
  go_wp2_with fail
  refine (behind_ok zs p n cap _ hl he hmax hc h0).mono ?_
  rintro e w1 ⟨A, rfl, hr, hA, hB⟩
  go_wp2_with fail
  refine (rwidest_any (M.clo (nats zs)) (some ⟨A, 0, none⟩) n n w1 hlen (he.later hB) (by omega) (M.clo_ok (nats_ok hz.2.1)) hr.has).mono ?_
  rintro e w2 ⟨rfl, hB2⟩
  go_wp2_with fail
  go_ret2
  exact ⟨rfl, hB.trans (hB2.mono hB.size)⟩
end Go.Proofs.YtkojkiggdbffhaaDoor
