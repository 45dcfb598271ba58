/- Package extend's Count, at whatever numbers: it tells what is wrong as the document has it, else how many rows there are, counted by sets of things that stood already; what lay in memory lies as it lay. -/
import Derived.Test.YtedmpcadinjjdabDoorFrst
import Derived.Test.YtedmpcadinjjdabDoorIterP
namespace Go.Proofs.YtedmpcadinjjdabDoor
open Go.RowKit Go.Shelf
attribute [local go_sem] Oper.semAt_some

/-- one more way by x -/
def wput (o : List Nat) (k x : Nat) : List Nat := o.set (k ||| 1 <<< x) (M.row o (k ||| 1 <<< x) + M.row o k)
def winner (o : List Nat) (k : Nat) (js : List Nat) : List Nat := js.foldl (fun o x => wput o k x) o
theorem winner_snoc (o : List Nat) (k : Nat) (js : List Nat) (x : Nat) : winner o k (js ++ [x]) = wput (winner o k js) k x := by simp [winner]
theorem wput_length (o : List Nat) (k x : Nat) : (wput o k x).length = o.length := by simp [wput]
theorem winner_length (o : List Nat) (k : Nat) (js : List Nat) : (winner o k js).length = o.length := by
  unfold winner
  induction js generalizing o with
  | nil => rfl
  | cons x js ih => simp only [List.foldl_cons]; rw [ih, wput_length]
theorem wput_le {o : List Nat} {B k x : Nat} (h : ∀ s, M.row o s ≤ B) (s : Nat) : M.row (wput o k x) s ≤ 2 * B := by
  unfold wput
  rw [M.row_set]
  split
  · have := h (k ||| 1 <<< x); have := h k; omega
  · have := h s; omega
theorem winner_wrow {c t : List Nat} (hd : M.Dual c t) (htr : M.Tr c) (hn : c.length ≤ 12) {k : Nat} (hk : k < 2 ^ c.length) (js : List Nat) : ∀ pre, (pre ++ js).Nodup → (∀ x, x ∈ js → x < c.length ∧ M.nextB t k x = true) → winner (M.wrow c t k pre) k js = M.wrow c t k (pre ++ js) := by
  induction js with
  | nil => intro pre _ _; simp [winner]
  | cons x js ih =>
    intro pre hnd hx
    have h1 := hx x (List.mem_cons_self ..)
    have h2 : ¬ x ∈ pre := fun hm => (List.nodup_append.1 hnd).2.2 x hm x (List.mem_cons_self ..) rfl
    have h3 := (M.wrow_snoc hd htr hn hk h1.1 h1.2 h2).2
    show winner (wput (M.wrow c t k pre) k x) k js = _
    have e : wput (M.wrow c t k pre) k x = M.wrow c t k (pre ++ [x]) := h3.symm
    rw [e, ih (pre ++ [x]) (by simpa using hnd) (fun y hy => hx y (List.mem_cons_of_mem _ hy))]
    simp
theorem winner_all {c t : List Nat} (hd : M.Dual c t) (htr : M.Tr c) (hn : c.length ≤ 12) {k : Nat} (hk : k < 2 ^ c.length) : winner (M.wrow c t k []) k (M.bits (M.nextS t k)) = M.wrow c t (k + 1) [] := by
  rw [winner_wrow hd htr hn hk _ [] (by simpa using M.bits_nodup _) (fun x hx => by
    have := (M.nextS_mem (t := t) (by rw [← hd.1]; exact hn) k x).1 hx
    exact ⟨by rw [hd.1]; exact this.1, this.2⟩)]
  exact M.wrow_ext (fun s => by rw [List.nil_append]; exact M.gn_next hd hn k s)
theorem wrow_le {c t : List Nat} (hd : M.Dual c t) (htr : M.Tr c) (hn : c.length ≤ 12) (k : Nat) (s : Nat) : M.row (M.wrow c t k []) s ≤ 479001600 := by
  by_cases hs : s < 2 ^ c.length
  · rw [M.wrow_row c t k [] hs]; exact M.gn_le hd htr hn [] hs
  · rw [M.row_out _ _ (by rw [M.wrow_length]; omega)]; omega
theorem pow2_12 {k : Nat} (h : k ≤ 12) : 479001600 * 2 ^ k ≤ 1961990553600 := by
  have := Nat.pow_le_pow_right (n := 2) (by omega) h
  omega

set_option maxHeartbeats 400000 in
theorem count_err (zs : List Int) (p : Option Addr) (n cap c : Nat) (w : World) (hl : zs.length = n) (he : Env w) (hmax : n ≤ maxLen) (hc : Has zs p w) (h0 : code zs = c) (hne : c ≠ 0) :
    Calls Tryd.prog 20 #[.slice p n cap] w fun e w' => e = .returned (.tuple #[.int .i64 0, .iface 44 (.int .i64 (c : Nat))]) ∧ Below w.heap.size w w' := by
  go_enter Tryd.func20, Tryd.ntmps20
  go_wp2_with (go_at_call 27; refine (turned_err zs p n cap c _ hl he hmax hc h0 hne).mono ?_; rintro e w' ⟨rfl, hB⟩)
  go_ret2
  exact ⟨rfl, hB⟩

set_option maxRecDepth 100000 in
set_option maxHeartbeats 2000000 in
theorem count_ok (zs : List Int) (p : Option Addr) (n cap : Nat) (w : World) (hl : zs.length = n) (he : Env w) (hmax : n ≤ maxLen) (hc : Has zs p w) (h0 : code zs = 0) :
    Calls Tryd.prog 20 #[.slice p n cap] w fun e w' => e = .returned (.tuple #[.int .i64 (M.count (M.clo (nats zs)) : Nat), .nilIface]) ∧ Below w.heap.size w w' := by
  have hz := code_zero h0
  have hn : n ≤ 12 := by omega
  have hpw := pow_lt n hn
  have hp0 := Nat.two_pow_pos n
  have hok := nats_ok hz.2.1
  have hdu := dual_of hok
  have htr := cloTr hok hz.2.2
  have hcl : (M.clo (nats zs)).length = n := by rw [M.clo_length, nats_length, hl]
  have htl : (M.turned (nats zs)).length = n := by rw [M.turned_length, nats_length, hl]
  have hto := M.turned_ok (nats zs)
  have hsh : IntKind.i64.wrap (2 ^ n) = ((2 ^ n : Nat) : Int) := by have := i64_shl n hn; rw [Nat.shiftLeft_eq, Nat.one_mul] at this; exact this
  obtain ⟨q, hq⟩ : ∃ q : Nat, 2 ^ n = q := ⟨_, rfl⟩
  have HQ : Hid (2 ^ n = q) := hq
  rw [hq] at hsh hpw hp0
  clear hq
  have hmk0 := run_make_row' (P := Tryd.prog) 22 3 (.int .i64 0) 8 Tryd.underlying22 Tryd.info3 rfl .i64 .i64 q (by omega) (by omega)
  refine callsIn_wide.1 (callsIn_of_wp_marks (n := 3) Tryd.func20 rfl trivial ?_ rfl)
  simp only [Tryd.ntmps20, List.size_toArray, List.length_cons, List.length_nil, Nat.reduceAdd, Nat.reduceSub, Array.replicate_succ, Array.replicate_zero, List.push_toArray, List.append_toArray, List.nil_append, List.cons_append]
  refine wpIn_wide.2 ?_
  go_wp2_with fail
  refine (turned_ok zs p n cap _ hl he hmax hc h0).mono ?_
  rintro e w1 ⟨A, rfl, hrc, hA, hBc⟩
  obtain ⟨t, htd⟩ : ∃ t, M.turned (nats zs) = t := ⟨_, rfl⟩
  rw [htd] at hrc htl hto hdu
  obtain ⟨c, hcd⟩ : ∃ c, M.clo (nats zs) = c := ⟨_, rfl⟩
  have HCD : Hid (M.clo (nats zs) = c) := hcd
  rw [hcd] at hdu htr hcl
  clear htd hcd
  have hcq : Hid (2 ^ c.length = q) := (by rw [hcl]; exact HQ.out : 2 ^ c.length = q)
  have hwl : ∀ k pre, (M.wrow c t k pre).length = q := fun k pre => by rw [M.wrow_length, hcq.out]
  have hA1 : A < w1.heap.size := hrc.lt
  have hw1 : w.heap.size ≤ w1.heap.size := hBc.size
  obtain ⟨wa, hwa⟩ : ∃ wa, (w1.alloc (.cells (madeCells #[.int .i64 0] q) 3)).alloc (.cells #[.slice (some ⟨w1.heap.size, 0, none⟩) q q] 22) = wa := ⟨_, rfl⟩
  have hrowz : RowAt 3 wa w1.heap.size (List.replicate q 0) := by
    rw [← hwa]
    refine RowAt.alloc ?_ _
    unfold RowAt
    rw [World.alloc_heap_new, made_arr]
  have hbox0 : Boxed wa (w1.heap.size + 1) 22 (.slice (some ⟨w1.heap.size, 0, none⟩) q q) := by
    rw [← hwa]
    have h := Boxed.new (w1.alloc (.cells (madeCells #[.int .i64 0] q) 3)) 22 (.slice (some ⟨w1.heap.size, 0, none⟩) q q)
    rw [World.size_alloc] at h
    exact h
  have hrc0 : RowAt 3 wa A t := by rw [← hwa]; exact (hrc.alloc _).alloc _
  have hB0 : Below w.heap.size w wa := by rw [← hwa]; exact (hBc.alloc hBc.size _).alloc (by have := hBc.size; simp; omega) _
  have hsz0 : wa.heap.size = w1.heap.size + 2 := by rw [← hwa]; simp
  have hfz := hrowz.frozen 0
  have hc00 := hrowz.cell (k := 0) (by simp; omega)
  have hbx0 := hbox0.cell
  go_wp2_with fail
  have hrow1 : RowAt 3 (wa.setCell ⟨w1.heap.size, 0, none⟩ (.int .i64 (1 : Nat))) w1.heap.size (M.wrow c t 0 []) := by
    have h := hrowz.set 0 1
    rw [M.wrow_start, hcq.out]; exact h
  have hrc1 : RowAt 3 (wa.setCell ⟨w1.heap.size, 0, none⟩ (.int .i64 (1 : Nat))) A t := hrc0.other (a := ⟨w1.heap.size, 0, none⟩) (by simp; omega) _
  have hbox1 : Boxed (wa.setCell ⟨w1.heap.size, 0, none⟩ (.int .i64 (1 : Nat))) (w1.heap.size + 1) 22 (.slice (some ⟨w1.heap.size, 0, none⟩) q q) := boxed_otherAt hbox0 (a := ⟨w1.heap.size, 0, none⟩) (by simp) _
  have hB1 : Below w.heap.size w (wa.setCell ⟨w1.heap.size, 0, none⟩ (.int .i64 (1 : Nat))) := hB0.setCell (p := ⟨w1.heap.size, 0, none⟩) hw1 _
  refine wp_loop (fun a W => ∃ (k : Nat) (ds : List Deferred) (u7 u8 u26 u27 u28 u29 u30 u31 u32 u33 u34 u35 u36 u37 u38 u39 u40 u41 u42 u43 u44 u45 u46 u47 u48 u49 u50 u51 : Value), k ≤ q ∧ RowAt 3 W w1.heap.size (M.wrow c t k []) ∧ RowAt 3 W A t ∧ Boxed W (w1.heap.size + 1) 22 (.slice (some ⟨w1.heap.size, 0, none⟩) q q) ∧ Below w.heap.size w W ∧ Marks w.heap.size W W.heap.size ds ∧
      a = { tmps := #[.slice p n cap, undef, .int .i64 0, .nilIface, .slice (some ⟨A, 0, none⟩) n n, .nilIface, .pointer (some ⟨w1.heap.size + 1, 0, none⟩), u7, u8, .tuple #[.slice (some ⟨A, 0, none⟩) n n, .nilIface], .slice p n cap, .tuple #[.slice (some ⟨A, 0, none⟩) n n, .nilIface], .slice (some ⟨A, 0, none⟩) n n, .nilIface, .nilIface, .bool false, undef, .slice (some ⟨A, 0, none⟩) n n, .int .i64 n, .int .i64 q, .slice (some ⟨w1.heap.size, 0, none⟩) q q, .slice (some ⟨w1.heap.size, 0, none⟩) q q, .pointer (some ⟨w1.heap.size, 0, none⟩), .slice (some ⟨w1.heap.size, 0, none⟩) q q, .int .i64 q, .int .i64 (k : Nat), u26, u27, u28, u29, u30, u31, u32, u33, u34, u35, u36, u37, u38, u39, u40, u41, u42, u43, u44, u45, u46, u47, u48, u49, u50, u51, undef, undef, undef, undef, undef, undef], defers := ds }) (fun a _ => q - (intOf (a.tmps.getD 25 undef)).toNat) ?start ?round
  case start => exact ⟨0, [], _, _, _, _, _, _, _, _, _, _, _, _, _, _, _, _, _, _, _, _, _, _, _, _, _, _, _, _, Nat.zero_le _, hrow1, hrc1, hbox1, hB1, trivial, rfl⟩
  case round =>
    clear hrow1 hrc1 hbox1 hB1 hmk0 hrc hrowz hbox0 hrc0 hB0 hfz hc00 hbx0 hsz0 hwa wa
    rintro a W ⟨k, ds, u7, u8, u26, u27, u28, u29, u30, u31, u32, u33, u34, u35, u36, u37, u38, u39, u40, u41, u42, u43, u44, u45, u46, u47, u48, u49, u50, u51, hk, hrow, hrc, hbox, hB, hmk, rfl⟩
    dsimp only
    have hbc := hbox.cell
    by_cases hkq : k < q
    · have hWs : w1.heap.size + 1 < W.heap.size := hbox.lt
      have hk2 : k < 2 ^ c.length := by rw [hcq.out]; exact hkq
      have hnx := M.nextS_lt t k
      rw [htl] at hnx
      have hvle := wrow_le hdu htr (by omega) k k
      have hvd : Hid (M.row (M.wrow c t k []) k = M.wf c t k) := (by rw [M.wrow_row c t k [] hk2, M.gn_done hdu htr (by omega) [] hk2 (Nat.le_refl _)] : M.row (M.wrow c t k []) k = M.wf c t k)
      have hskip : Hid (M.wf c t k = 0 → M.wrow c t k [] = M.wrow c t (k + 1) []) := fun h => M.wrow_ext (M.gn_skip h)
      have hall : Hid (winner (M.wrow c t k []) k (M.bits (M.nextS t k)) = M.wrow c t (k + 1) []) := winner_all hdu htr (by omega) hk2
      have hle0 : ∀ s, M.row (M.wrow c t k []) s ≤ 479001600 := wrow_le hdu htr (by omega) k
      have hol : (M.wrow c t k []).length = q := hwl k []
      obtain ⟨o, ho⟩ : ∃ o, M.wrow c t k [] = o := ⟨_, rfl⟩
      rw [ho] at hrow hvle hvd hskip hall hle0 hol
      obtain ⟨v, hv⟩ : ∃ v, M.row o k = v := ⟨_, rfl⟩
      rw [hv] at hvle hvd
      have HV : Hid (M.row o k = v) := hv
      obtain ⟨s, hs⟩ : ∃ s, M.nextS t k = s := ⟨_, rfl⟩
      have h1 : ∀ W', RowAt 3 W' A t → Calls Tryd.prog 38 #[.slice (some ⟨A, 0, none⟩) n n, .int .i64 k] W' fun e w' => e = .returned (.int .i64 (s : Nat)) ∧ W' = w' := fun W' hr => by
        have := next_any t k (some ⟨A, 0, none⟩) n n W' htl hn hto (by omega) hr.has
        rw [hs] at this; exact this
      rw [hs] at hall hnx
      clear ho hv hs
      obtain ⟨Wk, hWk⟩ : ∃ Wk, W.alloc (.cells #[.int .i64 (k : Nat)] 3) = Wk := ⟨_, rfl⟩
      have hrowk : RowAt 3 Wk w1.heap.size o := by rw [← hWk]; exact hrow.alloc _
      have hrck : RowAt 3 Wk A t := by rw [← hWk]; exact hrc.alloc _
      have hboxk : Boxed Wk (w1.heap.size + 1) 22 (.slice (some ⟨w1.heap.size, 0, none⟩) q q) := by rw [← hWk]; exact hbox.alloc _
      have hbik : Boxed Wk W.heap.size 3 (.int .i64 (k : Nat)) := by rw [← hWk]; exact Boxed.new W 3 (.int .i64 (k : Nat))
      have hBk : Below w.heap.size w Wk := by rw [← hWk]; exact hB.alloc (by omega) _
      have hszk : Hid (Wk.heap.size = W.heap.size + 1) := (by rw [← hWk]; simp : Wk.heap.size = W.heap.size + 1)
      have hmkk : Marks w.heap.size Wk Wk.heap.size ds := by rw [hszk.out, ← hWk]; exact (hmk.others (KeepsOthers.alloc _ _)).hi (by omega)
      have hck : Wk.cell? ⟨w1.heap.size, k, none⟩ = some (.int .i64 (v : Nat)) := by rw [← HV.out]; exact hrowk.cell (by omega)
      have hbck := hboxk.cell
      have hbcik := hbik.cell
      clear hrow hrc hbox hB hmk hbc
      by_cases hv0 : v = 0
      · have hsk := hskip.out (hvd.out.symm.trans hv0)
        have e0 : ((v : Int) == 0) = true := by simp; omega
        clear hv0
        go_wp2_with fail
        refine ⟨⟨k + 1, ds, _, _, _, _, _, _, _, _, _, _, _, _, _, _, _, _, _, _, _, _, _, _, _, _, _, _, _, _, by omega, (by rw [← hsk]; exact hrowk), hrck, hboxk, hBk, hmkk, rfl⟩, ?_⟩
        simp [intOf]; omega
      · have e0 : ((v : Int) == 0) = false := by simp; omega
        clear hv0
        go_wp2_with fail
        refine (h1 Wk hrck).mono ?_
        rintro e w5 ⟨rfl, rfl⟩
        go_wp2_with fail
        refine (things_any _ _).mono ?_
        rintro e w6 ⟨rfl, rfl⟩
        go_wp2_with fail
        have hbs2 : Boxed (Wk.alloc (.cells #[.int .i64 (s : Nat)] 3)) Wk.heap.size 3 (.int .i64 (s : Nat)) := Boxed.new Wk 3 (.int .i64 (s : Nat))
        have hB2 : Below w.heap.size w (Wk.alloc (.cells #[.int .i64 (s : Nat)] 3)) := hBk.alloc hBk.size _
        have hmk2 : Marks w.heap.size (Wk.alloc (.cells #[.int .i64 (s : Nat)] 3)) (Wk.heap.size + 1) ds := (hmkk.others (KeepsOthers.alloc _ _)).hi (by omega)
        have hT2 := he.tab.below hB2 he.two
        have htw := he.two
        have hBs := hBk.size
        refine (wpIn_wide (n := 3)).1 ?_
        refine wpIn_rangeFunc_ownG rfl (by omega) (gf := 45) (lb := #[.pointer (some ⟨Wk.heap.size, 0, none⟩)]) rfl trivial (enters_of Tryd.func45 (by kernel_rfl) rfl)
          (things_stops (3 - 1) Wk.heap.size w.heap.size n s hn hnx he.two _ (by simp) (by simp; omega) hT2 hbs2.cell) belowK_t (belowK_b (by simp; omega)) (Below.refl _ _) (fun _ => rfl)
          (fun (pre : List (Fin n)) W' => (∀ y, M.row (winner o k (pre.map fun x : Fin n => x.1)) y ≤ 479001600 * 2 ^ pre.length) ∧ RowAt 3 W' w1.heap.size (winner o k (pre.map fun x : Fin n => x.1)) ∧ RowAt 3 W' A t ∧ Boxed W' (w1.heap.size + 1) 22 (.slice (some ⟨w1.heap.size, 0, none⟩) q q) ∧ Boxed W' W.heap.size 3 (.int .i64 (k : Nat)) ∧ Below w.heap.size w W' ∧ Marks w.heap.size W' (Wk.heap.size + 1) ds)
          (fun _ _ _ => False)
          (OwnFrom.and (fun _ _ _ _ h _ _ => h) (OwnFrom.and (Own.from (rowAt_own 3 w1.heap.size fun pre : List (Fin n) => winner o k (pre.map fun x : Fin n => x.1)) _) (OwnFrom.and (Own.from (rowAt_own 3 A fun _ => t) _) (OwnFrom.and (Own.from (boxed_own _ _ fun _ => (.slice (some ⟨w1.heap.size, 0, none⟩) q q)) _) (OwnFrom.and (Own.from (boxed_own _ _ fun _ => .int .i64 (k : Nat)) _) (OwnFrom.and (ownFrom_below (Nat.le_refl _) (by simp; omega)) (by simpa using marks_own w.heap.size (Wk.heap.size + 1) ds)))))))
          (fun _ _ _ _ _ hs _ _ => hs)
          ⟨fun y => by simpa [winner] using hle0 y, hrowk.alloc _, hrck.alloc _, hboxk.alloc _, hbik.alloc _, hB2, hmk2⟩
          (fun x => { tmps := #[.slice p n cap, undef, .int .i64 0, .nilIface, .slice (some ⟨A, 0, none⟩) n n, .nilIface, .pointer (some ⟨w1.heap.size + 1, 0, none⟩), .pointer (some ⟨W.heap.size, 0, none⟩), .int .i64 (x.1 : Nat), .tuple #[.slice (some ⟨A, 0, none⟩) n n, .nilIface], .slice p n cap, .tuple #[.slice (some ⟨A, 0, none⟩) n n, .nilIface], .slice (some ⟨A, 0, none⟩) n n, .nilIface, .nilIface, .bool false, undef, .slice (some ⟨A, 0, none⟩) n n, .int .i64 n, .int .i64 q, .slice (some ⟨w1.heap.size, 0, none⟩) q q, .slice (some ⟨w1.heap.size, 0, none⟩) q q, .pointer (some ⟨w1.heap.size, 0, none⟩), .slice (some ⟨w1.heap.size, 0, none⟩) q q, .int .i64 q, .int .i64 (k : Nat), .bool true, .int .i64 (k : Nat), .slice (some ⟨w1.heap.size, 0, none⟩) q q, .int .i64 (k : Nat), .pointer (some ⟨w1.heap.size, k, none⟩), .int .i64 (v : Nat), .bool false, .slice (some ⟨A, 0, none⟩) n n, .int .i64 (k : Nat), .int .i64 (s : Nat), .func (.func 45) #[] #[.pointer (some ⟨Wk.heap.size, 0, none⟩)], .int .i64 (x.1 : Nat), u38, u39, u40, u41, u42, u43, u44, u45, u46, u47, u48, u49, u50, u51, undef, undef, undef, undef, undef, undef], defers := [] }) ?assign ?body ?done ?stop
        case assign =>
          intro l x W K hK
          gi_wp2
          exact hK
        case body =>
          rintro l pre x Wb ⟨hle, hr, hrc, hbx, hbi, hB, hmk⟩ hpl
          obtain ⟨mm, hmm⟩ : ∃ mm, winner o k (pre.map fun x : Fin n => x.1) = mm := ⟨_, rfl⟩
          have HN : Hid (winner o k (List.map (fun x : Fin n => x.1) (pre ++ [x])) = wput mm k x.1) := (by rw [List.map_append, List.map_cons, List.map_nil, winner_snoc, hmm] : winner o k (List.map (fun x : Fin n => x.1) (pre ++ [x])) = wput mm k x.1)
          have hml : mm.length = q := by rw [← hmm, winner_length, hol]
          rw [hmm] at hr hle
          clear hmm
          have hx := x.2
          have hp12 := pow2_12 (k := pre.length) (by omega)
          have hin : k ||| 1 <<< x.1 < q := by
            rw [← HQ.out]
            exact Nat.or_lt_two_pow (by rw [HQ.out]; exact hkq) (by rw [Nat.shiftLeft_eq, Nat.one_mul]; exact Nat.pow_lt_pow_right (by omega) hx)
          have hc1 := hbx.cell
          have hc2 := hbi.cell
          have hc3 := hr.cell (k := k) (by omega)
          have hl3 := hle k
          have hsh2 : IntKind.i64.wrap (2 ^ x.1) = ((1 <<< x.1 : Nat) : Int) := i64_shl x.1 (by omega)
          have hjp : 1 <<< x.1 < 65536 := by rw [Nat.shiftLeft_eq, Nat.one_mul]; have := pow_lt x.1 (by omega); omega
          have hor := i64_or_nat k (1 <<< x.1) (by omega) hjp
          have HWP : Hid (wput mm k x.1 = mm.set (k ||| 1 <<< x.1) (M.row mm (k ||| 1 <<< x.1) + M.row mm k)) := (rfl : wput mm k x.1 = mm.set (k ||| 1 <<< x.1) (M.row mm (k ||| 1 <<< x.1) + M.row mm k))
          obtain ⟨y, hy⟩ : ∃ y : Nat, 1 <<< x.1 = y := ⟨_, rfl⟩
          rw [hy] at hsh2 hjp hor hin HWP
          obtain ⟨z, hzd⟩ : ∃ z : Nat, k ||| y = z := ⟨_, rfl⟩
          rw [hzd] at hor hin HWP
          clear hy hzd
          have hc4 := hr.cell (k := z) (by omega)
          have hf4 := hr.frozen z
          have hl4 := hle z
          obtain ⟨rk, hrk⟩ : ∃ rk, M.row mm k = rk := ⟨_, rfl⟩
          obtain ⟨rz, hrz⟩ : ∃ rz, M.row mm z = rz := ⟨_, rfl⟩
          rw [hrk] at hc3 hl3 HWP
          rw [hrz] at hc4 hl4 HWP
          obtain ⟨sm, hsm⟩ : ∃ sm : Nat, rz + rk = sm := ⟨_, rfl⟩
          have hwr : IntKind.i64.wrap ((rz : Int) + rk) = (sm : Int) := by rw [← hsm]; exact i64_wrap_nat (rz + rk) (by omega)
          rw [hsm] at HWP
          have hle2 : ∀ y2, M.row (wput mm k x.1) y2 ≤ 479001600 * 2 ^ (pre ++ [x]).length := fun y2 => by
            have := wput_le (k := k) (x := x.1) hle y2
            rw [List.length_append, List.length_singleton, Nat.pow_succ]
            omega
          clear hrk hrz hsm
          gi_wp2
          refine wpIn_region_still_tail 12 (by kernel_rfl) (by kernel_rfl) (fun _ _ h => h) (by kernel_rfl) ?_
          simp only [List.take_succ_cons, List.take_zero, List.drop_succ_cons, List.drop_zero]
          repeat still_step
          refine wpStill_nil ?_
          go_wp2
          refine ⟨((KeepsOthers.setCell _ _ _).trans (KeepsOthers.drew _)).from _, ((Below.refl _ Wb).setCell (p := ⟨w1.heap.size, z, none⟩) hw1 _).drew, (by rw [HN.out]; exact hle2), ?_, (hrc.other (a := ⟨w1.heap.size, z, none⟩) (by simp; omega) _).drew, boxed_drew (boxed_otherAt hbx (a := ⟨w1.heap.size, z, none⟩) (by simp) _), boxed_drew (boxed_otherAt hbi (a := ⟨w1.heap.size, z, none⟩) (by simp; omega) _), (hB.setCell (p := ⟨w1.heap.size, z, none⟩) hw1 _).drew, (hmk.others (KeepsOthers.setCell _ _ _)).others (KeepsOthers.drew _)⟩
          rw [HN.out, HWP.out]
          exact (hr.set z sm).drew
        case done =>
          rintro D ys Wd hD hys ⟨_, hr, hrc, hbx, hbi, hB, hmk⟩ hK
          have hD' : Wk.heap.size + 1 ≤ D := by simpa using hD
          have hDl := (Array.getElem?_eq_some_iff.1 hK).1
          rw [hys, hall.out] at hr
          go_wp2
          refine ⟨⟨k + 1, { target := .collected D, args := #[] } :: ds, _, _, _, _, _, _, _, _, _, _, _, _, _, _, _, _, _, _, _, _, _, _, _, _, _, _, _, _, by omega, hr, hrc, hbx, hB, ⟨D, by omega, hDl, rfl, hK, hmk.hi hD'⟩, rfl⟩, ?_⟩
          simp [intOf]; omega
        case stop =>
          rintro D c pre W _ _ h _
          exact h.elim
    · obtain rfl : k = q := by omega
      have hce := hrow.cell (k := k - 1) (by rw [hwl]; omega)
      have hwe : M.row (M.wrow c t k []) (k - 1) = M.count c := by
        have := M.wrow_end hdu htr hto (by omega) k (by rw [hcq.out]; omega)
        rw [hcq.out] at this; exact this
      rw [hwe] at hce
      have HCC : Hid (M.count (M.clo (nats zs)) = M.count c) := (by rw [HCD.out] : M.count (M.clo (nats zs)) = M.count c)
      obtain ⟨v, hv⟩ : ∃ v, M.count c = v := ⟨_, rfl⟩
      rw [hv] at hce HCC
      clear hwe hv
      go_wp2_with fail
      refine leaves_marks ds W.heap.size W hB.size hmk (fun W' ht => ⟨_, results_tmp2 rfl _ _ _, ?_, hB.trans ht.below⟩)
      rw [HCC.out]; rfl
end Go.Proofs.YtedmpcadinjjdabDoor
