/- All events in one row (package stamp, Row): the library's sort by its contract, the comparison by a walk; what lay in memory lies as it lay. -/
import Derived.Test.YtkojkiggdbffhaaDoorSpl
import Derived.Test.YtkojkiggdbffhaaDoorBMb
import Derived.Test.YtkojkiggdbffhaaDoorBTr
import Derived.Test.YtkojkiggdbffhaaDoorShp
namespace Go.Proofs.YtkojkiggdbffhaaDoor
open Go.RowKit Go.Sort

/-- how two events stand: by clock, and of one clock by process -/
def cmpK (T : List (Int × Int)) (x y : Nat) : Int := if M.ck T x = M.ck T y then Lib.compareInt (M.pr T x) (M.pr T y) else Lib.compareInt (M.ck T x : Nat) (M.ck T y : Nat)
theorem cmpInt_lt (x y : Int) : Lib.compareInt x y < 0 ↔ x < y := by
  unfold Lib.compareInt
  split
  · constructor <;> intro <;> omega
  · split <;> constructor <;> intro <;> omega
theorem cmpK_lt (T : List (Int × Int)) (x y : Nat) : cmpK T x y < 0 ↔ M.kl T x y := by
  unfold cmpK M.kl
  split
  · rename_i h
    rw [cmpInt_lt]; omega
  · rename_i h
    rw [cmpInt_lt]; omega
set_option maxHeartbeats 1000000 in
theorem rowcmp_ok (T : List (Int × Int)) (n cap A Bc Bt x y : Nat) (p : Option Addr) (W : World) (hl : T.length = n) (hx : x < n) (hy : y < n) (h1 : W.cell? ⟨Bc, 0, none⟩ = some (.slice (some ⟨A, 0, none⟩) n n)) (hL : RowAt 3 W A (M.clocks T)) (h2 : W.cell? ⟨Bt, 1, none⟩ = some (.slice p n cap)) (hE : HasE T p W) :
    Calls Tryd.prog 36 #[.int .i64 (x : Nat), .int .i64 (y : Nat), .pointer (some ⟨Bc, 0, none⟩), .pointer (some ⟨Bt, 0, none⟩)] W fun e w' => e = .returned (.int .i64 (cmpK T x y)) ∧ ∃ q, w' = W.drewN q := by
  have hcx := hL.cell (k := x) (by rw [M.clocks_length]; omega)
  have hcy := hL.cell (k := y) (by rw [M.clocks_length]; omega)
  rw [M.clocks_row T (by omega)] at hcx hcy
  obtain ⟨b, off, rfl, hb, hp1, -⟩ := hE x (by omega)
  obtain ⟨_, _, e0, _, hq1, -⟩ := hE y (by omega)
  cases e0
  have hxi : (x : Int) < (n : Int) := by omega
  have hyi : (y : Int) < (n : Int) := by omega
  unfold cmpK
  obtain ⟨cx, hcxe⟩ : ∃ c, M.ck T x = c := ⟨_, rfl⟩
  obtain ⟨cy, hcye⟩ : ∃ c, M.ck T y = c := ⟨_, rfl⟩
  obtain ⟨px, hpxe⟩ : ∃ c, M.pr T x = c := ⟨_, rfl⟩
  obtain ⟨py, hpye⟩ : ∃ c, M.pr T y = c := ⟨_, rfl⟩
  rw [hcxe] at hcx
  rw [hcye] at hcy
  rw [hpxe] at hp1
  rw [hpye] at hq1
  rw [hcxe, hcye, hpxe, hpye]
  have hcon : ∀ (u v : Int) (W' : World), Calls Tryd.prog 37 #[.int .i64 u, .int .i64 v] W' fun e w' => e = .returned (.int .i64 (Lib.compareInt u v)) ∧ w' = W' := fun u v W' => AnyG.cmp_Compare_int cmpInt u v W'
  clear hcxe hcye hpxe hpye hE hL
  by_cases h : cx = cy
  · rw [if_pos h]
    have n1 : ((cx : Int) != (cy : Int)) = false := by subst h; simp
    have n2 : (cx != cy) = false := by subst h; simp
    clear h
    have hc9 := hcon px py
    generalize Lib.compareInt px py = r at hc9 ⊢
    go_enter Tryd.func36, Tryd.ntmps36
    go_wp2_with fail
    go_big_quiet (fail)
    go_wp2_with fail
    go_big_quiet ((go_at_call 37; refine (hc9 _).mono ?_; rintro e w' ⟨rfl, rfl⟩; exact ⟨rfl, _, rfl⟩))
    go_wp2_with fail
    go_ret
    exact ⟨rfl, _, World.drewN_drewN _ _ _⟩
  · rw [if_neg h]
    have n1 : ((cx : Int) != (cy : Int)) = true := by simp; omega
    have n2 : (cx != cy) = true := by simpa using h
    clear h
    have hc9 := hcon (cx : Nat) (cy : Nat)
    generalize Lib.compareInt (cx : Nat) (cy : Nat) = r at hc9 ⊢
    go_enter Tryd.func36, Tryd.ntmps36
    go_wp2_with fail
    go_big_quiet (fail)
    go_wp2_with fail
    go_big_quiet ((go_at_call 37; refine (hc9 _).mono ?_; rintro e w' ⟨rfl, rfl⟩; exact ⟨rfl, _, rfl⟩))
    go_wp2_with fail
    go_ret
    exact ⟨rfl, _, World.drewN_drewN _ _ _⟩
/-- An event's number as a value. -/
def encF {n : Nat} (x : Fin n) : Value := .int .i64 ((x.val : Nat) : Int)
theorem below_sort {n : Nat} [Inhabited (Fin n)] (w : World) (blk m : Nat) (d : Array (Fin n)) (os : Array Obj) (h : blk < w.heap.size) : Below blk w (sortWorld encF w blk 0 m d os) := by
  refine ⟨rfl, rfl, rfl, ?_, fun k hk => ?_⟩
  · simp [sortWorld, grow, putRow, mapBlock, Sort.ahead]
  · show ((w.heap.modify blk _) ++ os)[k]? = _
    rw [Array.getElem?_append_left (by rw [Array.size_modify]; omega), Array.getElem?_modify, if_neg (by omega)]
theorem all_nodup (n : Nat) : (List.ofFn fun i : Fin n => i).Nodup := by
  rw [List.nodup_iff_pairwise_ne, List.pairwise_iff_getElem]
  intro i j hi hj hij
  rw [List.getElem_ofFn, List.getElem_ofFn]
  exact fun e => by have := congrArg Fin.val e; simp at this; omega
theorem fin_row {T : List (Int × Int)} {n : Nat} [Inhabited (Fin n)] {d d' : Array (Fin n)} (hd : d = Array.ofFn fun i => i) (hp : PermIn 0 d.size d d') (hs : SortedIn (ltOf fun x y : Fin n => cmpK T x.val y.val) 0 d.size d') : M.IsRw T n (d'.toList.map Fin.val) := by
  obtain ⟨hsz, -, hperm⟩ := hp
  have e1 : d.extract 0 d.size = d := Array.extract_size
  have e2 : d'.extract 0 d.size = d' := by rw [← hsz]; exact Array.extract_size
  rw [e1, e2] at hperm
  have el : d.toList = List.ofFn fun i : Fin n => i := by rw [hd, Array.toList_ofFn]
  rw [el] at hperm
  have hall : ∀ x : Fin n, x ∈ d'.toList := fun x => hperm.mem_iff.2 (List.mem_ofFn.2 ⟨x, rfl⟩)
  have hnd : d'.toList.Nodup := hperm.nodup_iff.2 (all_nodup n)
  refine ⟨fun x => ?_, ?_⟩
  · rw [List.mem_map]
    constructor
    · rintro ⟨y, _, rfl⟩; exact y.isLt
    · intro h; exact ⟨⟨x, h⟩, hall _, rfl⟩
  · rw [List.pairwise_map, List.pairwise_iff_getElem]
    intro i j hi hj hij
    have hj' : j < d'.size := by simpa using hj
    have hi' : i < d'.size := by omega
    have h1 := hs i j (Nat.zero_le _) hij (by omega)
    rw [getElem!_pos d' j hj', getElem!_pos d' i hi'] at h1
    have h2 : ¬ M.kl T d'[j].val d'[i].val := fun h => by
      have := (cmpK_lt T _ _).2 h
      unfold ltOf at h1
      rw [decide_eq_true this] at h1
      cases h1
    have h3 : d'[i].val ≠ d'[j].val := fun e => by
      have h4 := List.pairwise_iff_getElem.1 (List.nodup_iff_pairwise_ne.1 hnd) i j hi hj hij
      apply h4
      rw [Array.getElem_toList, Array.getElem_toList]
      exact Fin.ext e
    rw [Array.getElem_toList, Array.getElem_toList]
    rcases M.kl_total (T := T) h3 with h | h
    · exact h
    · exact absurd h h2
theorem sort_ok (T : List (Int × Int)) (n cap A Bc Bt blk : Nat) (p : Option Addr) (w0 w : World) (hl : T.length = n) (hn0 : 0 < n) (hn : n ≤ 24) (hrow : RowAt 3 w blk (List.range n)) (hB0 : Below w0.heap.size w0 w) (hb0 : w0.heap.size ≤ blk)
    (hBc : Bc < blk) (hA : A < blk) (hBt : Bt < blk) (h1 : w.cell? ⟨Bc, 0, none⟩ = some (.slice (some ⟨A, 0, none⟩) n n)) (hL : RowAt 3 w A (M.clocks T)) (h2 : w.cell? ⟨Bt, 1, none⟩ = some (.slice p n cap)) (hE : HasE T p w0) :
    Calls Tryd.prog 35 #[.slice (some ⟨blk, 0, none⟩) n n, .func (.func 36) #[] #[.pointer (some ⟨Bc, 0, none⟩), .pointer (some ⟨Bt, 0, none⟩)]] w fun e w' => e = .returned (.tuple #[]) ∧ ∃ L, M.IsRw T n L ∧ HasI (ints L) (some ⟨blk, 0, none⟩) w' ∧ Below blk w w' := by
  haveI : Inhabited (Fin n) := ⟨⟨0, hn0⟩⟩
  have eg : ∀ args w, (callFunc 36 args).run Tryd.prog w = .ok (.enter 36 args) w := enters_of Tryd.func36 (by kernel_rfl) rfl
  obtain ⟨d, hd⟩ : ∃ d : Array (Fin n), d = Array.ofFn fun i => i := ⟨_, rfl⟩
  have hsz : d.size = n := by rw [hd]; simp
  have hblk := hrow.lt
  have hH : Holds encF w blk 0 d := fun j hj => by
    rw [hsz] at hj
    refine ⟨?_, by rw [Nat.zero_add]; exact hrow.frozen j⟩
    rw [Nat.zero_add, hrow.cell (k := j) (by simp; exact hj), getElem!_pos d j (by omega)]
    subst hd
    simp [encF, M.row, hj]
  have hcmp : CmpLays1 Tryd.prog 36 #[.pointer (some ⟨Bc, 0, none⟩), .pointer (some ⟨Bt, 0, none⟩)] encF (fun x y : Fin n => cmpK T x.val y.val) blk 0 d.size w := CmpReads.lays (fun m os dk _ x y => by
    have hb := below_sort w blk m dk os hblk
    exact rowcmp_ok T n cap A Bc Bt x.val y.val p _ hl x.isLt y.isLt ((hb.cell (p := ⟨Bc, 0, none⟩) hBc).trans h1) (hL.below hb hA) ((hb.cell (p := ⟨Bt, 1, none⟩) hBt).trans h2) (hE.later (hB0.trans (hb.mono hb0))))
  have hO : SWO (ltOf fun x y : Fin n => cmpK T x.val y.val) := by
    have key : ∀ x y : Fin n, ltOf (fun x y : Fin n => cmpK T x.val y.val) x y = true ↔ M.kl T x.val y.val := fun x y => by unfold ltOf; rw [decide_eq_true_eq]; exact cmpK_lt T _ _
    have keyF : ∀ x y : Fin n, ltOf (fun x y : Fin n => cmpK T x.val y.val) x y = false ↔ ¬ M.kl T x.val y.val := fun x y => by rw [← key x y]; simp
    refine ⟨fun x => (keyF x x).2 ?_, fun x y z a b => (key x z).2 ?_, fun x y z a b => (keyF x z).2 ?_⟩
    · unfold M.kl; omega
    · have a := (key x y).1 a
      have b := (key y z).1 b
      unfold M.kl at *; omega
    · have a := (keyF x y).1 a
      have b := (keyF y z).1 b
      unfold M.kl at *; omega
  have hcon := Any.slices_SortFunc sortInt encF (fun _ => rfl) (fun x y : Fin n => cmpK T x.val y.val) hO 36 #[.pointer (some ⟨Bc, 0, none⟩), .pointer (some ⟨Bt, 0, none⟩)] blk 0 n d w eg hcmp hH hblk (by omega)
  rw [hsz] at hcon
  refine Calls.mono (P := Tryd.prog) (f := 35) hcon ?_
  rintro e w' ⟨rfl, d', m, os, hp, hs, rfl⟩
  have hp2 : PermIn 0 d.size d d' := by rw [hsz]; exact hp
  have hs2 : SortedIn (ltOf fun x y : Fin n => cmpK T x.val y.val) 0 d.size d' := by rw [hsz]; exact hs
  have hR := fin_row hd hp2 hs2
  refine ⟨rfl, _, hR, fun j hj => ⟨blk, 0, rfl, lt_sortWorld encF w blk 0 m d' os hblk, ?_⟩, below_sort w blk m d' os hblk⟩
  have hj' : j < d'.size := by rw [ints_length] at hj; simpa using hj
  have hh := (holds_sortWorld encF w blk 0 m d d' os hblk hH hp.1 j hj').1
  rw [hh, getElem!_pos d' j hj', ints_get]
  simp [encF, M.row, hj']
/-- numbers so far, then noughts -/
def iol (n i : Nat) : List Nat := (List.range n).map fun j => if j < i then j else 0
theorem iol_length (n i : Nat) : (iol n i).length = n := by simp [iol]
theorem iol_zero (n : Nat) : iol n 0 = List.replicate n 0 := by
  apply List.ext_getElem
  · simp [iol]
  · intro j h1 h2
    simp [iol]
theorem iol_end (n : Nat) : iol n n = List.range n := by
  apply List.ext_getElem
  · simp [iol]
  · intro j h1 h2
    have : j < n := by simpa [iol] using h1
    simp [iol, this]
theorem iol_set (n i : Nat) : (iol n i).set i i = iol n (i + 1) := by
  apply List.ext_getElem
  · simp [iol]
  · intro j h1 h2
    rw [List.getElem_set]
    simp only [iol, List.getElem_map, List.getElem_range]
    by_cases e : i = j
    · subst e; rw [if_pos rfl, if_pos (by omega)]
    · rw [if_neg e]
      by_cases e2 : j < i
      · rw [if_pos e2, if_pos (by omega)]
      · rw [if_neg e2, if_neg (by omega)]
set_option maxHeartbeats 400000 in
theorem row_err (P : Int) (T : List (Int × Int)) (p : Option Addr) (n cap c : Nat) (w : World) (hl : T.length = n) (hmax : n ≤ maxLen) (hc : HasE T p w) (h0 : M.tcode P T = c) (hne : c ≠ 0) :
    Calls Tryd.prog 13 #[trV P p n cap] w fun e w' => e = .returned (.tuple #[.slice none 0 0, .iface 49 (.int .i64 (c : Nat))]) ∧ RowKit.Below w.heap.size w w' := by
  have hB0 : RowKit.Below w.heap.size w (w.alloc (.cells #[.int .i64 P, .slice p n cap] 24)) := (Below.refl _ _).alloc (Nat.le_refl _) _
  have hcb := hc.later hB0
  go_enter Tryd.func13, Tryd.ntmps13
  go_wp2_with fail
  refine (plain_err P T p n cap c _ hl hmax hcb h0 hne).mono ?_
  rintro e w1 ⟨rfl, hB1⟩
  go_wp2_with fail
  go_ret2
  exact ⟨rfl, bel_al (bel_on hB0 hB1) _⟩
set_option maxRecDepth 100000 in
set_option maxHeartbeats 4000000 in
theorem row_ok (P : Int) (T : List (Int × Int)) (p : Option Addr) (n cap : Nat) (w : World) (hl : T.length = n) (hmax : n ≤ maxLen) (hc : HasE T p w) (h0 : M.tcode P T = 0) :
    Calls Tryd.prog 13 #[trV P p n cap] w fun e w' => ∃ A L, e = .returned (.tuple #[.slice (some ⟨A, 0, none⟩) n n, .nilIface]) ∧ M.IsRw T n L ∧ HasI (ints L) (some ⟨A, 0, none⟩) w' ∧ w.heap.size ≤ A ∧ RowKit.Below w.heap.size w w' := by
  have hok := M.tcode_zero.1 h0
  have hn : n ≤ 24 := hl ▸ hok.len
  have hB0 : RowKit.Below w.heap.size w (w.alloc (.cells #[.int .i64 P, .slice p n cap] 24)) := (Below.refl _ _).alloc (Nat.le_refl _) _
  have hcb := hc.later hB0
  have hmk0 := run_make_row' (P := Tryd.prog) 25 3 (.int .i64 0) 8 Tryd.underlying25 infoInt rfl .i64 .i64 n (by omega) (by omega)
  go_enter Tryd.func13, Tryd.ntmps13
  go_wp2_with fail
  refine (plain_ok P T p n cap _ hl hmax hcb h0).mono ?_
  rintro e w2 ⟨A, rfl, hr, hA, hB1⟩
  have hbox : TBox w2 w.heap.size P p n cap := (tbox_new w P p n cap).later hB1 (by simp)
  have hC2 := bel_on hB0 hB1
  have hbl := hbox.lt
  have hAl := hr.lt
  have hAg : w.heap.size ≤ A := by have := hB0.size; omega
  clear hB0 hB1 hcb hA
  obtain ⟨w3, hw3⟩ : ∃ w3, w2.alloc (.cells #[.slice (some ⟨A, 0, none⟩) n n] 25) = w3 := ⟨_, rfl⟩
  have s3 : w3.heap.size = w2.heap.size + 1 := by subst hw3; simp
  have hB3 : RowKit.Below w2.heap.size w2 w3 := hw3 ▸ bel_al (Below.refl _ _) _
  have hk3 : w3.cell? ⟨w2.heap.size, 0, none⟩ = some (.slice (some ⟨A, 0, none⟩) n n) := by subst hw3; simp
  have hr3 := hr.below hB3 hAl
  have hbox3 := hbox.later hB3 hbl
  obtain ⟨w4, hw4⟩ : ∃ w4, w3.alloc (.cells (madeCells #[.int .i64 0] n) 3) = w4 := ⟨_, rfl⟩
  have hB4 : RowKit.Below w3.heap.size w3 w4 := hw4 ▸ bel_al (Below.refl _ _) _
  have hR4 : RowAt 3 w4 (w2.heap.size + 1) (iol n 0) := by subst hw4; unfold RowAt; rw [← s3, World.alloc_heap_new, made_noughts, iol_zero]
  go_wp2_with fail
  go_loopw [21] (fun v wr => ∃ i : Nat, v = .int .i64 i ∧ i ≤ n ∧ RowAt 3 wr (w2.heap.size + 1) (iol n i) ∧ RowKit.Below w3.heap.size w3 wr) (fun v _ => n - (intOf v).toNat)
  case atStart => exact ⟨0, rfl, Nat.zero_le _, hR4, hB4⟩
  case round =>
    clear hw3 hw4 hR4 hB4 hmk0
    obtain ⟨i, rfl, hi, hR, hB⟩ := hrel
    by_cases hlt : i < n
    · have hcR := hR.cell (k := i) (by rw [iol_length]; exact hlt)
      have hfR := hR.frozen i
      obtain ⟨z, hz⟩ : ∃ z, M.row (iol n i) i = z := ⟨_, rfl⟩
      rw [hz] at hcR
      clear hz
      have hR2 := hR.set i i
      rw [iol_set] at hR2
      have H1 : Hid _ := hR2
      have hB2 := hB.setCell (p := ⟨w2.heap.size + 1, i, none⟩) (show w3.heap.size ≤ w2.heap.size + 1 by omega) (.int .i64 (i : Nat))
      clear hR hR2
      go_wp2_with fail
      go_roundw
      case rel => exact ⟨i + 1, by go_num, by omega, H1.out, hB2⟩
      case measure => simp [intOf]; omega
    · obtain rfl : i = n := by omega
      rw [iol_end] at hR
      have hC := bel_on hC2 (bel_on hB3 hB)
      go_wp2_with fail
      by_cases hn0 : 0 < i
      · refine (sort_ok T i cap A w2.heap.size w.heap.size (w2.heap.size + 1) p w wr hl hn0 hn hR hC (by omega) (by omega) (by omega) (by omega) ((hB.cell (p := ⟨w2.heap.size, 0, none⟩) (show w2.heap.size < w3.heap.size by omega)).trans hk3) (hr3.below hB (by omega)) (hbox3.later hB (by omega)).events hc).mono ?_
        rintro e w5 ⟨rfl, L, hL, hI, hB5⟩
        go_wp2_with fail
        go_ret2
        exact ⟨w2.heap.size + 1, L, rfl, hL, hI, by omega, hC.trans (hB5.mono (by omega))⟩
      · obtain rfl : i = 0 := by omega
        refine Calls.mono (P := Tryd.prog) (f := 35) (AnyF.slices_SortFunc_none { sortInt with } (some ⟨w2.heap.size + 1, 0, none⟩) 0 (.func (.func 36) #[] #[.pointer (some ⟨w2.heap.size, 0, none⟩), .pointer (some ⟨w.heap.size, 0, none⟩)]) wr) ?_
        rintro e w5 ⟨rfl, rfl⟩
        go_wp2_with fail
        go_ret2
        exact ⟨w2.heap.size + 1, [], rfl, ⟨fun x => by simp, by simp⟩, fun j hj => absurd hj (by simp [ints]), by omega, hC⟩
end Go.Proofs.YtkojkiggdbffhaaDoor
