/- Stamps of a trace and times (package hybrid, Stamps), at whatever numbers; what lay in memory lies as it lay. -/
import Derived.Test.YtkojkiggdbffhaaDoorBHy
import Derived.Deep.CutRange
namespace Go.Proofs.YtkojkiggdbffhaaDoor
open Go.RowKit

set_option maxHeartbeats 400000 in
theorem stamps_err (P : Int) (T : List (Int × Int)) (p : Option Addr) (n cap : Nat) (zs : List Int) (q : Option Addr) (m cap2 c : Nat) (w : World) (hl : T.length = n) (hmax : n ≤ maxLen) (hc : HasE T p w) (hl2 : zs.length = m) (hmax2 : m ≤ maxLen) (hz : HasI zs q w) (h0 : M.hcode P T zs = c) (hne : c ≠ 0) :
    Calls Tryd.prog 16 #[trV P p n cap, .slice q m cap2] w fun e w' => e = .returned (.tuple #[.slice none 0 0, .iface 49 (.int .i64 (c : Nat))]) ∧ Below w.heap.size w w' := by
  have hB0 : Below w.heap.size w (w.alloc (.cells #[.int .i64 P, .slice p n cap] 24)) := (Below.refl _ _).alloc (Nat.le_refl _) _
  have hcb := hc.later hB0
  have hzb := hz.later hB0
  go_enter Tryd.func16, Tryd.ntmps16
  go_wp2_with fail
  refine (hcheck_ok P T p n cap zs q m cap2 _ hl hmax hcb hl2 hmax2 hzb).mono ?_
  rw [h0, terr_ne hne]
  rintro e w1 ⟨rfl, hB1⟩
  go_wp2_with fail
  go_ret2
  exact ⟨rfl, bel_on hB0 hB1⟩
theorem infoStamp : (Tryd.prog.info? 47).map (fun i => (i.zero, i.size, i.bytes)) = some (some (.agg #[.int .i64 0, .int .i64 0]), 2, 16) := by kernel_rfl
theorem made_stamps (n : Nat) : madeCells #[.int .i64 0, .int .i64 0] n = arrZ (List.replicate n 0) := by
  apply Array.ext_getElem?
  intro k
  by_cases h : k < n
  · rw [arrZ_get _ _ (by simp [h])]
    have h2 : k % 2 = 0 ∨ k % 2 = 1 := by omega
    rcases h2 with h2 | h2 <;> simp [madeCells, h, M.rowZ, h2]
  · rw [Array.getElem?_eq_none (by simp [madeCells]; omega), Array.getElem?_eq_none (by rw [arrZ_size]; simp; omega)]
theorem make_stamps (n : Nat) (hn : n ≤ 24) (w : World) : (Instr.makeSlice 41 (.int .i64 (n : Int)) (.int .i64 (n : Int))).run Tryd.prog w = .ok (.slice (some ⟨w.heap.size, 0, none⟩) n n) (w.alloc (.cells (madeCells #[.int .i64 0, .int .i64 0] (n * 2)) 47)) := by
  obtain ⟨i, hi, hzz⟩ := Option.map_eq_some_iff.1 infoStamp
  simp only [Prod.mk.injEq] at hzz
  obtain ⟨hz, hs, hb⟩ := hzz
  have := run_make (P := Tryd.prog) w 41 47 i _ Tryd.underlying41 hi hz .i64 .i64 n n (by omega) (Int.le_refl _) (by rw [hb]; omega) (by omega)
  rw [hs] at this
  simp only [Int.toNat_natCast] at this
  exact this
theorem heard_belQ (a f : Int) (b : Bool) (w w0 : World) (h : (f != -1) = b) (hB : Below w0.heap.size w0 w) : Calls Tryd.prog 25 #[.agg #[.int .i64 a, .int .i64 f]] w fun e w' => e = .returned (.bool b) ∧ Below w0.heap.size w0 w' := by
  refine (heard_bel a f b w h).mono ?_
  rintro e w' ⟨h1, h2⟩
  exact ⟨h1, bel_on hB h2⟩
theorem less_belQ (a c b d : Int) (r : Bool) (w w0 : World) (hr : M.lsB a c b d = r) (hB : Below w0.heap.size w0 w) : Calls Tryd.prog 18 #[stV a c, stV b d] w fun e w' => e = .returned (.bool r) ∧ Below w0.heap.size w0 w' := by
  refine (less_ok a c b d r w hr).mono ?_
  rintro e w' ⟨h1, h2⟩
  exact ⟨h1, bel_on hB h2⟩
set_option maxRecDepth 100000 in
set_option maxHeartbeats 4000000 in
theorem stamps_ok (P : Int) (T : List (Int × Int)) (p : Option Addr) (n cap : Nat) (zs : List Int) (q : Option Addr) (cap2 : Nat) (w : World) (hl : T.length = n) (hmax : n ≤ maxLen) (hc : HasE T p w) (hz : HasI zs q w) (hok : M.HOk P T zs) :
    Calls Tryd.prog 16 #[trV P p n cap, .slice q n cap2] w fun e w' => ∃ A, e = .returned (.tuple #[.slice (some ⟨A, 0, none⟩) n n, .nilIface]) ∧ RowZ 47 w' A (M.stl T (M.tm zs) n n) ∧ w.heap.size ≤ A ∧ Below w.heap.size w w' := by
  have hn : n ≤ 24 := hl ▸ hok.tr.len
  have hl2 : zs.length = n := hok.len.trans hl
  have hB0 : Below w.heap.size w (w.alloc (.cells #[.int .i64 P, .slice p n cap] 24)) := (Below.refl _ _).alloc (Nat.le_refl _) _
  have hcb := hc.later hB0
  have hzb := hz.later hB0
  have hmk0 := make_stamps n hn
  go_enter Tryd.func16, Tryd.ntmps16
  go_wp2_with fail
  refine (hcheck_ok P T p n cap zs q n cap2 _ hl hmax hcb hl2 hmax hzb).mono ?_
  rw [M.hcode_zero.2 hok, terr_zero]
  rintro e w1 ⟨rfl, hB1⟩
  have hbox : TBox w1 w.heap.size P p n cap := (tbox_new w P p n cap).later hB1 (by simp)
  have hC1 := bel_on hB0 hB1
  have hc1 := hc.later hC1
  have hz1 := hz.later hC1
  have hk1 := hbox.procs
  have hk2 := hbox.events
  have hbl := hbox.lt
  clear hB0 hB1 hcb hc hz hzb
  obtain ⟨wA, hwA⟩ : ∃ wA, w1.alloc (.cells (madeCells #[.int .i64 0, .int .i64 0] (n * 2)) 47) = wA := ⟨_, rfl⟩
  have hrA : RowZ 47 wA w1.heap.size (M.stl T (M.tm zs) n 0) := by
    subst hwA
    unfold RowZ
    rw [World.alloc_heap_new, made_stamps, M.stl_zero]
  have hBA : Below w1.heap.size w1 wA := hwA ▸ bel_al (Below.refl _ _) _
  go_wp2_with fail
  refine (nothing_ok _).mono ?_
  rintro e w2 ⟨rfl, hB2⟩
  have hrA2 : RowZ 47 w2 w1.heap.size _ := hrA.below hB2 hrA.lt
  have hBA2 := bel_on hBA hB2
  have hAK : w1.heap.size < w2.heap.size := hrA2.lt
  have hk2b := (hbox.later hBA2 hbl).events
  have hbl2 := (hbox.later hBA2 hbl).lt
  clear hwA hmk0
  go_wp2_with fail
  obtain ⟨w3, hw3⟩ : ∃ w3, w2.alloc (.cells #[.int .i64 (-1), .int .i64 0, .int .i64 (-1), .int .i64 0, .int .i64 (-1), .int .i64 0, .int .i64 (-1), .int .i64 0, .int .i64 (-1), .int .i64 0] 71) = w3 := ⟨_, rfl⟩
  have hrA3 : RowZ 47 w3 w1.heap.size _ := hw3 ▸ hrA2.alloc _
  have hrK : RowZ 71 w3 w2.heap.size (M.ksl T (M.tm zs) 0) := by
    subst hw3
    unfold RowZ
    rw [World.alloc_heap_new, M.ksl_zero]
    rfl
  have hB3 : Below w1.heap.size w1 w3 := hw3 ▸ bel_al hBA2 _
  have hk2c := (hbox.later hB3 hbl).events
  clear hrA hBA hB2 hrA2
  rw [hw3]
  obtain ⟨K, hK⟩ : ∃ K, w2.heap.size = K := ⟨_, rfl⟩
  rw [hK] at hAK hrK ⊢
  go_loopw [26] (fun v wr => ∃ i : Nat, v = .int .i64 i ∧ i ≤ n ∧ RowZ 47 wr w1.heap.size (M.stl T (M.tm zs) n i) ∧ RowZ 71 wr K (M.ksl T (M.tm zs) i) ∧ Below w1.heap.size w1 wr) (fun v _ => n - (intOf v).toNat)
  case atStart => exact ⟨0, rfl, Nat.zero_le _, hrA3, hrK, hB3⟩
  case round =>
    clear hk1 hk2 hk2b hbl2 hk2c hrA3 hrK hB3 hw3 hBA2 hK
    obtain ⟨i, rfl, hi, hA, hK, hB⟩ := hrel
    have hbr := hbox.later hB hbl
    by_cases hlt : i < n
    · obtain ⟨b, off, rfl, hb, hp1, hp2⟩ := (hc1.later hB) i (by omega)
      have hT : i < T.length := by omega
      have hzt := hok.tm hT
      have htb := hok.tmB i hT
      have ha0 := hok.tr.pr0 i hT
      have haP := hok.tr.prP i hT
      have hf0 := hok.tr.fm0 i hT
      have hfI := hok.tr.fmI i hT
      have hP5 := hok.tr.p5
      obtain ⟨a, ha⟩ : ∃ a : Nat, M.pr T i = a := ⟨(M.pr T i).toNat, by omega⟩
      have ha5 : a < 5 := by omega
      have hai : (a : Int) < 5 := by omega
      rw [ha] at hp1
      have HA : Hid (M.pr T i = (a : Nat)) := ha
      obtain ⟨x, hx⟩ : ∃ x, M.kT T (M.tm zs) (a : Int) i = x := ⟨_, rfl⟩
      obtain ⟨c, hcc⟩ : ∃ c, M.kC T (M.tm zs) (a : Int) i = c := ⟨_, rfl⟩
      have hcb : c ≤ 24 := by have h1 := M.kC_bound T (M.tm zs) (a : Int) i; omega
      have HX : Hid (M.kT T (M.tm zs) (a : Int) i = x) := hx
      have HC : Hid (M.kC T (M.tm zs) (a : Int) i = c) := hcc
      obtain ⟨tt, htt⟩ : ∃ tt, M.tm zs i = tt := ⟨_, rfl⟩
      rw [htt] at hzt
      have HT : Hid (M.tm zs i = tt) := htt
      clear ha hx hcc ha0 haP htt htb
      by_cases hfm : M.fm T i = -1
      ·
        have hlat := M.lat_none (t := M.tm zs) hok.tr hT (by omega)
        rw [HA.out, HX.out, HC.out] at hlat
        have hst := hlat.step hok.tr hT
        rw [HT.out] at hst
        have HN1 : Hid (M.nxT x (tt : Nat) = (M.hT T (M.tm zs) i : Nat)) := hst.1
        have HN2 : Hid (M.nxC x (c : Nat) (tt : Nat) = (M.hC T (M.tm zs) i : Nat)) := hst.2
        clear hlat hst
        rw [hfm] at hp2
        obtain ⟨w4, hw4⟩ : ∃ w4, wr.alloc (.cells #[.int .i64 (a : Nat), .int .i64 (-1)] 53) = w4 := ⟨_, rfl⟩
        have hB4 : Below w1.heap.size w1 w4 := hw4 ▸ bel_al hB _
        have hA4 : RowZ 47 w4 w1.heap.size _ := hw4 ▸ hA.alloc _
        have hK4 : RowZ 71 w4 K _ := hw4 ▸ hK.alloc _
        have hE0 : w4.cell? ⟨wr.heap.size, 0, none⟩ = some (.int .i64 (a : Nat)) := hw4 ▸ ev_cell0 rfl _ _
        have hE1 : w4.cell? ⟨wr.heap.size, 1, none⟩ = some (.int .i64 (-1)) := hw4 ▸ ev_cell1 rfl _ _
        have hEl : wr.heap.size < w4.heap.size := by subst hw4; simp
        have hcK0 := hK4.cell (k := a * 2) (by rw [M.ksl_length]; omega)
        have hcK1 := hK4.cell (k := a * 2 + 1) (by rw [M.ksl_length]; omega)
        rw [M.ksl_T T _ i ha5, HX.out] at hcK0
        rw [M.ksl_C T _ i ha5, HC.out] at hcK1
        have hKlt := hK.lt
        have hAlt := hA.lt
        obtain ⟨w5, hw5⟩ : ∃ w5, w4.alloc (.cells #[.int .i64 x, .int .i64 (c : Nat)] 47) = w5 := ⟨_, rfl⟩
        have hB5 : Below w1.heap.size w1 w5 := hw5 ▸ bel_al hB4 _
        have hB45 : Below w4.heap.size w4 w5 := hw5 ▸ bel_al (Below.refl _ _) _
        have hA5 : RowZ 47 w5 w1.heap.size _ := hw5 ▸ hA4.alloc _
        have hK5 : RowZ 71 w5 K _ := hw5 ▸ hK4.alloc _
        have hL0 : w5.cell? ⟨w4.heap.size, 0, none⟩ = some (.int .i64 x) := by subst hw5; simp
        have hL1 : w5.cell? ⟨w4.heap.size, 1, none⟩ = some (.int .i64 (c : Nat)) := by subst hw5; simp
        have hLl : w4.heap.size < w5.heap.size := by subst hw5; simp
        have hF0 := (hB45.cell (p := ⟨wr.heap.size, 0, none⟩) hEl).trans hE0
        have hF1 := (hB45.cell (p := ⟨wr.heap.size, 1, none⟩) hEl).trans hE1
        have hEl5 : wr.heap.size < w5.heap.size := by omega
        have hLr : RowZ 47 w5 w4.heap.size [x, (c : Int)] := by
          subst hw5
          unfold RowZ
          rw [World.alloc_heap_new]
          rfl
        have hmk : ∀ w', Below w5.heap.size w5 w' → w'.cell? ⟨wr.heap.size, 0, none⟩ = some (.int .i64 (a : Nat)) ∧ w'.cell? ⟨wr.heap.size, 1, none⟩ = some (.int .i64 (-1)) ∧ Below w5.heap.size w5 w' := fun w' h => ⟨(h.cell (p := ⟨wr.heap.size, 0, none⟩) hEl5).trans hF0, (h.cell (p := ⟨wr.heap.size, 1, none⟩) hEl5).trans hF1, h⟩
        have hn1 : ∀ W, Below w5.heap.size w5 W → Calls Tryd.prog 25 #[.agg #[.int .i64 (a : Nat), .int .i64 (-1)]] W fun e w' => e = .returned (.bool false) ∧ Below w5.heap.size w5 w' := fun W hW => heard_belQ _ _ _ W w5 rfl hW
        clear hB4 hA4 hK4 hB45
        go_upto_region 10 with fail
        clear hcK0 hcK1 hE0 hE1 hp1 hp2
        refine wp_region_held_drew (S := fun w' => w'.cell? ⟨wr.heap.size, 0, none⟩ = some (.int .i64 (a : Nat)) ∧ w'.cell? ⟨wr.heap.size, 1, none⟩ = some (.int .i64 (-1)) ∧ Below w5.heap.size w5 w') (by kernel_rfl) (hmk _ (Below.refl _ _).drew) (fun hHeld => ?_)
        refine wpAnyH_take (i := 0) (oi := { dst := some 35, op := Op.load 53 (Operand.tmp 10), type := 53, pos := "hybrid.go:34", after := #[], guard := none }) (v := ?_) rfl (by kernel_rfl) (by kernel_rfl) (by kernel_rfl) (fun _ _ _ h => h) (Or.inl ⟨by rfl, ?_⟩) hHeld ?_
        rotate_left 1
        · intro w9 hSw
          try dsimp only at hSw
          go_simp
          try with_reducible rfl
        try simp only [Act.put, List.setIfInBounds_toArray, List.set_cons_zero, List.set_cons_succ]
        refine wpAnyH_ready (rs := [1]) (by kernel_rfl) (by simp) ?_
        refine AllReadyH.cons (o := { dst := some 36, op := Op.call { callee := Callee.value (Operand.func 25), args := #[Operand.tmp 35], argTypes := #[53] }, type := 4, pos := "hybrid.go:34", after := #[{ on := 0, ground := Ground.data }], guard := none }) rfl (fun K hK => ?_) AllReadyH.nil
        go_simp
        go_at_call 25
        refine (hn1 _ hHeld.2.2).mono ?_
        rintro e w6 ⟨rfl, hB6⟩
        go_wp2_with fail
        refine hK.out _ _ (hmk _ hB6) (fun hHeld2 => ?_)
        clear hK K hHeld
        have hHeld := hHeld2
        clear hHeld2
        try simp only [Act.put, List.setIfInBounds_toArray, List.set_cons_zero, List.set_cons_succ]
        refine wpAnyH_take (i := 2) (oi := { dst := some 37, op := Op.move (Operand.tmp 36), type := 4, pos := "hybrid.go:34", after := #[{ on := 1, ground := Ground.data }, { on := 1, ground := Ground.chain }], guard := none }) (v := ?_) rfl (by kernel_rfl) (by kernel_rfl) (by kernel_rfl) (fun _ _ _ h => h) (Or.inl ⟨by rfl, ?_⟩) hHeld ?_
        rotate_left 1
        · intro w9 hSw
          try dsimp only at hSw
          go_simp
          try with_reducible rfl
        try simp only [Act.put, List.setIfInBounds_toArray, List.set_cons_zero, List.set_cons_succ]
        refine wpAnyH_take (i := 3) (oi := { dst := some 38, op := Op.load 47 (Operand.tmp 11), type := 47, pos := "hybrid.go:34", after := #[{ on := 2, ground := Ground.guard }], guard := some (2, true) }) (v := undef) rfl (by kernel_rfl) (by kernel_rfl) (by kernel_rfl) (fun _ _ _ h => h) (Or.inr ⟨by rfl, rfl⟩) hHeld ?_
        try simp only [Act.put, List.setIfInBounds_toArray, List.set_cons_zero, List.set_cons_succ]
        refine wpAnyH_take (i := 4) (oi := { dst := some 39, op := Op.move (Operand.tmp 7), type := 41, pos := "hybrid.go:34", after := #[{ on := 2, ground := Ground.guard }], guard := some (2, true) }) (v := undef) rfl (by kernel_rfl) (by kernel_rfl) (by kernel_rfl) (fun _ _ _ h => h) (Or.inr ⟨by rfl, rfl⟩) hHeld ?_
        try simp only [Act.put, List.setIfInBounds_toArray, List.set_cons_zero, List.set_cons_succ]
        refine wpAnyH_take (i := 5) (oi := { dst := some 40, op := Op.fieldAddr 53 (Operand.tmp 10) 1, type := 0, pos := "hybrid.go:34", after := #[{ on := 2, ground := Ground.guard }], guard := some (2, true) }) (v := undef) rfl (by kernel_rfl) (by kernel_rfl) (by kernel_rfl) (fun _ _ _ h => h) (Or.inr ⟨by rfl, rfl⟩) hHeld ?_
        try simp only [Act.put, List.setIfInBounds_toArray, List.set_cons_zero, List.set_cons_succ]
        refine wpAnyH_take (i := 6) (oi := { dst := some 41, op := Op.load 3 (Operand.tmp 40), type := 3, pos := "hybrid.go:34", after := #[{ on := 5, ground := Ground.data }, { on := 2, ground := Ground.guard }], guard := some (2, true) }) (v := undef) rfl (by kernel_rfl) (by kernel_rfl) (by kernel_rfl) (fun _ _ _ h => h) (Or.inr ⟨by rfl, rfl⟩) hHeld ?_
        try simp only [Act.put, List.setIfInBounds_toArray, List.set_cons_zero, List.set_cons_succ]
        refine wpAnyH_take (i := 7) (oi := { dst := some 42, op := Op.indexAddr 41 (Operand.tmp 39) (Operand.tmp 41), type := 0, pos := "hybrid.go:34", after := #[{ on := 4, ground := Ground.data }, { on := 6, ground := Ground.data }, { on := 2, ground := Ground.guard }], guard := some (2, true) }) (v := undef) rfl (by kernel_rfl) (by kernel_rfl) (by kernel_rfl) (fun _ _ _ h => h) (Or.inr ⟨by rfl, rfl⟩) hHeld ?_
        try simp only [Act.put, List.setIfInBounds_toArray, List.set_cons_zero, List.set_cons_succ]
        refine wpAnyH_take (i := 8) (oi := { dst := some 43, op := Op.load 47 (Operand.tmp 42), type := 47, pos := "hybrid.go:34", after := #[{ on := 7, ground := Ground.data }, { on := 2, ground := Ground.guard }], guard := some (2, true) }) (v := undef) rfl (by kernel_rfl) (by kernel_rfl) (by kernel_rfl) (fun _ _ _ h => h) (Or.inr ⟨by rfl, rfl⟩) hHeld ?_
        try simp only [Act.put, List.setIfInBounds_toArray, List.set_cons_zero, List.set_cons_succ]
        refine wpAnyH_take (i := 9) (oi := { dst := some 44, op := Op.call { callee := Callee.value (Operand.func 18), args := #[Operand.tmp 38, Operand.tmp 43], argTypes := #[47, 47] }, type := 4, pos := "hybrid.go:34", after := #[{ on := 3, ground := Ground.data }, { on := 8, ground := Ground.data }, { on := 2, ground := Ground.chain }, { on := 2, ground := Ground.guard }], guard := some (2, true) }) (v := undef) rfl (by kernel_rfl) (by kernel_rfl) (by kernel_rfl) (fun _ _ _ h => h) (Or.inr ⟨by rfl, rfl⟩) hHeld ?_
        try simp only [Act.put, List.setIfInBounds_toArray, List.set_cons_zero, List.set_cons_succ]
        refine wpAnyH_take (i := 10) (oi := { dst := some 45, op := Op.pick (Operand.tmp 37) (Operand.tmp 44) (Operand.const (Value.bool false)), type := 4, pos := "hybrid.go:34", after := #[{ on := 2, ground := Ground.data }, { on := 9, ground := Ground.data }], guard := none }) (v := ?_) rfl (by kernel_rfl) (by kernel_rfl) (by kernel_rfl) (fun _ _ _ h => h) (Or.inl ⟨by rfl, ?_⟩) hHeld ?_
        rotate_left 1
        · intro w9 hSw
          try dsimp only at hSw
          go_simp
          try with_reducible rfl
        try simp only [Act.put, List.setIfInBounds_toArray, List.set_cons_zero, List.set_cons_succ]
        refine wpAnyH_done (by kernel_rfl) ?_ _
        clear hHeld
        clear hmk hn1 
        have hA6 : RowZ 47 w6 w1.heap.size _ := hA5.below hB6 hA5.lt
        have hK6 : RowZ 71 w6 K _ := hK5.below hB6 hK5.lt
        have hL6 : RowZ 47 w6 w4.heap.size _ := hLr.below hB6 hLl
        have hG0 := (hB6.cell (p := ⟨wr.heap.size, 0, none⟩) hEl5).trans hF0
        have hG1 := (hB6.cell (p := ⟨wr.heap.size, 1, none⟩) hEl5).trans hF1
        have hC6 := bel_on hB5 hB6
        have hEl6 : wr.heap.size < w6.heap.size := Nat.lt_of_lt_of_le hEl5 hB6.size
        have hLw : w1.heap.size ≤ w4.heap.size := by omega
        have hne1 : w1.heap.size ≠ w4.heap.size := by omega
        have hne2 : K ≠ w4.heap.size := by omega
        have hne3 : w4.heap.size ≠ wr.heap.size := by omega
        have hne4 : w1.heap.size ≠ wr.heap.size := by omega
        have hne5 : K ≠ w1.heap.size := by omega
        have hq0 := hL6.cell (k := 0) (by simp)
        have hq1 := hL6.cell (k := 1) (by simp)
        change w6.cell? _ = some (.int .i64 x) at hq0
        change w6.cell? _ = some (.int .i64 (c : Nat)) at hq1
        clear hw4 hw5 hA5 hK5 hLr hF0 hF1 hL0 hL1 hB5 hA hK hB hbr 
        obtain ⟨bz, oz, rfl, hbz1, hcz1⟩ := hz1.at_ (show i < zs.length by omega) hzt
        have hcz := (hC6.cell (p := ⟨bz, oz + i, none⟩) hbz1).trans hcz1
        have hbz : bz < w6.heap.size := Nat.lt_of_lt_of_le hbz1 hC6.size
        have hLlt := hL6.lt
        have hAl6 := hA6.lt
        have hiI : (i : Int) < (n : Int) := by omega
        have HNX := next_ok x (c : Nat) (tt : Nat)
        rw [HN1.out, HN2.out] at HNX
        obtain ⟨v, hv⟩ : ∃ v : Nat, M.hT T (M.tm zs) i = v := ⟨_, rfl⟩
        obtain ⟨d, hd⟩ : ∃ v : Nat, M.hC T (M.tm zs) i = v := ⟨_, rfl⟩
        rw [hv, hd] at HNX
        have HV : Hid (M.hT T (M.tm zs) i = v) := hv
        have HD : Hid (M.hC T (M.tm zs) i = d) := hd
        clear hv hd
        go_upto_region 12 with fail
        refine wp_region_held_drew (S := fun w' => w'.cell? ⟨w4.heap.size, 0, none⟩ = some (.int .i64 x) ∧ w'.cell? ⟨w4.heap.size, 1, none⟩ = some (.int .i64 (c : Nat)) ∧ w'.cell? ⟨bz, oz + i, none⟩ = some (.int .i64 (tt : Nat))) (by kernel_rfl) (⟨hq0, hq1, hcz⟩) (fun hHeld => ?_)
        refine wpAnyH_take (i := 0) (oi := { dst := some 51, op := Op.move (Operand.tmp 7), type := 41, pos := "hybrid.go:37", after := #[], guard := none }) (v := ?_) rfl (by kernel_rfl) (by kernel_rfl) (by kernel_rfl) (fun _ _ _ h => h) (Or.inl ⟨by rfl, ?_⟩) hHeld ?_
        rotate_left 1
        · intro w9 hSw
          try dsimp only at hSw
          go_simp
          try with_reducible rfl
        try simp only [Act.put, List.setIfInBounds_toArray, List.set_cons_zero, List.set_cons_succ]
        refine wpAnyH_take (i := 1) (oi := { dst := some 52, op := Op.move (Operand.tmp 9), type := 3, pos := "hybrid.go:37", after := #[], guard := none }) (v := ?_) rfl (by kernel_rfl) (by kernel_rfl) (by kernel_rfl) (fun _ _ _ h => h) (Or.inl ⟨by rfl, ?_⟩) hHeld ?_
        rotate_left 1
        · intro w9 hSw
          try dsimp only at hSw
          go_simp
          try with_reducible rfl
        try simp only [Act.put, List.setIfInBounds_toArray, List.set_cons_zero, List.set_cons_succ]
        refine wpAnyH_take (i := 2) (oi := { dst := some 53, op := Op.load 47 (Operand.tmp 11), type := 47, pos := "hybrid.go:37", after := #[], guard := none }) (v := ?_) rfl (by kernel_rfl) (by kernel_rfl) (by kernel_rfl) (fun _ _ _ h => h) (Or.inl ⟨by rfl, ?_⟩) hHeld ?_
        rotate_left 1
        · intro w9 hSw
          try dsimp only at hSw
          go_simp
          try with_reducible rfl
        try simp only [Act.put, List.setIfInBounds_toArray, List.set_cons_zero, List.set_cons_succ]
        refine wpAnyH_take (i := 3) (oi := { dst := some 54, op := Op.move (Operand.tmp 1), type := 25, pos := "hybrid.go:37", after := #[], guard := none }) (v := ?_) rfl (by kernel_rfl) (by kernel_rfl) (by kernel_rfl) (fun _ _ _ h => h) (Or.inl ⟨by rfl, ?_⟩) hHeld ?_
        rotate_left 1
        · intro w9 hSw
          try dsimp only at hSw
          go_simp
          try with_reducible rfl
        try simp only [Act.put, List.setIfInBounds_toArray, List.set_cons_zero, List.set_cons_succ]
        refine wpAnyH_take (i := 4) (oi := { dst := some 55, op := Op.move (Operand.tmp 9), type := 3, pos := "hybrid.go:37", after := #[], guard := none }) (v := ?_) rfl (by kernel_rfl) (by kernel_rfl) (by kernel_rfl) (fun _ _ _ h => h) (Or.inl ⟨by rfl, ?_⟩) hHeld ?_
        rotate_left 1
        · intro w9 hSw
          try dsimp only at hSw
          go_simp
          try with_reducible rfl
        try simp only [Act.put, List.setIfInBounds_toArray, List.set_cons_zero, List.set_cons_succ]
        refine wpAnyH_take (i := 5) (oi := { dst := some 56, op := Op.indexAddr 25 (Operand.tmp 54) (Operand.tmp 55), type := 0, pos := "hybrid.go:37", after := #[{ on := 3, ground := Ground.data }, { on := 4, ground := Ground.data }], guard := none }) (v := ?_) rfl (by kernel_rfl) (by kernel_rfl) (by kernel_rfl) (fun _ _ _ h => h) (Or.inl ⟨by rfl, ?_⟩) hHeld ?_
        rotate_left 1
        · intro w9 hSw
          try dsimp only at hSw
          go_simp
          try with_reducible rfl
        try simp only [Act.put, List.setIfInBounds_toArray, List.set_cons_zero, List.set_cons_succ]
        refine wpAnyH_take (i := 6) (oi := { dst := some 57, op := Op.load 3 (Operand.tmp 56), type := 3, pos := "hybrid.go:37", after := #[{ on := 5, ground := Ground.data }], guard := none }) (v := ?_) rfl (by kernel_rfl) (by kernel_rfl) (by kernel_rfl) (fun _ _ _ h => h) (Or.inl ⟨by rfl, ?_⟩) hHeld ?_
        rotate_left 1
        · intro w9 hSw
          try dsimp only at hSw
          go_simp
          try with_reducible rfl
        try simp only [Act.put, List.setIfInBounds_toArray, List.set_cons_zero, List.set_cons_succ]
        refine wpAnyH_ready (rs := [7]) (by kernel_rfl) (by simp) ?_
        refine AllReadyH.cons (o := { dst := some 58, op := Op.call { callee := Callee.value (Operand.func 41), args := #[Operand.tmp 53, Operand.tmp 57], argTypes := #[47, 3] }, type := 47, pos := "hybrid.go:37", after := #[{ on := 2, ground := Ground.data }, { on := 6, ground := Ground.data }], guard := none }) rfl (fun K hK => ?_) AllReadyH.nil
        go_simp
        go_at_call 41
        refine (HNX _ (by omega) (by omega)).mono ?_
        rintro e w9 ⟨rfl, hB9'⟩
        have hB9 : Below w6.heap.size w6 w9 := bel_on (Below.refl _ w6).drew hB9'
        have hs0 := (hB9.cell (p := ⟨w4.heap.size, 0, none⟩) hLlt).trans hq0
        have hs1 := (hB9.cell (p := ⟨w4.heap.size, 1, none⟩) hLlt).trans hq1
        have hs2 := (hB9.cell (p := ⟨bz, oz + i, none⟩) hbz).trans hcz
        have hA9 : RowZ 47 w9 w1.heap.size _ := hA6.below hB9 hAl6
        have hK9 := hK6.below hB9 hK6.lt
        have hC9 := bel_on hC6 hB9
        have hI0 := (hB9.cell (p := ⟨wr.heap.size, 0, none⟩) hEl6).trans hG0
        have hEl9 : wr.heap.size < w9.heap.size := Nat.lt_of_lt_of_le hEl6 hB9.size
        have hd0 := hA9.cell (k := i * 2) (by rw [M.stl_length]; omega)
        have hd1 := hA9.cell (k := i * 2 + 1) (by rw [M.stl_length]; omega)
        have hg0 := hA9.frozen (i * 2)
        have hg1 := hA9.frozen (i * 2 + 1)
        have hbzA : w1.heap.size ≠ bz := by omega
        clear hB9'
        go_wp2_with fail
        refine hK.out _ _ (⟨hs0, hs1, hs2⟩) (fun hHeld2 => ?_)
        clear hK K hHeld
        have hHeld := hHeld2
        clear hHeld2
        try simp only [Act.put, List.setIfInBounds_toArray, List.set_cons_zero, List.set_cons_succ]
        refine wpAnyH_take (i := 8) (oi := { dst := some 59, op := Op.indexAddr 41 (Operand.tmp 51) (Operand.tmp 52), type := 0, pos := "hybrid.go:37", after := #[{ on := 0, ground := Ground.data }, { on := 1, ground := Ground.data }, { on := 0, ground := Ground.phase }, { on := 1, ground := Ground.phase }, { on := 2, ground := Ground.phase }, { on := 3, ground := Ground.phase }, { on := 4, ground := Ground.phase }, { on := 5, ground := Ground.phase }, { on := 6, ground := Ground.phase }, { on := 7, ground := Ground.phase }], guard := none }) (v := ?_) rfl (by kernel_rfl) (by kernel_rfl) (by kernel_rfl) (fun _ _ _ h => h) (Or.inl ⟨by rfl, ?_⟩) hHeld ?_
        rotate_left 1
        · intro w9 hSw
          try dsimp only at hSw
          go_simp
          try with_reducible rfl
        try simp only [Act.put, List.setIfInBounds_toArray, List.set_cons_zero, List.set_cons_succ]
        refine wpAnyH_ready (rs := [9]) (by kernel_rfl) (by simp) ?_
        refine AllReadyH.cons (o := { dst := none, op := Op.store 47 (Operand.tmp 59) (Operand.tmp 58), type := 0, pos := "hybrid.go:37", after := #[{ on := 8, ground := Ground.data }, { on := 7, ground := Ground.data }, { on := 7, ground := Ground.chain }, { on := 0, ground := Ground.phase }, { on := 1, ground := Ground.phase }, { on := 2, ground := Ground.phase }, { on := 3, ground := Ground.phase }, { on := 4, ground := Ground.phase }, { on := 5, ground := Ground.phase }, { on := 6, ground := Ground.phase }, { on := 7, ground := Ground.phase }], guard := none }) rfl (fun K hK => ?_) AllReadyH.nil
        go_simp
        refine hK.out _ _ (⟨(World.cell?_setCell_far _ ⟨w1.heap.size, i * 2 + 1, none⟩ ⟨w4.heap.size, 0, none⟩ _ hne1).trans ((World.cell?_setCell_far _ ⟨w1.heap.size, i * 2, none⟩ ⟨w4.heap.size, 0, none⟩ _ hne1).trans hs0), (World.cell?_setCell_far _ ⟨w1.heap.size, i * 2 + 1, none⟩ ⟨w4.heap.size, 1, none⟩ _ hne1).trans ((World.cell?_setCell_far _ ⟨w1.heap.size, i * 2, none⟩ ⟨w4.heap.size, 1, none⟩ _ hne1).trans hs1), (World.cell?_setCell_far _ ⟨w1.heap.size, i * 2 + 1, none⟩ ⟨bz, oz + i, none⟩ _ hbzA).trans ((World.cell?_setCell_far _ ⟨w1.heap.size, i * 2, none⟩ ⟨bz, oz + i, none⟩ _ hbzA).trans hs2)⟩) (fun hHeld2 => ?_)
        clear hK K hHeld
        have hHeld := hHeld2
        clear hHeld2
        try simp only [Act.put, List.setIfInBounds_toArray, List.set_cons_zero, List.set_cons_succ]
        refine wpAnyH_done (by kernel_rfl) ?_ _
        clear hHeld
        obtain ⟨w10, hw10⟩ : ∃ w10, (w9.setCell ⟨w1.heap.size, i * 2, none⟩ (.int .i64 (v : Nat))).setCell ⟨w1.heap.size, i * 2 + 1, none⟩ (.int .i64 (d : Nat)) = w10 := ⟨_, rfl⟩
        rw [hw10]
        have hA10 : RowZ 47 w10 w1.heap.size (M.stl T (M.tm zs) n (i + 1)) := by
          have := (hA9.set (i * 2) (v : Nat)).set (i * 2 + 1) (d : Nat)
          rw [hw10] at this
          rw [← M.stl_set (show ((v : Nat) : Int) = _ by rw [HV.out]) (show ((d : Nat) : Int) = _ by rw [HD.out])]
          exact this
        have hK10 : RowZ 71 w10 K _ := hw10 ▸ (hK9.other (a := ⟨w1.heap.size, i * 2, none⟩) hne5 _).other (a := ⟨w1.heap.size, i * 2 + 1, none⟩) hne5 _
        have hC10 : Below w1.heap.size w1 w10 := hw10 ▸ (hC9.setCell (p := ⟨w1.heap.size, i * 2, none⟩) (Nat.le_refl _) _).setCell (p := ⟨w1.heap.size, i * 2 + 1, none⟩) (Nat.le_refl _) _
        have hI10 : w10.cell? ⟨wr.heap.size, 0, none⟩ = some (.int .i64 (a : Nat)) := by
          subst hw10
          exact (World.cell?_setCell_far _ ⟨w1.heap.size, i * 2 + 1, none⟩ ⟨wr.heap.size, 0, none⟩ _ hne4).trans ((World.cell?_setCell_far _ ⟨w1.heap.size, i * 2, none⟩ ⟨wr.heap.size, 0, none⟩ _ hne4).trans hI0)
        have hEl10 : wr.heap.size < w10.heap.size := by subst hw10; simpa using hEl9
        have hA0 := hA10.cell (k := i * 2) (by rw [M.stl_length]; omega)
        have hA1 := hA10.cell (k := i * 2 + 1) (by rw [M.stl_length]; omega)
        rw [M.stl_T T _ (Nat.lt_succ_self i) hlt, HV.out] at hA0
        rw [M.stl_C T _ (Nat.lt_succ_self i) hlt, HD.out] at hA1
        have hk0 := hK10.cell (k := a * 2) (by rw [M.ksl_length]; omega)
        have hk1 := hK10.cell (k := a * 2 + 1) (by rw [M.ksl_length]; omega)
        have hkf0 := hK10.frozen (a * 2)
        have hkf1 := hK10.frozen (a * 2 + 1)
        obtain ⟨y0, hy0⟩ : ∃ y, M.rowZ (M.ksl T (M.tm zs) i) (a * 2) = y := ⟨_, rfl⟩
        obtain ⟨y1, hy1⟩ : ∃ y, M.rowZ (M.ksl T (M.tm zs) i) (a * 2 + 1) = y := ⟨_, rfl⟩
        rw [hy0] at hk0
        rw [hy1] at hk1
        clear hy0 hy1
        obtain ⟨w11, hw11⟩ : ∃ w11, (w10.setCell ⟨K, a * 2, none⟩ (.int .i64 (v : Nat))).setCell ⟨K, a * 2 + 1, none⟩ (.int .i64 (d : Nat)) = w11 := ⟨_, rfl⟩
        have HR1 : Hid (RowZ 47 w11 w1.heap.size (M.stl T (M.tm zs) n (i + 1))) := by
          have := (hA10.other (a := ⟨K, a * 2, none⟩) hne5.symm (.int .i64 (v : Nat))).other (a := ⟨K, a * 2 + 1, none⟩) hne5.symm (.int .i64 (d : Nat))
          rw [hw11] at this
          exact this
        have HR2 : Hid (RowZ 71 w11 K (M.ksl T (M.tm zs) (i + 1))) := by
          have := (hK10.set (a * 2) (v : Nat)).set (a * 2 + 1) (d : Nat)
          rw [hw11] at this
          show RowZ _ _ _ _
          rw [← M.ksl_set HA.out (show ((v : Nat) : Int) = _ by rw [HV.out]) (show ((d : Nat) : Int) = _ by rw [HD.out])]
          exact this
        have HR3 : Below w1.heap.size w1 w11.drew := by
          have := (hC10.setCell (p := ⟨K, a * 2, none⟩) (Nat.le_of_lt hAK) (.int .i64 (v : Nat))).setCell (p := ⟨K, a * 2 + 1, none⟩) (Nat.le_of_lt hAK) (.int .i64 (d : Nat))
          rw [hw11] at this
          exact this.drew
        clear hw10 hA10 hK10 hC10 hA9 hK9 hC9 hd0 hd1 hg0 hg1 hs0 hs1 hs2 hI0 hB9 HNX hA6 hK6 hL6 hC6 hcz hcz1 hq0 hq1 hG0 hG1
        go_wp2_with fail
        go_still_tail 7, (by kernel_rfl)
        go_wp2_with fail
        go_roundw
        case rel => exact ⟨i + 1, by go_num, by omega, HR1.out, HR2.out, HR3⟩
        case measure => simp [intOf]; omega
      · obtain ⟨j, hj⟩ : ∃ j : Nat, M.fm T i = j := ⟨(M.fm T i).toNat, by omega⟩
        obtain ⟨tj, htj⟩ : ∃ t, M.hT T (M.tm zs) j = t := ⟨_, rfl⟩
        obtain ⟨cj, hcj⟩ : ∃ t, M.hC T (M.tm zs) j = t := ⟨_, rfl⟩
        have HTj : Hid (M.hT T (M.tm zs) j = tj) := htj
        have HCj : Hid (M.hC T (M.tm zs) j = cj) := hcj
        have hji : j < i := by omega
        have hjn : j < n := by omega
        have hcjb : cj ≤ 24 := by have := M.hC_le T (M.tm zs) j; omega
        clear htj hcj
        cases hls : M.lsB x (c : Nat) (tj : Nat) (cj : Nat) with
        | true =>
          have hlat := (M.lat_heard (t := M.tm zs) hok.tr hT hj).1 (by rw [HA.out, HX.out, HC.out, HTj.out, HCj.out]; exact hls)
          rw [HTj.out, HCj.out] at hlat
          have hst := hlat.step hok.tr hT
          rw [HT.out] at hst
          have HN1 : Hid (M.nxT (tj : Int) (tt : Nat) = (M.hT T (M.tm zs) i : Nat)) := hst.1
          have HN2 : Hid (M.nxC (tj : Int) (cj : Nat) (tt : Nat) = (M.hC T (M.tm zs) i : Nat)) := hst.2
          clear hlat hst
          rw [hj] at hp2
          clear hfm hj
          obtain ⟨w4, hw4⟩ : ∃ w4, wr.alloc (.cells #[.int .i64 (a : Nat), .int .i64 (j : Nat)] 53) = w4 := ⟨_, rfl⟩
          have hB4 : Below w1.heap.size w1 w4 := hw4 ▸ bel_al hB _
          have hA4 : RowZ 47 w4 w1.heap.size _ := hw4 ▸ hA.alloc _
          have hK4 : RowZ 71 w4 K _ := hw4 ▸ hK.alloc _
          have hE0 : w4.cell? ⟨wr.heap.size, 0, none⟩ = some (.int .i64 (a : Nat)) := hw4 ▸ ev_cell0 rfl _ _
          have hE1 : w4.cell? ⟨wr.heap.size, 1, none⟩ = some (.int .i64 (j : Nat)) := hw4 ▸ ev_cell1 rfl _ _
          have hEl : wr.heap.size < w4.heap.size := by subst hw4; simp
          have hcK0 := hK4.cell (k := a * 2) (by rw [M.ksl_length]; omega)
          have hcK1 := hK4.cell (k := a * 2 + 1) (by rw [M.ksl_length]; omega)
          rw [M.ksl_T T _ i ha5, HX.out] at hcK0
          rw [M.ksl_C T _ i ha5, HC.out] at hcK1
          have hKlt := hK.lt
          have hAlt := hA.lt
          obtain ⟨w5, hw5⟩ : ∃ w5, w4.alloc (.cells #[.int .i64 x, .int .i64 (c : Nat)] 47) = w5 := ⟨_, rfl⟩
          have hB5 : Below w1.heap.size w1 w5 := hw5 ▸ bel_al hB4 _
          have hB45 : Below w4.heap.size w4 w5 := hw5 ▸ bel_al (Below.refl _ _) _
          have hA5 : RowZ 47 w5 w1.heap.size _ := hw5 ▸ hA4.alloc _
          have hK5 : RowZ 71 w5 K _ := hw5 ▸ hK4.alloc _
          have hL0 : w5.cell? ⟨w4.heap.size, 0, none⟩ = some (.int .i64 x) := by subst hw5; simp
          have hL1 : w5.cell? ⟨w4.heap.size, 1, none⟩ = some (.int .i64 (c : Nat)) := by subst hw5; simp
          have hLl : w4.heap.size < w5.heap.size := by subst hw5; simp
          have hF0 := (hB45.cell (p := ⟨wr.heap.size, 0, none⟩) hEl).trans hE0
          have hF1 := (hB45.cell (p := ⟨wr.heap.size, 1, none⟩) hEl).trans hE1
          have hEl5 : wr.heap.size < w5.heap.size := by omega
          have hLr : RowZ 47 w5 w4.heap.size [x, (c : Int)] := by
            subst hw5
            unfold RowZ
            rw [World.alloc_heap_new]
            rfl
          have hJ0 := hA5.cell (k := j * 2) (by rw [M.stl_length]; omega)
          have hJ1 := hA5.cell (k := j * 2 + 1) (by rw [M.stl_length]; omega)
          rw [M.stl_T T _ hji hjn, HTj.out] at hJ0
          rw [M.stl_C T _ hji hjn, HCj.out] at hJ1
          have hjI : (j : Int) < (n : Int) := by omega
          have hmk : ∀ w', Below w5.heap.size w5 w' → w'.cell? ⟨wr.heap.size, 0, none⟩ = some (.int .i64 (a : Nat)) ∧ w'.cell? ⟨wr.heap.size, 1, none⟩ = some (.int .i64 (j : Nat)) ∧ w'.cell? ⟨w4.heap.size, 0, none⟩ = some (.int .i64 x) ∧ w'.cell? ⟨w4.heap.size, 1, none⟩ = some (.int .i64 (c : Nat)) ∧ w'.cell? ⟨w1.heap.size, j * 2, none⟩ = some (.int .i64 (tj : Nat)) ∧ w'.cell? ⟨w1.heap.size, j * 2 + 1, none⟩ = some (.int .i64 (cj : Nat)) ∧ Below w5.heap.size w5 w' := fun w' h => ⟨(h.cell (p := ⟨wr.heap.size, 0, none⟩) hEl5).trans hF0, (h.cell (p := ⟨wr.heap.size, 1, none⟩) hEl5).trans hF1, (h.cell (p := ⟨w4.heap.size, 0, none⟩) hLl).trans hL0, (h.cell (p := ⟨w4.heap.size, 1, none⟩) hLl).trans hL1, (h.cell (p := ⟨w1.heap.size, j * 2, none⟩) hA5.lt).trans hJ0, (h.cell (p := ⟨w1.heap.size, j * 2 + 1, none⟩) hA5.lt).trans hJ1, h⟩
          have hn1 : ∀ W, Below w5.heap.size w5 W → Calls Tryd.prog 25 #[.agg #[.int .i64 (a : Nat), .int .i64 (j : Nat)]] W fun e w' => e = .returned (.bool true) ∧ Below w5.heap.size w5 w' := fun W hW => heard_belQ _ _ _ W w5 (by simp) hW
          have hn2 : ∀ W, Below w5.heap.size w5 W → Calls Tryd.prog 18 #[stV x (c : Nat), stV (tj : Nat) (cj : Nat)] W fun e w' => e = .returned (.bool true) ∧ Below w5.heap.size w5 w' := fun W hW => less_belQ _ _ _ _ _ W w5 hls hW
          clear hB4 hA4 hK4 hB45
          go_upto_region 10 with fail
          clear hcK0 hcK1 hE0 hE1 hp1 hp2
          refine wp_region_held_drew (S := fun w' => w'.cell? ⟨wr.heap.size, 0, none⟩ = some (.int .i64 (a : Nat)) ∧ w'.cell? ⟨wr.heap.size, 1, none⟩ = some (.int .i64 (j : Nat)) ∧ w'.cell? ⟨w4.heap.size, 0, none⟩ = some (.int .i64 x) ∧ w'.cell? ⟨w4.heap.size, 1, none⟩ = some (.int .i64 (c : Nat)) ∧ w'.cell? ⟨w1.heap.size, j * 2, none⟩ = some (.int .i64 (tj : Nat)) ∧ w'.cell? ⟨w1.heap.size, j * 2 + 1, none⟩ = some (.int .i64 (cj : Nat)) ∧ Below w5.heap.size w5 w') (by kernel_rfl) (hmk _ (Below.refl _ _).drew) (fun hHeld => ?_)
          refine wpAnyH_take (i := 0) (oi := { dst := some 35, op := Op.load 53 (Operand.tmp 10), type := 53, pos := "hybrid.go:34", after := #[], guard := none }) (v := ?_) rfl (by kernel_rfl) (by kernel_rfl) (by kernel_rfl) (fun _ _ _ h => h) (Or.inl ⟨by rfl, ?_⟩) hHeld ?_
          rotate_left 1
          · intro w9 hSw
            try dsimp only at hSw
            go_simp
            try with_reducible rfl
          try simp only [Act.put, List.setIfInBounds_toArray, List.set_cons_zero, List.set_cons_succ]
          refine wpAnyH_ready (rs := [1]) (by kernel_rfl) (by simp) ?_
          refine AllReadyH.cons (o := { dst := some 36, op := Op.call { callee := Callee.value (Operand.func 25), args := #[Operand.tmp 35], argTypes := #[53] }, type := 4, pos := "hybrid.go:34", after := #[{ on := 0, ground := Ground.data }], guard := none }) rfl (fun K hK => ?_) AllReadyH.nil
          go_simp
          go_at_call 25
          refine (hn1 _ hHeld.2.2.2.2.2.2).mono ?_
          rintro e w6 ⟨rfl, hB6⟩
          go_wp2_with fail
          refine hK.out _ _ (hmk _ hB6) (fun hHeld2 => ?_)
          clear hK K hHeld
          have hHeld := hHeld2
          clear hHeld2
          try simp only [Act.put, List.setIfInBounds_toArray, List.set_cons_zero, List.set_cons_succ]
          refine wpAnyH_take (i := 2) (oi := { dst := some 37, op := Op.move (Operand.tmp 36), type := 4, pos := "hybrid.go:34", after := #[{ on := 1, ground := Ground.data }, { on := 1, ground := Ground.chain }], guard := none }) (v := ?_) rfl (by kernel_rfl) (by kernel_rfl) (by kernel_rfl) (fun _ _ _ h => h) (Or.inl ⟨by rfl, ?_⟩) hHeld ?_
          rotate_left 1
          · intro w9 hSw
            try dsimp only at hSw
            go_simp
            try with_reducible rfl
          try simp only [Act.put, List.setIfInBounds_toArray, List.set_cons_zero, List.set_cons_succ]
          refine wpAnyH_take (i := 3) (oi := { dst := some 38, op := Op.load 47 (Operand.tmp 11), type := 47, pos := "hybrid.go:34", after := #[{ on := 2, ground := Ground.guard }], guard := some (2, true) }) (v := ?_) rfl (by kernel_rfl) (by kernel_rfl) (by kernel_rfl) (fun _ _ _ h => h) (Or.inl ⟨by rfl, ?_⟩) hHeld ?_
          rotate_left 1
          · intro w9 hSw
            try dsimp only at hSw
            go_simp
            try with_reducible rfl
          try simp only [Act.put, List.setIfInBounds_toArray, List.set_cons_zero, List.set_cons_succ]
          refine wpAnyH_take (i := 4) (oi := { dst := some 39, op := Op.move (Operand.tmp 7), type := 41, pos := "hybrid.go:34", after := #[{ on := 2, ground := Ground.guard }], guard := some (2, true) }) (v := ?_) rfl (by kernel_rfl) (by kernel_rfl) (by kernel_rfl) (fun _ _ _ h => h) (Or.inl ⟨by rfl, ?_⟩) hHeld ?_
          rotate_left 1
          · intro w9 hSw
            try dsimp only at hSw
            go_simp
            try with_reducible rfl
          try simp only [Act.put, List.setIfInBounds_toArray, List.set_cons_zero, List.set_cons_succ]
          refine wpAnyH_take (i := 5) (oi := { dst := some 40, op := Op.fieldAddr 53 (Operand.tmp 10) 1, type := 0, pos := "hybrid.go:34", after := #[{ on := 2, ground := Ground.guard }], guard := some (2, true) }) (v := ?_) rfl (by kernel_rfl) (by kernel_rfl) (by kernel_rfl) (fun _ _ _ h => h) (Or.inl ⟨by rfl, ?_⟩) hHeld ?_
          rotate_left 1
          · intro w9 hSw
            try dsimp only at hSw
            go_simp
            try with_reducible rfl
          try simp only [Act.put, List.setIfInBounds_toArray, List.set_cons_zero, List.set_cons_succ]
          refine wpAnyH_take (i := 6) (oi := { dst := some 41, op := Op.load 3 (Operand.tmp 40), type := 3, pos := "hybrid.go:34", after := #[{ on := 5, ground := Ground.data }, { on := 2, ground := Ground.guard }], guard := some (2, true) }) (v := ?_) rfl (by kernel_rfl) (by kernel_rfl) (by kernel_rfl) (fun _ _ _ h => h) (Or.inl ⟨by rfl, ?_⟩) hHeld ?_
          rotate_left 1
          · intro w9 hSw
            try dsimp only at hSw
            go_simp
            try with_reducible rfl
          try simp only [Act.put, List.setIfInBounds_toArray, List.set_cons_zero, List.set_cons_succ]
          refine wpAnyH_take (i := 7) (oi := { dst := some 42, op := Op.indexAddr 41 (Operand.tmp 39) (Operand.tmp 41), type := 0, pos := "hybrid.go:34", after := #[{ on := 4, ground := Ground.data }, { on := 6, ground := Ground.data }, { on := 2, ground := Ground.guard }], guard := some (2, true) }) (v := ?_) rfl (by kernel_rfl) (by kernel_rfl) (by kernel_rfl) (fun _ _ _ h => h) (Or.inl ⟨by rfl, ?_⟩) hHeld ?_
          rotate_left 1
          · intro w9 hSw
            try dsimp only at hSw
            go_simp
            try with_reducible rfl
          try simp only [Act.put, List.setIfInBounds_toArray, List.set_cons_zero, List.set_cons_succ]
          refine wpAnyH_take (i := 8) (oi := { dst := some 43, op := Op.load 47 (Operand.tmp 42), type := 47, pos := "hybrid.go:34", after := #[{ on := 7, ground := Ground.data }, { on := 2, ground := Ground.guard }], guard := some (2, true) }) (v := ?_) rfl (by kernel_rfl) (by kernel_rfl) (by kernel_rfl) (fun _ _ _ h => h) (Or.inl ⟨by rfl, ?_⟩) hHeld ?_
          rotate_left 1
          · intro w9 hSw
            try dsimp only at hSw
            go_simp
            try with_reducible rfl
          try simp only [Act.put, List.setIfInBounds_toArray, List.set_cons_zero, List.set_cons_succ]
          refine wpAnyH_ready (rs := [9]) (by kernel_rfl) (by simp) ?_
          refine AllReadyH.cons (o := { dst := some 44, op := Op.call { callee := Callee.value (Operand.func 18), args := #[Operand.tmp 38, Operand.tmp 43], argTypes := #[47, 47] }, type := 4, pos := "hybrid.go:34", after := #[{ on := 3, ground := Ground.data }, { on := 8, ground := Ground.data }, { on := 2, ground := Ground.chain }, { on := 2, ground := Ground.guard }], guard := some (2, true) }) rfl (fun K hK => ?_) AllReadyH.nil
          go_simp
          go_at_call 18
          refine (hn2 _ hHeld.2.2.2.2.2.2).mono ?_
          rintro e w7 ⟨rfl, hB7⟩
          go_wp2_with fail
          refine hK.out _ _ (hmk _ hB7) (fun hHeld2 => ?_)
          clear hK K hHeld
          have hHeld := hHeld2
          clear hHeld2
          try simp only [Act.put, List.setIfInBounds_toArray, List.set_cons_zero, List.set_cons_succ]
          refine wpAnyH_take (i := 10) (oi := { dst := some 45, op := Op.pick (Operand.tmp 37) (Operand.tmp 44) (Operand.const (Value.bool false)), type := 4, pos := "hybrid.go:34", after := #[{ on := 2, ground := Ground.data }, { on := 9, ground := Ground.data }], guard := none }) (v := ?_) rfl (by kernel_rfl) (by kernel_rfl) (by kernel_rfl) (fun _ _ _ h => h) (Or.inl ⟨by rfl, ?_⟩) hHeld ?_
          rotate_left 1
          · intro w9 hSw
            try dsimp only at hSw
            go_simp
            try with_reducible rfl
          try simp only [Act.put, List.setIfInBounds_toArray, List.set_cons_zero, List.set_cons_succ]
          refine wpAnyH_done (by kernel_rfl) ?_ _
          clear hHeld
          clear hmk hn1 hn2 hB6
          have hA6 : RowZ 47 w7 w1.heap.size _ := hA5.below hB7 hA5.lt
          have hK6 : RowZ 71 w7 K _ := hK5.below hB7 hK5.lt
          have hL6 : RowZ 47 w7 w4.heap.size _ := hLr.below hB7 hLl
          have hG0 := (hB7.cell (p := ⟨wr.heap.size, 0, none⟩) hEl5).trans hF0
          have hG1 := (hB7.cell (p := ⟨wr.heap.size, 1, none⟩) hEl5).trans hF1
          have hC6 := bel_on hB5 hB7
          have hEl6 : wr.heap.size < w7.heap.size := Nat.lt_of_lt_of_le hEl5 hB7.size
          have hLw : w1.heap.size ≤ w4.heap.size := by omega
          have hne1 : w1.heap.size ≠ w4.heap.size := by omega
          have hne2 : K ≠ w4.heap.size := by omega
          have hne3 : w4.heap.size ≠ wr.heap.size := by omega
          have hne4 : w1.heap.size ≠ wr.heap.size := by omega
          have hne5 : K ≠ w1.heap.size := by omega
          have hq0 := hL6.cell (k := 0) (by simp)
          have hq1 := hL6.cell (k := 1) (by simp)
          change w7.cell? _ = some (.int .i64 x) at hq0
          change w7.cell? _ = some (.int .i64 (c : Nat)) at hq1
          clear hw4 hw5 hA5 hK5 hLr hF0 hF1 hL0 hL1 hB5 hA hK hB hbr hJ0 hJ1
          have hJ0 := hA6.cell (k := j * 2) (by rw [M.stl_length]; omega)
          have hJ1 := hA6.cell (k := j * 2 + 1) (by rw [M.stl_length]; omega)
          rw [M.stl_T T _ hji hjn, HTj.out] at hJ0
          rw [M.stl_C T _ hji hjn, HCj.out] at hJ1
          have hf0 := hL6.frozen 0
          have hf1 := hL6.frozen 1
          obtain ⟨w8, hw8⟩ : ∃ w8, (w7.setCell ⟨w4.heap.size, 0, none⟩ (.int .i64 (tj : Nat))).setCell ⟨w4.heap.size, 1, none⟩ (.int .i64 (cj : Nat)) = w8 := ⟨_, rfl⟩
          have hL8 : RowZ 47 w8 w4.heap.size [(tj : Int), (cj : Int)] := hw8 ▸ (hL6.set 0 (tj : Nat)).set 1 (cj : Nat)
          have hA8 : RowZ 47 w8 w1.heap.size _ := hw8 ▸ (hA6.other (a := ⟨w4.heap.size, 0, none⟩) hne1 _).other (a := ⟨w4.heap.size, 1, none⟩) hne1 _
          have hK8 : RowZ 71 w8 K _ := hw8 ▸ (hK6.other (a := ⟨w4.heap.size, 0, none⟩) hne2 _).other (a := ⟨w4.heap.size, 1, none⟩) hne2 _
          have hC8 : Below w1.heap.size w1 w8 := hw8 ▸ (hC6.setCell (p := ⟨w4.heap.size, 0, none⟩) hLw _).setCell (p := ⟨w4.heap.size, 1, none⟩) hLw _
          have hH0 : w8.cell? ⟨wr.heap.size, 0, none⟩ = some (.int .i64 (a : Nat)) := by
            subst hw8
            exact (World.cell?_setCell_far _ ⟨w4.heap.size, 1, none⟩ ⟨wr.heap.size, 0, none⟩ _ hne3).trans ((World.cell?_setCell_far _ ⟨w4.heap.size, 0, none⟩ ⟨wr.heap.size, 0, none⟩ _ hne3).trans hG0)
          have hEl8 : wr.heap.size < w8.heap.size := by subst hw8; simpa using hEl6
          have hr0 := hL8.cell (k := 0) (by simp)
          have hr1 := hL8.cell (k := 1) (by simp)
          change w8.cell? _ = some (.int .i64 (tj : Nat)) at hr0
          change w8.cell? _ = some (.int .i64 (cj : Nat)) at hr1
          obtain ⟨bz, oz, rfl, hbz1, hcz1⟩ := hz1.at_ (show i < zs.length by omega) hzt
          have hcz := (hC8.cell (p := ⟨bz, oz + i, none⟩) hbz1).trans hcz1
          have hbz : bz < w8.heap.size := Nat.lt_of_lt_of_le hbz1 hC8.size
          have hLlt := hL8.lt
          have hAl6 := hA8.lt
          have hiI : (i : Int) < (n : Int) := by omega
          have HNX := next_ok (tj : Int) (cj : Nat) (tt : Nat)
          rw [HN1.out, HN2.out] at HNX
          obtain ⟨v, hv⟩ : ∃ v : Nat, M.hT T (M.tm zs) i = v := ⟨_, rfl⟩
          obtain ⟨d, hd⟩ : ∃ v : Nat, M.hC T (M.tm zs) i = v := ⟨_, rfl⟩
          rw [hv, hd] at HNX
          have HV : Hid (M.hT T (M.tm zs) i = v) := hv
          have HD : Hid (M.hC T (M.tm zs) i = d) := hd
          clear hv hd
          go_upto_region 12 with fail
          refine wp_region_held_drew (S := fun w' => w'.cell? ⟨w4.heap.size, 0, none⟩ = some (.int .i64 (tj : Int)) ∧ w'.cell? ⟨w4.heap.size, 1, none⟩ = some (.int .i64 (cj : Nat)) ∧ w'.cell? ⟨bz, oz + i, none⟩ = some (.int .i64 (tt : Nat))) (by kernel_rfl) (⟨hr0, hr1, hcz⟩) (fun hHeld => ?_)
          refine wpAnyH_take (i := 0) (oi := { dst := some 51, op := Op.move (Operand.tmp 7), type := 41, pos := "hybrid.go:37", after := #[], guard := none }) (v := ?_) rfl (by kernel_rfl) (by kernel_rfl) (by kernel_rfl) (fun _ _ _ h => h) (Or.inl ⟨by rfl, ?_⟩) hHeld ?_
          rotate_left 1
          · intro w9 hSw
            try dsimp only at hSw
            go_simp
            try with_reducible rfl
          try simp only [Act.put, List.setIfInBounds_toArray, List.set_cons_zero, List.set_cons_succ]
          refine wpAnyH_take (i := 1) (oi := { dst := some 52, op := Op.move (Operand.tmp 9), type := 3, pos := "hybrid.go:37", after := #[], guard := none }) (v := ?_) rfl (by kernel_rfl) (by kernel_rfl) (by kernel_rfl) (fun _ _ _ h => h) (Or.inl ⟨by rfl, ?_⟩) hHeld ?_
          rotate_left 1
          · intro w9 hSw
            try dsimp only at hSw
            go_simp
            try with_reducible rfl
          try simp only [Act.put, List.setIfInBounds_toArray, List.set_cons_zero, List.set_cons_succ]
          refine wpAnyH_take (i := 2) (oi := { dst := some 53, op := Op.load 47 (Operand.tmp 11), type := 47, pos := "hybrid.go:37", after := #[], guard := none }) (v := ?_) rfl (by kernel_rfl) (by kernel_rfl) (by kernel_rfl) (fun _ _ _ h => h) (Or.inl ⟨by rfl, ?_⟩) hHeld ?_
          rotate_left 1
          · intro w9 hSw
            try dsimp only at hSw
            go_simp
            try with_reducible rfl
          try simp only [Act.put, List.setIfInBounds_toArray, List.set_cons_zero, List.set_cons_succ]
          refine wpAnyH_take (i := 3) (oi := { dst := some 54, op := Op.move (Operand.tmp 1), type := 25, pos := "hybrid.go:37", after := #[], guard := none }) (v := ?_) rfl (by kernel_rfl) (by kernel_rfl) (by kernel_rfl) (fun _ _ _ h => h) (Or.inl ⟨by rfl, ?_⟩) hHeld ?_
          rotate_left 1
          · intro w9 hSw
            try dsimp only at hSw
            go_simp
            try with_reducible rfl
          try simp only [Act.put, List.setIfInBounds_toArray, List.set_cons_zero, List.set_cons_succ]
          refine wpAnyH_take (i := 4) (oi := { dst := some 55, op := Op.move (Operand.tmp 9), type := 3, pos := "hybrid.go:37", after := #[], guard := none }) (v := ?_) rfl (by kernel_rfl) (by kernel_rfl) (by kernel_rfl) (fun _ _ _ h => h) (Or.inl ⟨by rfl, ?_⟩) hHeld ?_
          rotate_left 1
          · intro w9 hSw
            try dsimp only at hSw
            go_simp
            try with_reducible rfl
          try simp only [Act.put, List.setIfInBounds_toArray, List.set_cons_zero, List.set_cons_succ]
          refine wpAnyH_take (i := 5) (oi := { dst := some 56, op := Op.indexAddr 25 (Operand.tmp 54) (Operand.tmp 55), type := 0, pos := "hybrid.go:37", after := #[{ on := 3, ground := Ground.data }, { on := 4, ground := Ground.data }], guard := none }) (v := ?_) rfl (by kernel_rfl) (by kernel_rfl) (by kernel_rfl) (fun _ _ _ h => h) (Or.inl ⟨by rfl, ?_⟩) hHeld ?_
          rotate_left 1
          · intro w9 hSw
            try dsimp only at hSw
            go_simp
            try with_reducible rfl
          try simp only [Act.put, List.setIfInBounds_toArray, List.set_cons_zero, List.set_cons_succ]
          refine wpAnyH_take (i := 6) (oi := { dst := some 57, op := Op.load 3 (Operand.tmp 56), type := 3, pos := "hybrid.go:37", after := #[{ on := 5, ground := Ground.data }], guard := none }) (v := ?_) rfl (by kernel_rfl) (by kernel_rfl) (by kernel_rfl) (fun _ _ _ h => h) (Or.inl ⟨by rfl, ?_⟩) hHeld ?_
          rotate_left 1
          · intro w9 hSw
            try dsimp only at hSw
            go_simp
            try with_reducible rfl
          try simp only [Act.put, List.setIfInBounds_toArray, List.set_cons_zero, List.set_cons_succ]
          refine wpAnyH_ready (rs := [7]) (by kernel_rfl) (by simp) ?_
          refine AllReadyH.cons (o := { dst := some 58, op := Op.call { callee := Callee.value (Operand.func 41), args := #[Operand.tmp 53, Operand.tmp 57], argTypes := #[47, 3] }, type := 47, pos := "hybrid.go:37", after := #[{ on := 2, ground := Ground.data }, { on := 6, ground := Ground.data }], guard := none }) rfl (fun K hK => ?_) AllReadyH.nil
          go_simp
          go_at_call 41
          refine (HNX _ (by omega) (by omega)).mono ?_
          rintro e w9 ⟨rfl, hB9'⟩
          have hB9 : Below w8.heap.size w8 w9 := bel_on (Below.refl _ w8).drew hB9'
          have hs0 := (hB9.cell (p := ⟨w4.heap.size, 0, none⟩) hLlt).trans hr0
          have hs1 := (hB9.cell (p := ⟨w4.heap.size, 1, none⟩) hLlt).trans hr1
          have hs2 := (hB9.cell (p := ⟨bz, oz + i, none⟩) hbz).trans hcz
          have hA9 : RowZ 47 w9 w1.heap.size _ := hA8.below hB9 hAl6
          have hK9 := hK8.below hB9 hK8.lt
          have hC9 := bel_on hC8 hB9
          have hI0 := (hB9.cell (p := ⟨wr.heap.size, 0, none⟩) hEl8).trans hH0
          have hEl9 : wr.heap.size < w9.heap.size := Nat.lt_of_lt_of_le hEl8 hB9.size
          have hd0 := hA9.cell (k := i * 2) (by rw [M.stl_length]; omega)
          have hd1 := hA9.cell (k := i * 2 + 1) (by rw [M.stl_length]; omega)
          have hg0 := hA9.frozen (i * 2)
          have hg1 := hA9.frozen (i * 2 + 1)
          have hbzA : w1.heap.size ≠ bz := by omega
          clear hB9'
          go_wp2_with fail
          refine hK.out _ _ (⟨hs0, hs1, hs2⟩) (fun hHeld2 => ?_)
          clear hK K hHeld
          have hHeld := hHeld2
          clear hHeld2
          try simp only [Act.put, List.setIfInBounds_toArray, List.set_cons_zero, List.set_cons_succ]
          refine wpAnyH_take (i := 8) (oi := { dst := some 59, op := Op.indexAddr 41 (Operand.tmp 51) (Operand.tmp 52), type := 0, pos := "hybrid.go:37", after := #[{ on := 0, ground := Ground.data }, { on := 1, ground := Ground.data }, { on := 0, ground := Ground.phase }, { on := 1, ground := Ground.phase }, { on := 2, ground := Ground.phase }, { on := 3, ground := Ground.phase }, { on := 4, ground := Ground.phase }, { on := 5, ground := Ground.phase }, { on := 6, ground := Ground.phase }, { on := 7, ground := Ground.phase }], guard := none }) (v := ?_) rfl (by kernel_rfl) (by kernel_rfl) (by kernel_rfl) (fun _ _ _ h => h) (Or.inl ⟨by rfl, ?_⟩) hHeld ?_
          rotate_left 1
          · intro w9 hSw
            try dsimp only at hSw
            go_simp
            try with_reducible rfl
          try simp only [Act.put, List.setIfInBounds_toArray, List.set_cons_zero, List.set_cons_succ]
          refine wpAnyH_ready (rs := [9]) (by kernel_rfl) (by simp) ?_
          refine AllReadyH.cons (o := { dst := none, op := Op.store 47 (Operand.tmp 59) (Operand.tmp 58), type := 0, pos := "hybrid.go:37", after := #[{ on := 8, ground := Ground.data }, { on := 7, ground := Ground.data }, { on := 7, ground := Ground.chain }, { on := 0, ground := Ground.phase }, { on := 1, ground := Ground.phase }, { on := 2, ground := Ground.phase }, { on := 3, ground := Ground.phase }, { on := 4, ground := Ground.phase }, { on := 5, ground := Ground.phase }, { on := 6, ground := Ground.phase }, { on := 7, ground := Ground.phase }], guard := none }) rfl (fun K hK => ?_) AllReadyH.nil
          go_simp
          refine hK.out _ _ (⟨(World.cell?_setCell_far _ ⟨w1.heap.size, i * 2 + 1, none⟩ ⟨w4.heap.size, 0, none⟩ _ hne1).trans ((World.cell?_setCell_far _ ⟨w1.heap.size, i * 2, none⟩ ⟨w4.heap.size, 0, none⟩ _ hne1).trans hs0), (World.cell?_setCell_far _ ⟨w1.heap.size, i * 2 + 1, none⟩ ⟨w4.heap.size, 1, none⟩ _ hne1).trans ((World.cell?_setCell_far _ ⟨w1.heap.size, i * 2, none⟩ ⟨w4.heap.size, 1, none⟩ _ hne1).trans hs1), (World.cell?_setCell_far _ ⟨w1.heap.size, i * 2 + 1, none⟩ ⟨bz, oz + i, none⟩ _ hbzA).trans ((World.cell?_setCell_far _ ⟨w1.heap.size, i * 2, none⟩ ⟨bz, oz + i, none⟩ _ hbzA).trans hs2)⟩) (fun hHeld2 => ?_)
          clear hK K hHeld
          have hHeld := hHeld2
          clear hHeld2
          try simp only [Act.put, List.setIfInBounds_toArray, List.set_cons_zero, List.set_cons_succ]
          refine wpAnyH_done (by kernel_rfl) ?_ _
          clear hHeld
          obtain ⟨w10, hw10⟩ : ∃ w10, (w9.setCell ⟨w1.heap.size, i * 2, none⟩ (.int .i64 (v : Nat))).setCell ⟨w1.heap.size, i * 2 + 1, none⟩ (.int .i64 (d : Nat)) = w10 := ⟨_, rfl⟩
          rw [hw10]
          have hA10 : RowZ 47 w10 w1.heap.size (M.stl T (M.tm zs) n (i + 1)) := by
            have := (hA9.set (i * 2) (v : Nat)).set (i * 2 + 1) (d : Nat)
            rw [hw10] at this
            rw [← M.stl_set (show ((v : Nat) : Int) = _ by rw [HV.out]) (show ((d : Nat) : Int) = _ by rw [HD.out])]
            exact this
          have hK10 : RowZ 71 w10 K _ := hw10 ▸ (hK9.other (a := ⟨w1.heap.size, i * 2, none⟩) hne5 _).other (a := ⟨w1.heap.size, i * 2 + 1, none⟩) hne5 _
          have hC10 : Below w1.heap.size w1 w10 := hw10 ▸ (hC9.setCell (p := ⟨w1.heap.size, i * 2, none⟩) (Nat.le_refl _) _).setCell (p := ⟨w1.heap.size, i * 2 + 1, none⟩) (Nat.le_refl _) _
          have hI10 : w10.cell? ⟨wr.heap.size, 0, none⟩ = some (.int .i64 (a : Nat)) := by
            subst hw10
            exact (World.cell?_setCell_far _ ⟨w1.heap.size, i * 2 + 1, none⟩ ⟨wr.heap.size, 0, none⟩ _ hne4).trans ((World.cell?_setCell_far _ ⟨w1.heap.size, i * 2, none⟩ ⟨wr.heap.size, 0, none⟩ _ hne4).trans hI0)
          have hEl10 : wr.heap.size < w10.heap.size := by subst hw10; simpa using hEl9
          have hA0 := hA10.cell (k := i * 2) (by rw [M.stl_length]; omega)
          have hA1 := hA10.cell (k := i * 2 + 1) (by rw [M.stl_length]; omega)
          rw [M.stl_T T _ (Nat.lt_succ_self i) hlt, HV.out] at hA0
          rw [M.stl_C T _ (Nat.lt_succ_self i) hlt, HD.out] at hA1
          have hk0 := hK10.cell (k := a * 2) (by rw [M.ksl_length]; omega)
          have hk1 := hK10.cell (k := a * 2 + 1) (by rw [M.ksl_length]; omega)
          have hkf0 := hK10.frozen (a * 2)
          have hkf1 := hK10.frozen (a * 2 + 1)
          obtain ⟨y0, hy0⟩ : ∃ y, M.rowZ (M.ksl T (M.tm zs) i) (a * 2) = y := ⟨_, rfl⟩
          obtain ⟨y1, hy1⟩ : ∃ y, M.rowZ (M.ksl T (M.tm zs) i) (a * 2 + 1) = y := ⟨_, rfl⟩
          rw [hy0] at hk0
          rw [hy1] at hk1
          clear hy0 hy1
          obtain ⟨w11, hw11⟩ : ∃ w11, (w10.setCell ⟨K, a * 2, none⟩ (.int .i64 (v : Nat))).setCell ⟨K, a * 2 + 1, none⟩ (.int .i64 (d : Nat)) = w11 := ⟨_, rfl⟩
          have HR1 : Hid (RowZ 47 w11 w1.heap.size (M.stl T (M.tm zs) n (i + 1))) := by
            have := (hA10.other (a := ⟨K, a * 2, none⟩) hne5.symm (.int .i64 (v : Nat))).other (a := ⟨K, a * 2 + 1, none⟩) hne5.symm (.int .i64 (d : Nat))
            rw [hw11] at this
            exact this
          have HR2 : Hid (RowZ 71 w11 K (M.ksl T (M.tm zs) (i + 1))) := by
            have := (hK10.set (a * 2) (v : Nat)).set (a * 2 + 1) (d : Nat)
            rw [hw11] at this
            show RowZ _ _ _ _
            rw [← M.ksl_set HA.out (show ((v : Nat) : Int) = _ by rw [HV.out]) (show ((d : Nat) : Int) = _ by rw [HD.out])]
            exact this
          have HR3 : Below w1.heap.size w1 w11.drew := by
            have := (hC10.setCell (p := ⟨K, a * 2, none⟩) (Nat.le_of_lt hAK) (.int .i64 (v : Nat))).setCell (p := ⟨K, a * 2 + 1, none⟩) (Nat.le_of_lt hAK) (.int .i64 (d : Nat))
            rw [hw11] at this
            exact this.drew
          clear hw10 hA10 hK10 hC10 hA9 hK9 hC9 hd0 hd1 hg0 hg1 hs0 hs1 hs2 hI0 hB9 HNX hA6 hK6 hL6 hC6 hcz hcz1 hq0 hq1 hG0 hG1
          clear hr0 hr1 hL8 hA8 hK8 hC8 hH0 hw8 hJ0 hJ1 hf0 hf1
          go_wp2_with fail
          go_still_tail 7, (by kernel_rfl)
          go_wp2_with fail
          go_roundw
          case rel => exact ⟨i + 1, by go_num, by omega, HR1.out, HR2.out, HR3⟩
          case measure => simp [intOf]; omega
        | false =>
          have hlat := (M.lat_heard (t := M.tm zs) hok.tr hT hj).2 (by rw [HA.out, HX.out, HC.out, HTj.out, HCj.out]; exact hls)
          rw [HA.out, HX.out, HC.out] at hlat
          have hst := hlat.step hok.tr hT
          rw [HT.out] at hst
          have HN1 : Hid (M.nxT x (tt : Nat) = (M.hT T (M.tm zs) i : Nat)) := hst.1
          have HN2 : Hid (M.nxC x (c : Nat) (tt : Nat) = (M.hC T (M.tm zs) i : Nat)) := hst.2
          clear hlat hst
          rw [hj] at hp2
          clear hfm hj
          obtain ⟨w4, hw4⟩ : ∃ w4, wr.alloc (.cells #[.int .i64 (a : Nat), .int .i64 (j : Nat)] 53) = w4 := ⟨_, rfl⟩
          have hB4 : Below w1.heap.size w1 w4 := hw4 ▸ bel_al hB _
          have hA4 : RowZ 47 w4 w1.heap.size _ := hw4 ▸ hA.alloc _
          have hK4 : RowZ 71 w4 K _ := hw4 ▸ hK.alloc _
          have hE0 : w4.cell? ⟨wr.heap.size, 0, none⟩ = some (.int .i64 (a : Nat)) := hw4 ▸ ev_cell0 rfl _ _
          have hE1 : w4.cell? ⟨wr.heap.size, 1, none⟩ = some (.int .i64 (j : Nat)) := hw4 ▸ ev_cell1 rfl _ _
          have hEl : wr.heap.size < w4.heap.size := by subst hw4; simp
          have hcK0 := hK4.cell (k := a * 2) (by rw [M.ksl_length]; omega)
          have hcK1 := hK4.cell (k := a * 2 + 1) (by rw [M.ksl_length]; omega)
          rw [M.ksl_T T _ i ha5, HX.out] at hcK0
          rw [M.ksl_C T _ i ha5, HC.out] at hcK1
          have hKlt := hK.lt
          have hAlt := hA.lt
          obtain ⟨w5, hw5⟩ : ∃ w5, w4.alloc (.cells #[.int .i64 x, .int .i64 (c : Nat)] 47) = w5 := ⟨_, rfl⟩
          have hB5 : Below w1.heap.size w1 w5 := hw5 ▸ bel_al hB4 _
          have hB45 : Below w4.heap.size w4 w5 := hw5 ▸ bel_al (Below.refl _ _) _
          have hA5 : RowZ 47 w5 w1.heap.size _ := hw5 ▸ hA4.alloc _
          have hK5 : RowZ 71 w5 K _ := hw5 ▸ hK4.alloc _
          have hL0 : w5.cell? ⟨w4.heap.size, 0, none⟩ = some (.int .i64 x) := by subst hw5; simp
          have hL1 : w5.cell? ⟨w4.heap.size, 1, none⟩ = some (.int .i64 (c : Nat)) := by subst hw5; simp
          have hLl : w4.heap.size < w5.heap.size := by subst hw5; simp
          have hF0 := (hB45.cell (p := ⟨wr.heap.size, 0, none⟩) hEl).trans hE0
          have hF1 := (hB45.cell (p := ⟨wr.heap.size, 1, none⟩) hEl).trans hE1
          have hEl5 : wr.heap.size < w5.heap.size := by omega
          have hLr : RowZ 47 w5 w4.heap.size [x, (c : Int)] := by
            subst hw5
            unfold RowZ
            rw [World.alloc_heap_new]
            rfl
          have hJ0 := hA5.cell (k := j * 2) (by rw [M.stl_length]; omega)
          have hJ1 := hA5.cell (k := j * 2 + 1) (by rw [M.stl_length]; omega)
          rw [M.stl_T T _ hji hjn, HTj.out] at hJ0
          rw [M.stl_C T _ hji hjn, HCj.out] at hJ1
          have hjI : (j : Int) < (n : Int) := by omega
          have hmk : ∀ w', Below w5.heap.size w5 w' → w'.cell? ⟨wr.heap.size, 0, none⟩ = some (.int .i64 (a : Nat)) ∧ w'.cell? ⟨wr.heap.size, 1, none⟩ = some (.int .i64 (j : Nat)) ∧ w'.cell? ⟨w4.heap.size, 0, none⟩ = some (.int .i64 x) ∧ w'.cell? ⟨w4.heap.size, 1, none⟩ = some (.int .i64 (c : Nat)) ∧ w'.cell? ⟨w1.heap.size, j * 2, none⟩ = some (.int .i64 (tj : Nat)) ∧ w'.cell? ⟨w1.heap.size, j * 2 + 1, none⟩ = some (.int .i64 (cj : Nat)) ∧ Below w5.heap.size w5 w' := fun w' h => ⟨(h.cell (p := ⟨wr.heap.size, 0, none⟩) hEl5).trans hF0, (h.cell (p := ⟨wr.heap.size, 1, none⟩) hEl5).trans hF1, (h.cell (p := ⟨w4.heap.size, 0, none⟩) hLl).trans hL0, (h.cell (p := ⟨w4.heap.size, 1, none⟩) hLl).trans hL1, (h.cell (p := ⟨w1.heap.size, j * 2, none⟩) hA5.lt).trans hJ0, (h.cell (p := ⟨w1.heap.size, j * 2 + 1, none⟩) hA5.lt).trans hJ1, h⟩
          have hn1 : ∀ W, Below w5.heap.size w5 W → Calls Tryd.prog 25 #[.agg #[.int .i64 (a : Nat), .int .i64 (j : Nat)]] W fun e w' => e = .returned (.bool true) ∧ Below w5.heap.size w5 w' := fun W hW => heard_belQ _ _ _ W w5 (by simp) hW
          have hn2 : ∀ W, Below w5.heap.size w5 W → Calls Tryd.prog 18 #[stV x (c : Nat), stV (tj : Nat) (cj : Nat)] W fun e w' => e = .returned (.bool false) ∧ Below w5.heap.size w5 w' := fun W hW => less_belQ _ _ _ _ _ W w5 hls hW
          clear hB4 hA4 hK4 hB45
          go_upto_region 10 with fail
          clear hcK0 hcK1 hE0 hE1 hp1 hp2
          refine wp_region_held_drew (S := fun w' => w'.cell? ⟨wr.heap.size, 0, none⟩ = some (.int .i64 (a : Nat)) ∧ w'.cell? ⟨wr.heap.size, 1, none⟩ = some (.int .i64 (j : Nat)) ∧ w'.cell? ⟨w4.heap.size, 0, none⟩ = some (.int .i64 x) ∧ w'.cell? ⟨w4.heap.size, 1, none⟩ = some (.int .i64 (c : Nat)) ∧ w'.cell? ⟨w1.heap.size, j * 2, none⟩ = some (.int .i64 (tj : Nat)) ∧ w'.cell? ⟨w1.heap.size, j * 2 + 1, none⟩ = some (.int .i64 (cj : Nat)) ∧ Below w5.heap.size w5 w') (by kernel_rfl) (hmk _ (Below.refl _ _).drew) (fun hHeld => ?_)
          refine wpAnyH_take (i := 0) (oi := { dst := some 35, op := Op.load 53 (Operand.tmp 10), type := 53, pos := "hybrid.go:34", after := #[], guard := none }) (v := ?_) rfl (by kernel_rfl) (by kernel_rfl) (by kernel_rfl) (fun _ _ _ h => h) (Or.inl ⟨by rfl, ?_⟩) hHeld ?_
          rotate_left 1
          · intro w9 hSw
            try dsimp only at hSw
            go_simp
            try with_reducible rfl
          try simp only [Act.put, List.setIfInBounds_toArray, List.set_cons_zero, List.set_cons_succ]
          refine wpAnyH_ready (rs := [1]) (by kernel_rfl) (by simp) ?_
          refine AllReadyH.cons (o := { dst := some 36, op := Op.call { callee := Callee.value (Operand.func 25), args := #[Operand.tmp 35], argTypes := #[53] }, type := 4, pos := "hybrid.go:34", after := #[{ on := 0, ground := Ground.data }], guard := none }) rfl (fun K hK => ?_) AllReadyH.nil
          go_simp
          go_at_call 25
          refine (hn1 _ hHeld.2.2.2.2.2.2).mono ?_
          rintro e w6 ⟨rfl, hB6⟩
          go_wp2_with fail
          refine hK.out _ _ (hmk _ hB6) (fun hHeld2 => ?_)
          clear hK K hHeld
          have hHeld := hHeld2
          clear hHeld2
          try simp only [Act.put, List.setIfInBounds_toArray, List.set_cons_zero, List.set_cons_succ]
          refine wpAnyH_take (i := 2) (oi := { dst := some 37, op := Op.move (Operand.tmp 36), type := 4, pos := "hybrid.go:34", after := #[{ on := 1, ground := Ground.data }, { on := 1, ground := Ground.chain }], guard := none }) (v := ?_) rfl (by kernel_rfl) (by kernel_rfl) (by kernel_rfl) (fun _ _ _ h => h) (Or.inl ⟨by rfl, ?_⟩) hHeld ?_
          rotate_left 1
          · intro w9 hSw
            try dsimp only at hSw
            go_simp
            try with_reducible rfl
          try simp only [Act.put, List.setIfInBounds_toArray, List.set_cons_zero, List.set_cons_succ]
          refine wpAnyH_take (i := 3) (oi := { dst := some 38, op := Op.load 47 (Operand.tmp 11), type := 47, pos := "hybrid.go:34", after := #[{ on := 2, ground := Ground.guard }], guard := some (2, true) }) (v := ?_) rfl (by kernel_rfl) (by kernel_rfl) (by kernel_rfl) (fun _ _ _ h => h) (Or.inl ⟨by rfl, ?_⟩) hHeld ?_
          rotate_left 1
          · intro w9 hSw
            try dsimp only at hSw
            go_simp
            try with_reducible rfl
          try simp only [Act.put, List.setIfInBounds_toArray, List.set_cons_zero, List.set_cons_succ]
          refine wpAnyH_take (i := 4) (oi := { dst := some 39, op := Op.move (Operand.tmp 7), type := 41, pos := "hybrid.go:34", after := #[{ on := 2, ground := Ground.guard }], guard := some (2, true) }) (v := ?_) rfl (by kernel_rfl) (by kernel_rfl) (by kernel_rfl) (fun _ _ _ h => h) (Or.inl ⟨by rfl, ?_⟩) hHeld ?_
          rotate_left 1
          · intro w9 hSw
            try dsimp only at hSw
            go_simp
            try with_reducible rfl
          try simp only [Act.put, List.setIfInBounds_toArray, List.set_cons_zero, List.set_cons_succ]
          refine wpAnyH_take (i := 5) (oi := { dst := some 40, op := Op.fieldAddr 53 (Operand.tmp 10) 1, type := 0, pos := "hybrid.go:34", after := #[{ on := 2, ground := Ground.guard }], guard := some (2, true) }) (v := ?_) rfl (by kernel_rfl) (by kernel_rfl) (by kernel_rfl) (fun _ _ _ h => h) (Or.inl ⟨by rfl, ?_⟩) hHeld ?_
          rotate_left 1
          · intro w9 hSw
            try dsimp only at hSw
            go_simp
            try with_reducible rfl
          try simp only [Act.put, List.setIfInBounds_toArray, List.set_cons_zero, List.set_cons_succ]
          refine wpAnyH_take (i := 6) (oi := { dst := some 41, op := Op.load 3 (Operand.tmp 40), type := 3, pos := "hybrid.go:34", after := #[{ on := 5, ground := Ground.data }, { on := 2, ground := Ground.guard }], guard := some (2, true) }) (v := ?_) rfl (by kernel_rfl) (by kernel_rfl) (by kernel_rfl) (fun _ _ _ h => h) (Or.inl ⟨by rfl, ?_⟩) hHeld ?_
          rotate_left 1
          · intro w9 hSw
            try dsimp only at hSw
            go_simp
            try with_reducible rfl
          try simp only [Act.put, List.setIfInBounds_toArray, List.set_cons_zero, List.set_cons_succ]
          refine wpAnyH_take (i := 7) (oi := { dst := some 42, op := Op.indexAddr 41 (Operand.tmp 39) (Operand.tmp 41), type := 0, pos := "hybrid.go:34", after := #[{ on := 4, ground := Ground.data }, { on := 6, ground := Ground.data }, { on := 2, ground := Ground.guard }], guard := some (2, true) }) (v := ?_) rfl (by kernel_rfl) (by kernel_rfl) (by kernel_rfl) (fun _ _ _ h => h) (Or.inl ⟨by rfl, ?_⟩) hHeld ?_
          rotate_left 1
          · intro w9 hSw
            try dsimp only at hSw
            go_simp
            try with_reducible rfl
          try simp only [Act.put, List.setIfInBounds_toArray, List.set_cons_zero, List.set_cons_succ]
          refine wpAnyH_take (i := 8) (oi := { dst := some 43, op := Op.load 47 (Operand.tmp 42), type := 47, pos := "hybrid.go:34", after := #[{ on := 7, ground := Ground.data }, { on := 2, ground := Ground.guard }], guard := some (2, true) }) (v := ?_) rfl (by kernel_rfl) (by kernel_rfl) (by kernel_rfl) (fun _ _ _ h => h) (Or.inl ⟨by rfl, ?_⟩) hHeld ?_
          rotate_left 1
          · intro w9 hSw
            try dsimp only at hSw
            go_simp
            try with_reducible rfl
          try simp only [Act.put, List.setIfInBounds_toArray, List.set_cons_zero, List.set_cons_succ]
          refine wpAnyH_ready (rs := [9]) (by kernel_rfl) (by simp) ?_
          refine AllReadyH.cons (o := { dst := some 44, op := Op.call { callee := Callee.value (Operand.func 18), args := #[Operand.tmp 38, Operand.tmp 43], argTypes := #[47, 47] }, type := 4, pos := "hybrid.go:34", after := #[{ on := 3, ground := Ground.data }, { on := 8, ground := Ground.data }, { on := 2, ground := Ground.chain }, { on := 2, ground := Ground.guard }], guard := some (2, true) }) rfl (fun K hK => ?_) AllReadyH.nil
          go_simp
          go_at_call 18
          refine (hn2 _ hHeld.2.2.2.2.2.2).mono ?_
          rintro e w7 ⟨rfl, hB7⟩
          go_wp2_with fail
          refine hK.out _ _ (hmk _ hB7) (fun hHeld2 => ?_)
          clear hK K hHeld
          have hHeld := hHeld2
          clear hHeld2
          try simp only [Act.put, List.setIfInBounds_toArray, List.set_cons_zero, List.set_cons_succ]
          refine wpAnyH_take (i := 10) (oi := { dst := some 45, op := Op.pick (Operand.tmp 37) (Operand.tmp 44) (Operand.const (Value.bool false)), type := 4, pos := "hybrid.go:34", after := #[{ on := 2, ground := Ground.data }, { on := 9, ground := Ground.data }], guard := none }) (v := ?_) rfl (by kernel_rfl) (by kernel_rfl) (by kernel_rfl) (fun _ _ _ h => h) (Or.inl ⟨by rfl, ?_⟩) hHeld ?_
          rotate_left 1
          · intro w9 hSw
            try dsimp only at hSw
            go_simp
            try with_reducible rfl
          try simp only [Act.put, List.setIfInBounds_toArray, List.set_cons_zero, List.set_cons_succ]
          refine wpAnyH_done (by kernel_rfl) ?_ _
          clear hHeld
          clear hmk hn1 hn2 hB6
          have hA6 : RowZ 47 w7 w1.heap.size _ := hA5.below hB7 hA5.lt
          have hK6 : RowZ 71 w7 K _ := hK5.below hB7 hK5.lt
          have hL6 : RowZ 47 w7 w4.heap.size _ := hLr.below hB7 hLl
          have hG0 := (hB7.cell (p := ⟨wr.heap.size, 0, none⟩) hEl5).trans hF0
          have hG1 := (hB7.cell (p := ⟨wr.heap.size, 1, none⟩) hEl5).trans hF1
          have hC6 := bel_on hB5 hB7
          have hEl6 : wr.heap.size < w7.heap.size := Nat.lt_of_lt_of_le hEl5 hB7.size
          have hLw : w1.heap.size ≤ w4.heap.size := by omega
          have hne1 : w1.heap.size ≠ w4.heap.size := by omega
          have hne2 : K ≠ w4.heap.size := by omega
          have hne3 : w4.heap.size ≠ wr.heap.size := by omega
          have hne4 : w1.heap.size ≠ wr.heap.size := by omega
          have hne5 : K ≠ w1.heap.size := by omega
          have hq0 := hL6.cell (k := 0) (by simp)
          have hq1 := hL6.cell (k := 1) (by simp)
          change w7.cell? _ = some (.int .i64 x) at hq0
          change w7.cell? _ = some (.int .i64 (c : Nat)) at hq1
          clear hw4 hw5 hA5 hK5 hLr hF0 hF1 hL0 hL1 hB5 hA hK hB hbr hJ0 hJ1
          obtain ⟨bz, oz, rfl, hbz1, hcz1⟩ := hz1.at_ (show i < zs.length by omega) hzt
          have hcz := (hC6.cell (p := ⟨bz, oz + i, none⟩) hbz1).trans hcz1
          have hbz : bz < w7.heap.size := Nat.lt_of_lt_of_le hbz1 hC6.size
          have hLlt := hL6.lt
          have hAl6 := hA6.lt
          have hiI : (i : Int) < (n : Int) := by omega
          have HNX := next_ok x (c : Nat) (tt : Nat)
          rw [HN1.out, HN2.out] at HNX
          obtain ⟨v, hv⟩ : ∃ v : Nat, M.hT T (M.tm zs) i = v := ⟨_, rfl⟩
          obtain ⟨d, hd⟩ : ∃ v : Nat, M.hC T (M.tm zs) i = v := ⟨_, rfl⟩
          rw [hv, hd] at HNX
          have HV : Hid (M.hT T (M.tm zs) i = v) := hv
          have HD : Hid (M.hC T (M.tm zs) i = d) := hd
          clear hv hd
          go_upto_region 12 with fail
          refine wp_region_held_drew (S := fun w' => w'.cell? ⟨w4.heap.size, 0, none⟩ = some (.int .i64 x) ∧ w'.cell? ⟨w4.heap.size, 1, none⟩ = some (.int .i64 (c : Nat)) ∧ w'.cell? ⟨bz, oz + i, none⟩ = some (.int .i64 (tt : Nat))) (by kernel_rfl) (⟨hq0, hq1, hcz⟩) (fun hHeld => ?_)
          refine wpAnyH_take (i := 0) (oi := { dst := some 51, op := Op.move (Operand.tmp 7), type := 41, pos := "hybrid.go:37", after := #[], guard := none }) (v := ?_) rfl (by kernel_rfl) (by kernel_rfl) (by kernel_rfl) (fun _ _ _ h => h) (Or.inl ⟨by rfl, ?_⟩) hHeld ?_
          rotate_left 1
          · intro w9 hSw
            try dsimp only at hSw
            go_simp
            try with_reducible rfl
          try simp only [Act.put, List.setIfInBounds_toArray, List.set_cons_zero, List.set_cons_succ]
          refine wpAnyH_take (i := 1) (oi := { dst := some 52, op := Op.move (Operand.tmp 9), type := 3, pos := "hybrid.go:37", after := #[], guard := none }) (v := ?_) rfl (by kernel_rfl) (by kernel_rfl) (by kernel_rfl) (fun _ _ _ h => h) (Or.inl ⟨by rfl, ?_⟩) hHeld ?_
          rotate_left 1
          · intro w9 hSw
            try dsimp only at hSw
            go_simp
            try with_reducible rfl
          try simp only [Act.put, List.setIfInBounds_toArray, List.set_cons_zero, List.set_cons_succ]
          refine wpAnyH_take (i := 2) (oi := { dst := some 53, op := Op.load 47 (Operand.tmp 11), type := 47, pos := "hybrid.go:37", after := #[], guard := none }) (v := ?_) rfl (by kernel_rfl) (by kernel_rfl) (by kernel_rfl) (fun _ _ _ h => h) (Or.inl ⟨by rfl, ?_⟩) hHeld ?_
          rotate_left 1
          · intro w9 hSw
            try dsimp only at hSw
            go_simp
            try with_reducible rfl
          try simp only [Act.put, List.setIfInBounds_toArray, List.set_cons_zero, List.set_cons_succ]
          refine wpAnyH_take (i := 3) (oi := { dst := some 54, op := Op.move (Operand.tmp 1), type := 25, pos := "hybrid.go:37", after := #[], guard := none }) (v := ?_) rfl (by kernel_rfl) (by kernel_rfl) (by kernel_rfl) (fun _ _ _ h => h) (Or.inl ⟨by rfl, ?_⟩) hHeld ?_
          rotate_left 1
          · intro w9 hSw
            try dsimp only at hSw
            go_simp
            try with_reducible rfl
          try simp only [Act.put, List.setIfInBounds_toArray, List.set_cons_zero, List.set_cons_succ]
          refine wpAnyH_take (i := 4) (oi := { dst := some 55, op := Op.move (Operand.tmp 9), type := 3, pos := "hybrid.go:37", after := #[], guard := none }) (v := ?_) rfl (by kernel_rfl) (by kernel_rfl) (by kernel_rfl) (fun _ _ _ h => h) (Or.inl ⟨by rfl, ?_⟩) hHeld ?_
          rotate_left 1
          · intro w9 hSw
            try dsimp only at hSw
            go_simp
            try with_reducible rfl
          try simp only [Act.put, List.setIfInBounds_toArray, List.set_cons_zero, List.set_cons_succ]
          refine wpAnyH_take (i := 5) (oi := { dst := some 56, op := Op.indexAddr 25 (Operand.tmp 54) (Operand.tmp 55), type := 0, pos := "hybrid.go:37", after := #[{ on := 3, ground := Ground.data }, { on := 4, ground := Ground.data }], guard := none }) (v := ?_) rfl (by kernel_rfl) (by kernel_rfl) (by kernel_rfl) (fun _ _ _ h => h) (Or.inl ⟨by rfl, ?_⟩) hHeld ?_
          rotate_left 1
          · intro w9 hSw
            try dsimp only at hSw
            go_simp
            try with_reducible rfl
          try simp only [Act.put, List.setIfInBounds_toArray, List.set_cons_zero, List.set_cons_succ]
          refine wpAnyH_take (i := 6) (oi := { dst := some 57, op := Op.load 3 (Operand.tmp 56), type := 3, pos := "hybrid.go:37", after := #[{ on := 5, ground := Ground.data }], guard := none }) (v := ?_) rfl (by kernel_rfl) (by kernel_rfl) (by kernel_rfl) (fun _ _ _ h => h) (Or.inl ⟨by rfl, ?_⟩) hHeld ?_
          rotate_left 1
          · intro w9 hSw
            try dsimp only at hSw
            go_simp
            try with_reducible rfl
          try simp only [Act.put, List.setIfInBounds_toArray, List.set_cons_zero, List.set_cons_succ]
          refine wpAnyH_ready (rs := [7]) (by kernel_rfl) (by simp) ?_
          refine AllReadyH.cons (o := { dst := some 58, op := Op.call { callee := Callee.value (Operand.func 41), args := #[Operand.tmp 53, Operand.tmp 57], argTypes := #[47, 3] }, type := 47, pos := "hybrid.go:37", after := #[{ on := 2, ground := Ground.data }, { on := 6, ground := Ground.data }], guard := none }) rfl (fun K hK => ?_) AllReadyH.nil
          go_simp
          go_at_call 41
          refine (HNX _ (by omega) (by omega)).mono ?_
          rintro e w9 ⟨rfl, hB9'⟩
          have hB9 : Below w7.heap.size w7 w9 := bel_on (Below.refl _ w7).drew hB9'
          have hs0 := (hB9.cell (p := ⟨w4.heap.size, 0, none⟩) hLlt).trans hq0
          have hs1 := (hB9.cell (p := ⟨w4.heap.size, 1, none⟩) hLlt).trans hq1
          have hs2 := (hB9.cell (p := ⟨bz, oz + i, none⟩) hbz).trans hcz
          have hA9 : RowZ 47 w9 w1.heap.size _ := hA6.below hB9 hAl6
          have hK9 := hK6.below hB9 hK6.lt
          have hC9 := bel_on hC6 hB9
          have hI0 := (hB9.cell (p := ⟨wr.heap.size, 0, none⟩) hEl6).trans hG0
          have hEl9 : wr.heap.size < w9.heap.size := Nat.lt_of_lt_of_le hEl6 hB9.size
          have hd0 := hA9.cell (k := i * 2) (by rw [M.stl_length]; omega)
          have hd1 := hA9.cell (k := i * 2 + 1) (by rw [M.stl_length]; omega)
          have hg0 := hA9.frozen (i * 2)
          have hg1 := hA9.frozen (i * 2 + 1)
          have hbzA : w1.heap.size ≠ bz := by omega
          clear hB9'
          go_wp2_with fail
          refine hK.out _ _ (⟨hs0, hs1, hs2⟩) (fun hHeld2 => ?_)
          clear hK K hHeld
          have hHeld := hHeld2
          clear hHeld2
          try simp only [Act.put, List.setIfInBounds_toArray, List.set_cons_zero, List.set_cons_succ]
          refine wpAnyH_take (i := 8) (oi := { dst := some 59, op := Op.indexAddr 41 (Operand.tmp 51) (Operand.tmp 52), type := 0, pos := "hybrid.go:37", after := #[{ on := 0, ground := Ground.data }, { on := 1, ground := Ground.data }, { on := 0, ground := Ground.phase }, { on := 1, ground := Ground.phase }, { on := 2, ground := Ground.phase }, { on := 3, ground := Ground.phase }, { on := 4, ground := Ground.phase }, { on := 5, ground := Ground.phase }, { on := 6, ground := Ground.phase }, { on := 7, ground := Ground.phase }], guard := none }) (v := ?_) rfl (by kernel_rfl) (by kernel_rfl) (by kernel_rfl) (fun _ _ _ h => h) (Or.inl ⟨by rfl, ?_⟩) hHeld ?_
          rotate_left 1
          · intro w9 hSw
            try dsimp only at hSw
            go_simp
            try with_reducible rfl
          try simp only [Act.put, List.setIfInBounds_toArray, List.set_cons_zero, List.set_cons_succ]
          refine wpAnyH_ready (rs := [9]) (by kernel_rfl) (by simp) ?_
          refine AllReadyH.cons (o := { dst := none, op := Op.store 47 (Operand.tmp 59) (Operand.tmp 58), type := 0, pos := "hybrid.go:37", after := #[{ on := 8, ground := Ground.data }, { on := 7, ground := Ground.data }, { on := 7, ground := Ground.chain }, { on := 0, ground := Ground.phase }, { on := 1, ground := Ground.phase }, { on := 2, ground := Ground.phase }, { on := 3, ground := Ground.phase }, { on := 4, ground := Ground.phase }, { on := 5, ground := Ground.phase }, { on := 6, ground := Ground.phase }, { on := 7, ground := Ground.phase }], guard := none }) rfl (fun K hK => ?_) AllReadyH.nil
          go_simp
          refine hK.out _ _ (⟨(World.cell?_setCell_far _ ⟨w1.heap.size, i * 2 + 1, none⟩ ⟨w4.heap.size, 0, none⟩ _ hne1).trans ((World.cell?_setCell_far _ ⟨w1.heap.size, i * 2, none⟩ ⟨w4.heap.size, 0, none⟩ _ hne1).trans hs0), (World.cell?_setCell_far _ ⟨w1.heap.size, i * 2 + 1, none⟩ ⟨w4.heap.size, 1, none⟩ _ hne1).trans ((World.cell?_setCell_far _ ⟨w1.heap.size, i * 2, none⟩ ⟨w4.heap.size, 1, none⟩ _ hne1).trans hs1), (World.cell?_setCell_far _ ⟨w1.heap.size, i * 2 + 1, none⟩ ⟨bz, oz + i, none⟩ _ hbzA).trans ((World.cell?_setCell_far _ ⟨w1.heap.size, i * 2, none⟩ ⟨bz, oz + i, none⟩ _ hbzA).trans hs2)⟩) (fun hHeld2 => ?_)
          clear hK K hHeld
          have hHeld := hHeld2
          clear hHeld2
          try simp only [Act.put, List.setIfInBounds_toArray, List.set_cons_zero, List.set_cons_succ]
          refine wpAnyH_done (by kernel_rfl) ?_ _
          clear hHeld
          obtain ⟨w10, hw10⟩ : ∃ w10, (w9.setCell ⟨w1.heap.size, i * 2, none⟩ (.int .i64 (v : Nat))).setCell ⟨w1.heap.size, i * 2 + 1, none⟩ (.int .i64 (d : Nat)) = w10 := ⟨_, rfl⟩
          rw [hw10]
          have hA10 : RowZ 47 w10 w1.heap.size (M.stl T (M.tm zs) n (i + 1)) := by
            have := (hA9.set (i * 2) (v : Nat)).set (i * 2 + 1) (d : Nat)
            rw [hw10] at this
            rw [← M.stl_set (show ((v : Nat) : Int) = _ by rw [HV.out]) (show ((d : Nat) : Int) = _ by rw [HD.out])]
            exact this
          have hK10 : RowZ 71 w10 K _ := hw10 ▸ (hK9.other (a := ⟨w1.heap.size, i * 2, none⟩) hne5 _).other (a := ⟨w1.heap.size, i * 2 + 1, none⟩) hne5 _
          have hC10 : Below w1.heap.size w1 w10 := hw10 ▸ (hC9.setCell (p := ⟨w1.heap.size, i * 2, none⟩) (Nat.le_refl _) _).setCell (p := ⟨w1.heap.size, i * 2 + 1, none⟩) (Nat.le_refl _) _
          have hI10 : w10.cell? ⟨wr.heap.size, 0, none⟩ = some (.int .i64 (a : Nat)) := by
            subst hw10
            exact (World.cell?_setCell_far _ ⟨w1.heap.size, i * 2 + 1, none⟩ ⟨wr.heap.size, 0, none⟩ _ hne4).trans ((World.cell?_setCell_far _ ⟨w1.heap.size, i * 2, none⟩ ⟨wr.heap.size, 0, none⟩ _ hne4).trans hI0)
          have hEl10 : wr.heap.size < w10.heap.size := by subst hw10; simpa using hEl9
          have hA0 := hA10.cell (k := i * 2) (by rw [M.stl_length]; omega)
          have hA1 := hA10.cell (k := i * 2 + 1) (by rw [M.stl_length]; omega)
          rw [M.stl_T T _ (Nat.lt_succ_self i) hlt, HV.out] at hA0
          rw [M.stl_C T _ (Nat.lt_succ_self i) hlt, HD.out] at hA1
          have hk0 := hK10.cell (k := a * 2) (by rw [M.ksl_length]; omega)
          have hk1 := hK10.cell (k := a * 2 + 1) (by rw [M.ksl_length]; omega)
          have hkf0 := hK10.frozen (a * 2)
          have hkf1 := hK10.frozen (a * 2 + 1)
          obtain ⟨y0, hy0⟩ : ∃ y, M.rowZ (M.ksl T (M.tm zs) i) (a * 2) = y := ⟨_, rfl⟩
          obtain ⟨y1, hy1⟩ : ∃ y, M.rowZ (M.ksl T (M.tm zs) i) (a * 2 + 1) = y := ⟨_, rfl⟩
          rw [hy0] at hk0
          rw [hy1] at hk1
          clear hy0 hy1
          obtain ⟨w11, hw11⟩ : ∃ w11, (w10.setCell ⟨K, a * 2, none⟩ (.int .i64 (v : Nat))).setCell ⟨K, a * 2 + 1, none⟩ (.int .i64 (d : Nat)) = w11 := ⟨_, rfl⟩
          have HR1 : Hid (RowZ 47 w11 w1.heap.size (M.stl T (M.tm zs) n (i + 1))) := by
            have := (hA10.other (a := ⟨K, a * 2, none⟩) hne5.symm (.int .i64 (v : Nat))).other (a := ⟨K, a * 2 + 1, none⟩) hne5.symm (.int .i64 (d : Nat))
            rw [hw11] at this
            exact this
          have HR2 : Hid (RowZ 71 w11 K (M.ksl T (M.tm zs) (i + 1))) := by
            have := (hK10.set (a * 2) (v : Nat)).set (a * 2 + 1) (d : Nat)
            rw [hw11] at this
            show RowZ _ _ _ _
            rw [← M.ksl_set HA.out (show ((v : Nat) : Int) = _ by rw [HV.out]) (show ((d : Nat) : Int) = _ by rw [HD.out])]
            exact this
          have HR3 : Below w1.heap.size w1 w11.drew := by
            have := (hC10.setCell (p := ⟨K, a * 2, none⟩) (Nat.le_of_lt hAK) (.int .i64 (v : Nat))).setCell (p := ⟨K, a * 2 + 1, none⟩) (Nat.le_of_lt hAK) (.int .i64 (d : Nat))
            rw [hw11] at this
            exact this.drew
          clear hw10 hA10 hK10 hC10 hA9 hK9 hC9 hd0 hd1 hg0 hg1 hs0 hs1 hs2 hI0 hB9 HNX hA6 hK6 hL6 hC6 hcz hcz1 hq0 hq1 hG0 hG1
          go_wp2_with fail
          go_still_tail 7, (by kernel_rfl)
          go_wp2_with fail
          go_roundw
          case rel => exact ⟨i + 1, by go_num, by omega, HR1.out, HR2.out, HR3⟩
          case measure => simp [intOf]; omega
    · obtain rfl : i = n := by omega
      go_wp2_with fail
      go_ret2
      exact ⟨w1.heap.size, rfl, hA, hC1.size, bel_on hC1 hB⟩
end Go.Proofs.YtkojkiggdbffhaaDoor
