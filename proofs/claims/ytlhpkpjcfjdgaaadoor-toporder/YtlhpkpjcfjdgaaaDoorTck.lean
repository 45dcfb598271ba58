/- What is wrong with a trace (package trace, Check), at whatever numbers; what lay in memory lies as it lay. -/
import Derived.Test.YtlhpkpjcfjdgaaaDoorEvs
namespace Go.Proofs.YtlhpkpjcfjdgaaaDoor
open Go.RowKit

/-- Block B holds a trace's number of processes, and its slice of events. -/
structure TBox (w : World) (B : Nat) (P : Int) (p : Option Addr) (n cap : Nat) : Prop where
  lt : B < w.heap.size
  procs : w.cell? ⟨B, 0, none⟩ = some (.int .i64 P)
  events : w.cell? ⟨B, 1, none⟩ = some (.slice p n cap)
theorem TBox.later {w w' : World} {B N : Nat} {P : Int} {p : Option Addr} {n cap : Nat} (h : TBox w B P p n cap) (hb : Below N w w') (hN : B < N) : TBox w' B P p n cap :=
  ⟨by have := hb.size; have := h.lt; omega, (hb.cell (p := ⟨B, 0, none⟩) hN).trans h.procs, (hb.cell (p := ⟨B, 1, none⟩) hN).trans h.events⟩
theorem tbox_new (w : World) (P : Int) (p : Option Addr) (n cap : Nat) : TBox (w.alloc (.cells #[.int .i64 P, .slice p n cap] 24)) w.heap.size P p n cap :=
  ⟨by simp, by simp, by simp⟩
theorem bel_al {w w' : World} (h : Below w.heap.size w w') (o : Obj) : Below w.heap.size w (w'.alloc o) := h.alloc h.size o
theorem below_drewN (w : World) (k : Nat) : Below w.heap.size w (w.drewN k) := by
  induction k with
  | zero => exact Below.refl _ _
  | succ k ih => exact ih.drew
theorem bel_drN {w w' : World} (h : Below w.heap.size w w') (k : Nat) : Below w.heap.size w (w'.drewN k) := h.trans ((below_drewN _ _).mono h.size)
theorem bel_on {w v u : World} (h : Below w.heap.size w v) (h2 : Below v.heap.size v u) : Below w.heap.size w u := h.trans (h2.mono h.size)

theorem ev_range {P : Int} {T : List (Int × Int)} {i n : Nat} {a : Int} (hz : M.evTo P T i = 0) (hi : i < n) (ha : M.pr T i = a) (h : ¬ (0 ≤ a ∧ a < P)) : M.evTo P T n = 1 := by
  have e : M.evC P T i = 1 := by unfold M.evC; rw [ha, if_neg (by omega)]
  rw [M.evTo_first hz hi (by rw [e]; omega), e]
theorem ev_range2 {P : Int} {T : List (Int × Int)} {i n : Nat} {f : Int} (hz : M.evTo P T i = 0) (hi : i < n) (hf : M.fm T i = f) (h1 : ¬ f = -1) (h : ¬ (0 ≤ f ∧ f < i)) : M.evTo P T n = 1 := by
  have e : M.evC P T i = 1 := by unfold M.evC; rw [hf, if_neg (by omega)]
  rw [M.evTo_first hz hi (by rw [e]; omega), e]
theorem ev_clash {P : Int} {T : List (Int × Int)} {i n j : Nat} {a b : Int} (hz : M.evTo P T i = 0) (hi : i < n) (ha : M.pr T i = a) (h : 0 ≤ a ∧ a < P) (hf : M.fm T i = (j : Nat)) (hj : j < i) (hb : M.pr T j = b) (e : b = a) : M.evTo P T n = 6 := by
  have e : M.evC P T i = 6 := by unfold M.evC; rw [ha, hf, if_pos (by omega), if_pos ⟨by omega, by rw [Int.toNat_natCast, hb, e]⟩]
  rw [M.evTo_first hz hi (by rw [e]; omega), e]
theorem ev_next0 {P : Int} {T : List (Int × Int)} {i : Nat} {a f : Int} (hz : M.evTo P T i = 0) (ha : M.pr T i = a) (h : 0 ≤ a ∧ a < P) (hf : M.fm T i = f) (e : f = -1) : M.evTo P T (i + 1) = 0 := by
  simp only [M.evTo]
  rw [if_pos hz]
  unfold M.evC; rw [ha, hf, if_pos (by omega), if_neg (by omega)]
theorem ev_next {P : Int} {T : List (Int × Int)} {i j : Nat} {a b : Int} (hz : M.evTo P T i = 0) (ha : M.pr T i = a) (h : 0 ≤ a ∧ a < P) (hf : M.fm T i = (j : Nat)) (hj : j < i) (hb : M.pr T j = b) (e : ¬ b = a) : M.evTo P T (i + 1) = 0 := by
  simp only [M.evTo]
  rw [if_pos hz]
  unfold M.evC; rw [ha, hf, if_pos (by omega), if_neg (fun h => e (by have := h.2; rw [Int.toNat_natCast, hb] at this; exact this))]
set_option maxRecDepth 100000 in
set_option maxHeartbeats 2000000 in
theorem check_tr (P : Int) (T : List (Int × Int)) (p : Option Addr) (n cap : Nat) (w : World) (hl : T.length = n) (hmax : n ≤ maxLen) (hc : HasE T p w) :
    Calls Tryd.prog 28 #[trV P p n cap] w fun e w' => e = .returned (terr (M.tcode P T)) ∧ Below w.heap.size w w' := by
  unfold maxLen at hmax
  have hB0 : Below w.heap.size w (w.alloc (.cells #[.int .i64 P, .slice p n cap] 24)) := (Below.refl _ _).alloc (Nat.le_refl _) _
  by_cases h1 : P < 1
  · have e : M.tcode P T = 1 := by unfold M.tcode; rw [if_neg (by omega)]
    rw [e]
    go_enter Tryd.func28, Tryd.ntmps28
    go_wp2
    go_ret
    exact ⟨rfl, hB0⟩
  by_cases h5 : 5 < P
  · have e : M.tcode P T = 1 := by unfold M.tcode; rw [if_neg (by omega)]
    rw [e]
    go_enter Tryd.func28, Tryd.ntmps28
    go_wp2
    go_ret
    exact ⟨rfl, hB0⟩
  by_cases h24 : 24 < n
  · have e : M.tcode P T = 4 := by unfold M.tcode; rw [if_pos (by omega), if_pos (by omega)]
    rw [e]
    go_enter Tryd.func28, Tryd.ntmps28
    go_wp2
    go_ret
    exact ⟨rfl, hB0⟩
  have e : M.tcode P T = M.evTo P T n := by unfold M.tcode; rw [if_pos (by omega), if_neg (by omega), hl]
  rw [e]
  clear e
  obtain ⟨wb, hwb⟩ : ∃ wb, w.alloc (.cells #[.int .i64 P, .slice p n cap] 24) = wb := ⟨_, rfl⟩
  have hbox : TBox wb w.heap.size P p n cap := hwb ▸ tbox_new w P p n cap
  rw [hwb] at hB0
  have hcb : HasE T p wb := hc.later hB0
  have hsz : Hid (w.heap.size < wb.heap.size) := hbox.lt
  have hk1 := hbox.procs
  have hk2 := hbox.events
  have hP1 : decide (P < 1) = false := decide_eq_false h1
  have hP5 : decide (5 < P) = false := decide_eq_false h5
  have hn4 : decide ((24 : Int) < (n : Int)) = false := decide_eq_false (by omega)
  clear hc
  go_enter Tryd.func28, Tryd.ntmps28
  go_wp2
  go_loopw [22] (fun v wr => ∃ i : Nat, v = .int .i64 i ∧ i ≤ n ∧ Hid (M.evTo P T i = 0) ∧ Below wb.heap.size wb wr) (fun v _ => n - (intOf v).toNat)
  case atStart => exact ⟨0, rfl, Nat.zero_le _, show M.evTo P T 0 = 0 from rfl, Below.refl _ _⟩
  case round =>
    clear hk1 hk2 hwb
    obtain ⟨i, rfl, hi, hz, hB⟩ := hrel
    have hbr := hbox.later hB hsz.out
    have hk1 := hbr.procs
    have hk2 := hbr.events
    have hbl := hbr.lt
    by_cases hlt : i < n
    · obtain ⟨b, off, rfl, hb, hc1, hc2⟩ := (hcb.later hB) i (by omega)
      obtain ⟨a, ha⟩ : ∃ a, M.pr T i = a := ⟨_, rfl⟩
      obtain ⟨f, hf⟩ : ∃ f, M.fm T i = f := ⟨_, rfl⟩
      rw [ha] at hc1
      rw [hf] at hc2
      have HA : Hid (M.pr T i = a) := ha
      have HF : Hid (M.fm T i = f) := hf
      clear ha hf
      by_cases hat : 0 ≤ a ∧ a < P
      · have e1 := thingZ_true hat.1 hat.2
        by_cases hfm : f = -1
        · have e2 : (f != -1) = false := by subst hfm; rfl
          have HN : Hid (M.evTo P T (i + 1) = 0) := ev_next0 hz.out HA.out hat HF.out hfm
          clear hfm
          go_wp2_with (first | (go_at_call 55; refine (isThing_z _ _ _).mono ?_; rintro e w' ⟨rfl, rfl⟩) | (go_at_call 54; refine (heard_any _ _ _).mono ?_; rintro e w' ⟨rfl, rfl⟩))
          refine wp_region_held_drew (S := fun w' => w'.cell? ⟨wr.heap.size, 0, none⟩ = some (.int .i64 a) ∧ w'.cell? ⟨wr.heap.size, 1, none⟩ = some (.int .i64 f)) (by kernel_rfl) ?_ (fun hHeld => ?_)
          · go_keep
          refine wpAnyH_take (i := 0) (oi := { dst := some 45, op := Op.load 62 (Operand.tmp 4), type := 62, pos := "trace.go:21", after := #[], guard := none }) (v := ?_) rfl (by kernel_rfl) (by kernel_rfl) (by kernel_rfl) (fun _ _ _ h => h) (Or.inl ⟨by rfl, ?_⟩) hHeld ?_
          rotate_left 1
          · intro w9 hSw
            try dsimp only at hSw
            go_simp
            try with_reducible rfl
          try simp only [Act.put, List.setIfInBounds_toArray, List.set_cons_zero, List.set_cons_succ]
          refine wpAnyH_ready (rs := [1]) (by kernel_rfl) (by simp) ?_
          refine AllReadyH.cons (o := { dst := some 46, op := Op.call { callee := Callee.value (Operand.func 54), args := #[Operand.tmp 45], argTypes := #[62] }, type := 4, pos := "trace.go:21", after := #[{ on := 0, ground := Ground.data }], guard := none }) rfl (fun K hK => ?_) AllReadyH.nil
          go_simp
          go_at_call 54
          refine (heard_no _ _ _ e2).mono ?_
          rintro e w' ⟨rfl, rfl⟩
          go_wp2_with fail
          refine hK.out _ _ ?_ (fun hHeld => ?_)
          · go_keep
          clear hK K
          try simp only [Act.put, List.setIfInBounds_toArray, List.set_cons_zero, List.set_cons_succ]
          refine wpAnyH_take (i := 2) (oi := { dst := some 47, op := Op.move (Operand.tmp 46), type := 4, pos := "trace.go:21", after := #[{ on := 1, ground := Ground.data }, { on := 1, ground := Ground.chain }], guard := none }) (v := ?_) rfl (by kernel_rfl) (by kernel_rfl) (by kernel_rfl) (fun _ _ _ h => h) (Or.inl ⟨by rfl, ?_⟩) hHeld ?_
          rotate_left 1
          · intro w9 hSw
            try dsimp only at hSw
            go_simp
            try with_reducible rfl
          try simp only [Act.put, List.setIfInBounds_toArray, List.set_cons_zero, List.set_cons_succ]
          refine wpAnyH_take (i := 3) (oi := { dst := some 48, op := Op.fieldAddr 24 (Operand.tmp 1) 1, type := 0, pos := "trace.go:21", after := #[{ on := 2, ground := Ground.guard }], guard := some (2, true) }) (v := undef) rfl (by kernel_rfl) (by kernel_rfl) (by kernel_rfl) (fun _ _ _ h => h) (Or.inr ⟨by rfl, rfl⟩) hHeld ?_
          try simp only [Act.put, List.setIfInBounds_toArray, List.set_cons_zero, List.set_cons_succ]
          refine wpAnyH_take (i := 4) (oi := { dst := some 49, op := Op.load 22 (Operand.tmp 48), type := 22, pos := "trace.go:21", after := #[{ on := 3, ground := Ground.data }, { on := 2, ground := Ground.guard }], guard := some (2, true) }) (v := undef) rfl (by kernel_rfl) (by kernel_rfl) (by kernel_rfl) (fun _ _ _ h => h) (Or.inr ⟨by rfl, rfl⟩) hHeld ?_
          try simp only [Act.put, List.setIfInBounds_toArray, List.set_cons_zero, List.set_cons_succ]
          refine wpAnyH_take (i := 5) (oi := { dst := some 50, op := Op.fieldAddr 62 (Operand.tmp 4) 1, type := 0, pos := "trace.go:21", after := #[{ on := 2, ground := Ground.guard }], guard := some (2, true) }) (v := undef) rfl (by kernel_rfl) (by kernel_rfl) (by kernel_rfl) (fun _ _ _ h => h) (Or.inr ⟨by rfl, rfl⟩) hHeld ?_
          try simp only [Act.put, List.setIfInBounds_toArray, List.set_cons_zero, List.set_cons_succ]
          refine wpAnyH_take (i := 6) (oi := { dst := some 51, op := Op.load 3 (Operand.tmp 50), type := 3, pos := "trace.go:21", after := #[{ on := 5, ground := Ground.data }, { on := 2, ground := Ground.guard }], guard := some (2, true) }) (v := undef) rfl (by kernel_rfl) (by kernel_rfl) (by kernel_rfl) (fun _ _ _ h => h) (Or.inr ⟨by rfl, rfl⟩) hHeld ?_
          try simp only [Act.put, List.setIfInBounds_toArray, List.set_cons_zero, List.set_cons_succ]
          refine wpAnyH_take (i := 7) (oi := { dst := some 52, op := Op.indexAddr 22 (Operand.tmp 49) (Operand.tmp 51), type := 0, pos := "trace.go:21", after := #[{ on := 4, ground := Ground.data }, { on := 6, ground := Ground.data }, { on := 2, ground := Ground.guard }], guard := some (2, true) }) (v := undef) rfl (by kernel_rfl) (by kernel_rfl) (by kernel_rfl) (fun _ _ _ h => h) (Or.inr ⟨by rfl, rfl⟩) hHeld ?_
          try simp only [Act.put, List.setIfInBounds_toArray, List.set_cons_zero, List.set_cons_succ]
          refine wpAnyH_take (i := 8) (oi := { dst := some 53, op := Op.fieldAddr 62 (Operand.tmp 52) 0, type := 0, pos := "trace.go:21", after := #[{ on := 7, ground := Ground.data }, { on := 2, ground := Ground.guard }], guard := some (2, true) }) (v := undef) rfl (by kernel_rfl) (by kernel_rfl) (by kernel_rfl) (fun _ _ _ h => h) (Or.inr ⟨by rfl, rfl⟩) hHeld ?_
          try simp only [Act.put, List.setIfInBounds_toArray, List.set_cons_zero, List.set_cons_succ]
          refine wpAnyH_take (i := 9) (oi := { dst := some 54, op := Op.load 3 (Operand.tmp 53), type := 3, pos := "trace.go:21", after := #[{ on := 8, ground := Ground.data }, { on := 2, ground := Ground.guard }], guard := some (2, true) }) (v := undef) rfl (by kernel_rfl) (by kernel_rfl) (by kernel_rfl) (fun _ _ _ h => h) (Or.inr ⟨by rfl, rfl⟩) hHeld ?_
          try simp only [Act.put, List.setIfInBounds_toArray, List.set_cons_zero, List.set_cons_succ]
          refine wpAnyH_take (i := 10) (oi := { dst := some 55, op := Op.fieldAddr 62 (Operand.tmp 4) 0, type := 0, pos := "trace.go:21", after := #[{ on := 2, ground := Ground.guard }], guard := some (2, true) }) (v := undef) rfl (by kernel_rfl) (by kernel_rfl) (by kernel_rfl) (fun _ _ _ h => h) (Or.inr ⟨by rfl, rfl⟩) hHeld ?_
          try simp only [Act.put, List.setIfInBounds_toArray, List.set_cons_zero, List.set_cons_succ]
          refine wpAnyH_take (i := 11) (oi := { dst := some 56, op := Op.load 3 (Operand.tmp 55), type := 3, pos := "trace.go:21", after := #[{ on := 10, ground := Ground.data }, { on := 2, ground := Ground.guard }], guard := some (2, true) }) (v := undef) rfl (by kernel_rfl) (by kernel_rfl) (by kernel_rfl) (fun _ _ _ h => h) (Or.inr ⟨by rfl, rfl⟩) hHeld ?_
          try simp only [Act.put, List.setIfInBounds_toArray, List.set_cons_zero, List.set_cons_succ]
          refine wpAnyH_take (i := 12) (oi := { dst := some 57, op := Op.binOp BinOp.eql 3 (Operand.tmp 54) (Operand.tmp 56) 3, type := 4, pos := "trace.go:21", after := #[{ on := 9, ground := Ground.data }, { on := 11, ground := Ground.data }, { on := 2, ground := Ground.guard }], guard := some (2, true) }) (v := undef) rfl (by kernel_rfl) (by kernel_rfl) (by kernel_rfl) (fun _ _ _ h => h) (Or.inr ⟨by rfl, rfl⟩) hHeld ?_
          try simp only [Act.put, List.setIfInBounds_toArray, List.set_cons_zero, List.set_cons_succ]
          refine wpAnyH_take (i := 13) (oi := { dst := some 58, op := Op.pick (Operand.tmp 47) (Operand.tmp 57) (Operand.const (Value.bool false)), type := 4, pos := "trace.go:21", after := #[{ on := 2, ground := Ground.data }, { on := 12, ground := Ground.data }], guard := none }) (v := ?_) rfl (by kernel_rfl) (by kernel_rfl) (by kernel_rfl) (fun _ _ _ h => h) (Or.inl ⟨by rfl, ?_⟩) hHeld ?_
          rotate_left 1
          · intro w9 hSw
            try dsimp only at hSw
            go_simp
            try with_reducible rfl
          try simp only [Act.put, List.setIfInBounds_toArray, List.set_cons_zero, List.set_cons_succ]
          refine wpAnyH_done (by kernel_rfl) ?_ _
          go_wp2
          go_roundw
          case rel => exact ⟨i + 1, by go_num, by omega, HN, (by repeat first | exact hB | apply bel_al | apply Below.drew)⟩
          case measure => simp [intOf]; omega
        · have e2 : (f != -1) = true := by simpa using hfm
          by_cases hfi : 0 ≤ f ∧ f < i
          · have e3 := thingZ_true hfi.1 hfi.2
            obtain ⟨j, rfl⟩ : ∃ j : Nat, f = j := ⟨f.toNat, by omega⟩
            obtain ⟨_, _, e0, hb', hc3, -⟩ := (hcb.later hB) j (by omega)
            cases e0
            obtain ⟨a2, ha2⟩ : ∃ a, M.pr T j = a := ⟨_, rfl⟩
            rw [ha2] at hc3
            have HA2 : Hid (M.pr T j = a2) := ha2
            clear ha2 hfm
            have hjn : (j : Int) < (n : Int) := by omega
            have hK1 : ∀ W' : World, Below wr.heap.size wr W' → W'.cell? ⟨w.heap.size, 1, none⟩ = some (.slice (some ⟨b, off, none⟩) n cap) := fun W' hb9 => (hb9.cell (p := ⟨w.heap.size, 1, none⟩) hbl).trans hk2
            have hK2 : ∀ W' : World, Below wr.heap.size wr W' → W'.cell? ⟨b, off + j * 2, none⟩ = some (.int .i64 a2) := fun W' hb9 => (hb9.cell (p := ⟨b, off + j * 2, none⟩) hb').trans hc3
            have hjn' : j < n := by omega
            go_wp2_with (first | (go_at_call 55; refine (isThing_z _ _ _).mono ?_; rintro e w' ⟨rfl, rfl⟩) | (go_at_call 54; refine (heard_yes _ _ _ e2).mono ?_; rintro e w' ⟨rfl, rfl⟩))
            go_region_held3 (fun w' => w'.cell? ⟨wr.heap.size, 0, none⟩ = some (.int .i64 a) ∧ w'.cell? ⟨wr.heap.size, 1, none⟩ = some (.int .i64 j) ∧ w'.cell? ⟨w.heap.size, 1, none⟩ = some (.slice (some ⟨b, off, none⟩) n cap) ∧ w'.cell? ⟨b, off + j * 2, none⟩ = some (.int .i64 a2)) (exact ⟨by go_keep, by go_keep, hK1 _ (by repeat first | exact Below.refl _ _ | apply bel_al | apply Below.drew), hK2 _ (by repeat first | exact Below.refl _ _ | apply bel_al | apply Below.drew)⟩) (first | (go_at_call 54; refine (heard_yes _ _ _ e2).mono ?_; rintro e w' ⟨rfl, rfl⟩))
            by_cases hcl : a2 = a
            · have HC : Hid (M.evTo P T n = 6) := ev_clash hz.out hlt HA.out hat HF.out (by omega) HA2.out hcl
              have hd : (a2 == a) = true := by rw [hcl]; exact beq_self_eq_true a
              clear hcl
              go_wp2
              go_ret
              exact ⟨by rw [HC.out]; rfl, bel_on hB0 (by repeat first | exact hB | apply bel_al | apply Below.drew)⟩
            · have HC : Hid (M.evTo P T (i + 1) = 0) := ev_next hz.out HA.out hat HF.out (by omega) HA2.out hcl
              have hd : (a2 == a) = false := by simpa using hcl
              clear hcl
              go_wp2
              go_roundw
              case rel => exact ⟨i + 1, by go_num, by omega, HC, (by repeat first | exact hB | apply bel_al | apply Below.drew)⟩
              case measure => simp [intOf]; omega
          · have e3 := thingZ_false hfi
            have HC : Hid (M.evTo P T n = 1) := ev_range2 hz.out hlt HF.out hfm hfi
            clear hfm
            go_wp2_with (first | (go_at_call 55; refine (isThing_z _ _ _).mono ?_; rintro e w' ⟨rfl, rfl⟩) | (go_at_call 54; refine (heard_yes _ _ _ e2).mono ?_; rintro e w' ⟨rfl, rfl⟩))
            go_ret
            exact ⟨by rw [HC.out]; rfl, bel_on hB0 (by repeat first | exact hB | apply bel_al | apply Below.drew)⟩
      · have e1 := thingZ_false hat
        have HC : Hid (M.evTo P T n = 1) := ev_range hz.out hlt HA.out hat
        go_wp2_with (first | (go_at_call 55; refine (isThing_z _ _ _).mono ?_; rintro e w' ⟨rfl, rfl⟩) | (go_at_call 54; refine (heard_any _ _ _).mono ?_; rintro e w' ⟨rfl, rfl⟩))
        go_ret
        exact ⟨by rw [HC.out]; rfl, bel_on hB0 (by repeat first | exact hB | apply bel_al | apply Below.drew)⟩
    · obtain rfl : i = n := by omega
      go_wp2
      go_ret
      exact ⟨by rw [hz.out]; rfl, bel_on hB0 hB⟩
end Go.Proofs.YtlhpkpjcfjdgaaaDoor
