/- Cuts that were found, each once, in the order in which they were (package queue, at cut.numbers): New with one cut, Len, All; the function that All hands out goes over all that are found, also while it goes. -/
import Derived.Test.YtkojkiggdbffhaaDoorQue
import Derived.Test.YtkojkiggdbffhaaDoorRgr
namespace Go.Proofs.YtkojkiggdbffhaaDoor
open Go.RowKit Go.Shelf
attribute [local go_sem] Oper.semAt_some
theorem qcells_length {L : List (List Nat)} (h5 : ∀ c, c ∈ L → c.length = 5) : (qcells L).length = L.length * 5 := by
  induction L with
  | nil => rfl
  | cons c L ih =>
    simp only [qcells, List.flatMap_cons, List.length_append, List.length_cons]
    have := ih (fun x hx => h5 x (List.mem_cons_of_mem _ hx))
    unfold qcells at this
    rw [this]
    have := h5 c (List.mem_cons_self ..)
    simp [icells, this]
    omega
theorem qcells_get {L : List (List Nat)} (h5 : ∀ c, c ∈ L → c.length = 5) {i k : Nat} {x : List Nat} (hx : L[i]? = some x) (hk : k < 5) : (qcells L)[i * 5 + k]? = some (.int .i64 (M.row x k : Nat)) := by
  induction L generalizing i with
  | nil => simp at hx
  | cons c L ih =>
    have hc := h5 c (List.mem_cons_self ..)
    have hl : (icells c).length = 5 := by simp [icells, hc]
    simp only [qcells, List.flatMap_cons]
    cases i with
    | zero =>
      simp at hx
      subst hx
      rw [Nat.zero_mul, Nat.zero_add, List.getElem?_append_left (by omega)]
      unfold icells M.row
      rw [List.getElem?_map, List.getElem?_eq_getElem (by omega)]
      rfl
    | succ i =>
      rw [List.getElem?_append_right (by omega), hl]
      have := ih (fun x hx => h5 x (List.mem_cons_of_mem _ hx)) (i := i) (by simpa using hx)
      rw [show (i + 1) * 5 + k - 5 = i * 5 + k by omega]
      exact this
set_option maxHeartbeats 1000000 in
theorem qlen_ok (Q B base : Nat) (v : Value) (L : List (List Nat)) (w : World) (hq : QV w Q B base v L) :
    Calls Tryd.prog 34 #[.pointer (some ⟨Q, 0, none⟩)] w fun e w' => e = .returned (.int .i64 (L.length : Nat)) ∧ w = w' := by
  obtain ⟨p, c, rfl⟩ := owns_slice hq.row
  have h0 := hq.blk.cell 0
  go_enter Tryd.func34, Tryd.ntmps34
  go_wp2
  go_ret
  exact ⟨rfl, rfl⟩
set_option maxHeartbeats 1000000 in
theorem qall_ok (Q : Nat) (w : World) :
    Calls Tryd.prog 31 #[.pointer (some ⟨Q, 0, none⟩)] w fun e w' => e = .returned (.func (.func 47) #[] #[.pointer (some ⟨w.heap.size, 0, none⟩)]) ∧ w.alloc (.cells #[.pointer (some ⟨Q, 0, none⟩)] 61) = w' := by
  go_enter Tryd.func31, Tryd.ntmps31
  go_wp2
  go_ret
  exact ⟨rfl, rfl⟩
set_option maxRecDepth 100000 in
set_option maxHeartbeats 2000000 in
theorem qnew_ok (p : Nat) (w : World) (hp : Blk w p #[.int .i64 0, .int .i64 0, .int .i64 0, .int .i64 0, .int .i64 0] 59) :
    Calls Tryd.prog 30 #[.slice (some ⟨p, 0, none⟩) 1 1] w fun e w' => ∃ Q B v, e = .returned (.pointer (some ⟨Q, 0, none⟩)) ∧ QV w' Q B w.heap.size v [[0, 0, 0, 0, 0]] ∧ w.heap.size ≤ Q ∧ w.heap.size ≤ B ∧ Below w.heap.size w w' := by
  obtain ⟨wa, hwa⟩ : ∃ wa, w.alloc (.map #[] 0) = wa := ⟨_, rfl⟩
  obtain ⟨wb, hwb⟩ : ∃ wb, wa.alloc (.cells #[.slice none 0 0, .map (some w.heap.size)] 81) = wb := ⟨_, rfl⟩
  have sa : wa.heap.size = w.heap.size + 1 := by subst hwa; simp
  have hBb : Below w.heap.size w wb := by rw [← hwb, ← hwa]; exact bel_al (bel_al (Below.refl _ _) _) _
  have hQ : QV wb (w.heap.size + 1) w.heap.size w.heap.size (.slice none 0 0) [] := by
    refine ⟨?_, World.ownsRow_nil _ _ _ _, ?_⟩
    · rw [← hwb, ← sa]; exact Blk.new _ _ _
    · have h : Kn [] w.heap.size wa := hwa ▸ kn_made w
      exact h.at_ (by rw [← hwb]; exact Below.heap_alloc _ _ _ (by omega))
  have hmk := run_make_known
  have hlt := hp.lt
  go_enter Tryd.func30, Tryd.ntmps30
  go_wp2_with fail
  go_loopw [11] (fun t wr => ∃ i : Nat, t = .int .i64 i ∧ Below w.heap.size w wr ∧ ((i = 0 ∧ QV wr (w.heap.size + 1) w.heap.size w.heap.size (.slice none 0 0) []) ∨ (i = 1 ∧ ∃ v, QV wr (w.heap.size + 1) w.heap.size w.heap.size v [[0, 0, 0, 0, 0]]))) (fun t _ => 1 - (intOf t).toNat)
  case atStart => exact ⟨0, rfl, hBb, .inl ⟨rfl, hQ⟩⟩
  case round =>
    clear hmk hwa hwb
    obtain ⟨i, rfl, hB, ⟨rfl, hq⟩ | ⟨rfl, v, hq⟩⟩ := hrel
    · have hpr := hp.below hB hlt
      have c0 := hpr.cell 0
      have c1 := hpr.cell 1
      have c2 := hpr.cell 2
      have c3 := hpr.cell 3
      have c4 := hpr.cell 4
      have hpl := hpr.lt
      have hB2 := bel_al hB (.cells #[.int .i64 0, .int .i64 0, .int .i64 0, .int .i64 0, .int .i64 0] 59)
      have hq2 := hq.below (bel_al (Below.refl _ wr) (.cells #[.int .i64 0, .int .i64 0, .int .i64 0, .int .i64 0, .int .i64 0] 59))
      go_wp2_with fail
      refine (add_new _ _ _ _ _ 0 0 0 0 0 _ hq2 (by simp) (by simp) (by have := hB2.size; exact this) (by omega) (by omega) (by omega) (by omega) (by omega)).mono ?_
      rintro e w3 ⟨⟨u, rfl⟩, v', hq3, _, hf3⟩
      have hB3 : Below w.heap.size w w3 := hB2.trans (hf3.below hB2.size (fun k hk h => by
        rcases h with h | h | h
        · omega
        · omega
        · cases h))
      go_wp2_with fail
      go_roundw
      case rel => exact ⟨1, by go_num, hB3, .inr ⟨rfl, v', hq3⟩⟩
      case measure => simp [intOf]
    · go_wp2_with fail
      go_ret
      exact ⟨_, _, v, rfl, hq, by omega, Nat.le_refl _, hB⟩
end Go.Proofs.YtkojkiggdbffhaaDoor
