/- Rows of acts that a call makes by appending: their cells, one more, one stored into; the closed fact of the laws of schedules (lost, schedFact). -/
import Derived.Test.YtkkccafobfdjbaaDoorSc3
namespace Go.Proofs.YtkkccafobfdjbaaDoor
open Go.RowKit

/-- Acts as cells. -/
def acells : List M.SAct → List Value
  | [] => []
  | a :: r => [.int .i64 ((a.tx : Nat) : Int), .int .i64 ((a.it : Nat) : Int), .int .i64 ((a.wr : Nat) : Int)] ++ acells r
theorem acells_len : ∀ h : List M.SAct, (acells h).length = h.length * 3
  | [] => rfl
  | a :: r => by
    simp only [acells, List.length_append, List.length_cons, List.length_nil, acells_len r]
    omega
theorem acells_app : ∀ (h g : List M.SAct), acells (h ++ g) = acells h ++ acells g
  | [], _ => rfl
  | a :: r, g => by
    show _ ++ acells (r ++ g) = _
    rw [acells_app r g]
    simp [acells]
theorem acells_snoc (h : List M.SAct) (a : M.SAct) : acells (h ++ [a]) = acells h ++ [.int .i64 ((a.tx : Nat) : Int), .int .i64 ((a.it : Nat) : Int), .int .i64 ((a.wr : Nat) : Int)] := by rw [acells_app]; rfl
theorem acells_at : ∀ (h : List M.SAct) (j : Nat), j < h.length → (acells h)[j * 3]? = some (.int .i64 (((M.sat h j).tx : Nat) : Int)) ∧ (acells h)[j * 3 + 1]? = some (.int .i64 (((M.sat h j).it : Nat) : Int)) ∧ (acells h)[j * 3 + 2]? = some (.int .i64 (((M.sat h j).wr : Nat) : Int))
  | [], j, hj => by simp at hj
  | a :: r, 0, _ => ⟨rfl, rfl, rfl⟩
  | a :: r, j + 1, hj => by
    have ih := acells_at r j (by simpa using hj)
    have e : ∀ i, (acells (a :: r))[(j + 1) * 3 + i]? = (acells r)[j * 3 + i]? := fun i => by
      simp only [acells]
      rw [List.getElem?_append_right (by simp; omega)]
      congr 1
      simp
      omega
    have hop : M.sat (a :: r) (j + 1) = M.sat r j := rfl
    rw [hop]
    exact ⟨(e 0).trans ih.1, (e 1).trans ih.2.1, (e 2).trans ih.2.2⟩
theorem acells_one (h : List M.SAct) : ∀ u ∈ acells h, u.oneCell' = true := by
  induction h with
  | nil => intro u hu; cases hu
  | cons a r ih =>
    intro u hu
    simp only [acells, List.mem_append, List.mem_cons, List.not_mem_nil, or_false] at hu
    rcases hu with (rfl | rfl | rfl) | hu
    · rfl
    · rfl
    · rfl
    · exact ih u hu
theorem hasAc_of_owns {w : World} {base n cap : Nat} {p : Option Addr} {h : List M.SAct} (hm : h.length = n) (ho : w.ownsRow base 45 3 (.slice p n cap) n (acells h)) : HasAc (az h) p w := by
  rcases ho.2 with ⟨e, rfl⟩ | ⟨g, cap', cur, e, hb, hg, h1, h2, h3, h4⟩
  · exact fun j hj => by rw [az_len] at hj; omega
  · cases e
    refine fun j hj => ⟨g, 0, rfl, ?_⟩
    rw [az_len] at hj
    rw [aAt_az]
    have cells : ∀ i, i < 3 → w.cell? ⟨g, 0 + j * 3 + i, none⟩ = (acells h)[j * 3 + i]? := fun i hi => by
      have hc := ho.cellAt (j * 3 + i) (by omega)
      rw [Nat.zero_add, hc]
    obtain ⟨e0, e1, e2⟩ := acells_at h j hj
    exact ⟨(Array.getElem?_eq_some_iff.1 hg).1, (cells 0 (by omega)).trans e0, (cells 1 (by omega)).trans e1, (cells 2 (by omega)).trans e2⟩
theorem hasAc_cells {s : List M.SAct} {b off : Nat} {w : World} (h : HasAc (az s) (some ⟨b, off, none⟩) w) : ∀ j u, (acells s)[j]? = some u → w.cell? ((⟨b, off, none⟩ : Addr).add j) = some u := by
  intro j u hu
  have hj : j < s.length * 3 := by
    have := (List.getElem?_eq_some_iff.1 hu).1
    rwa [acells_len] at this
  have hk : j / 3 < s.length := by omega
  obtain ⟨_, _, e, hop⟩ := h (j / 3) (by rw [az_len]; exact hk)
  cases e
  rw [aAt_az] at hop
  obtain ⟨e0, e1, e2⟩ := acells_at s (j / 3) hk
  rw [addr_add]
  have h3 : j % 3 = 0 ∨ j % 3 = 1 ∨ j % 3 = 2 := by omega
  rcases h3 with h3 | h3 | h3
  · have ej : j = j / 3 * 3 := by omega
    rw [← ej, hu] at e0
    have := hop.c0
    rw [← ej] at this
    rw [this]; exact e0.symm
  · have ej : j = j / 3 * 3 + 1 := by omega
    rw [← ej, hu] at e1
    have := hop.c1
    rw [Nat.add_assoc, ← ej] at this
    rw [this]; exact e1.symm
  · have ej : j = j / 3 * 3 + 2 := by omega
    rw [← ej, hu] at e2
    have := hop.c2
    rw [Nat.add_assoc, ← ej] at this
    rw [this]; exact e2.symm
theorem owns_capA {w : World} {base n size : Nat} {e : TypeId} {v : Value} {xs : List Value} (h : w.ownsRow base e size v n xs) : ∃ p c, v = .slice p n c ∧ n ≤ c := by
  rcases h.2 with ⟨rfl, rfl⟩ | ⟨g, cap, _, rfl, _, _, hc, _⟩
  · exact ⟨none, 0, rfl, Nat.le_refl _⟩
  · exact ⟨_, cap, rfl, hc⟩
theorem HasAc.take {s : List M.SAct} {p : Option Addr} {w : World} (h : HasAc (az s) p w) (k : Nat) : HasAc (az (s.take k)) p w := fun j hj => by
  rw [az_len, List.length_take] at hj
  obtain ⟨b, off, h1, h2⟩ := h j (by rw [az_len]; omega)
  refine ⟨b, off, h1, ?_⟩
  rw [aAt_az] at h2 ⊢
  have : M.sat (s.take k) j = M.sat s j := by
    unfold M.sat
    rw [List.getElem?_take, if_pos (by omega)]
  rw [this]; exact h2
theorem infoAct : (Tryd.prog.info? 45).map (fun i => (i.zero, i.size, i.bytes)) = some (some (.agg #[.int .i64 0, .int .i64 0, .int .i64 0]), 3, 24) := by kernel_rfl
theorem infoAct_parts {P : Program} {t : TypeId} {z : Value} {s b : Nat} (h : (P.info? t).map (fun i => (i.zero, i.size, i.bytes)) = some (some z, s, b)) : ∃ i, P.info? t = some i ∧ i.zero = some z ∧ i.size = s ∧ i.bytes = b := by
  obtain ⟨i, hi, e⟩ := Option.map_eq_some_iff.1 h
  simp only [Prod.mk.injEq] at e
  exact ⟨i, hi, e.1, e.2.1, e.2.2⟩
/-! ### the closed fact -/
def lostS : List M.SAct := [⟨0, 0, 0⟩, ⟨1, 0, 0⟩, ⟨0, 0, 1⟩, ⟨1, 0, 1⟩]
theorem lost_aok : M.AOk lostS := aok_of (by decide) (by decide)
theorem lost2_aok : M.AOk (lostS.take 2) := aok_of (by decide) (by decide)
theorem lost_ring : M.Ring (M.edR lostS) := ringB_iff.1 (by decide +kernel)
theorem lost2_ring : ¬ M.Ring (M.edR (lostS.take 2)) := fun h => by
  have := ringB_iff.2 h
  revert this
  decide +kernel
theorem lost2_row : M.firstR (M.turned (M.edR (lostS.take 2))) = [0, 1, 2, 3, 4] := by decide +kernel
abbrev lostC : Array Value := #[.int .i64 0, .int .i64 0, .int .i64 0, .int .i64 1, .int .i64 0, .int .i64 0, .int .i64 0, .int .i64 0, .int .i64 1, .int .i64 1, .int .i64 0, .int .i64 1]
theorem lost_has (w : World) : HasAc (az lostS) (some ⟨w.heap.size, 0, none⟩) (w.alloc (.cells lostC 45)) := fun j hj => by
  rw [az_len] at hj
  have hj4 : j < 4 := hj
  refine ⟨w.heap.size, 0, rfl, ?_⟩
  rcases j with _ | _ | _ | _ | j
  · exact ⟨by simp, by simp [lostS, aAt_az, azN, M.sat], by simp [lostS, aAt_az, azN, M.sat], by simp [lostS, aAt_az, azN, M.sat]⟩
  · exact ⟨by simp, by simp [lostS, aAt_az, azN, M.sat], by simp [lostS, aAt_az, azN, M.sat], by simp [lostS, aAt_az, azN, M.sat]⟩
  · exact ⟨by simp, by simp [lostS, aAt_az, azN, M.sat], by simp [lostS, aAt_az, azN, M.sat], by simp [lostS, aAt_az, azN, M.sat]⟩
  · exact ⟨by simp, by simp [lostS, aAt_az, azN, M.sat], by simp [lostS, aAt_az, azN, M.sat], by simp [lostS, aAt_az, azN, M.sat]⟩
  · omega
set_option maxRecDepth 100000 in
theorem lost_go (w : World) : Calls Tryd.prog 33 #[] w fun e w' => e = .returned (.slice (some ⟨w.heap.size, 0, none⟩) 4 4) ∧ HasAc (az lostS) (some ⟨w.heap.size, 0, none⟩) w' ∧ Below w.heap.size w w' := by
  have h1 := lost_has w
  have h2 : Below w.heap.size w (w.alloc (.cells lostC 45)) := bel_al (Below.refl _ _) _
  go_enter Tryd.func33, Tryd.ntmps33
  go_wp2_with fail
  go_ret
  exact ⟨rfl, h1, h2⟩
theorem has5 (w : World) (a b c d e : Nat) : HasI (ints [a, b, c, d, e]) (some ⟨w.heap.size, 0, none⟩) (w.alloc (.cells #[.int .i64 (a : Nat), .int .i64 (b : Nat), .int .i64 (c : Nat), .int .i64 (d : Nat), .int .i64 (e : Nat)] 3)) := fun j hj => by
  refine ⟨w.heap.size, 0, rfl, by simp, ?_⟩
  rw [ints_get]
  have hj' : j < 5 := by simpa [ints] using hj
  rcases j with _ | _ | _ | _ | _ | j
  · simp [M.row]
  · simp [M.row]
  · simp [M.row]
  · simp [M.row]
  · simp [M.row]
  · omega
set_option maxRecDepth 100000 in
set_option maxHeartbeats 1000000 in
theorem schedFact_ok (w : World) (he : Env w) : Calls Tryd.prog 19 #[] w fun e w' => e = .returned (.bool true) ∧ Below w.heap.size w w' := by
  go_enter Tryd.func19, Tryd.ntmps19
  go_wp2_with fail
  refine (lost_go w).mono ?_
  rintro e w1 ⟨rfl, h1, hB1⟩
  go_wp2_with fail
  refine (serial_ring lostS _ 4 4 w1 (he.later hB1) rfl lost_aok (Nat.le_refl _) h1 lost_ring).mono ?_
  rintro e w2 ⟨rfl, hB2⟩
  have hC2 := bel_on hB1 hB2
  clear h1 hB1 hB2
  go_wp2_with fail
  refine (lost_go w2).mono ?_
  rintro e w3 ⟨rfl, h3, hB3⟩
  have hC3 := bel_on hC2 hB3
  go_wp2_with fail
  refine (serial_ok (lostS.take 2) _ 2 4 w3 (he.later hC3) rfl lost2_aok (by omega) (h3.take 2) lost2_ring).mono ?_
  rw [lost2_row]
  rintro e w4 ⟨A, rfl, hrow, hA, hB4⟩
  have hC4 := bel_on hC3 hB4
  have hB5 : Below w4.heap.size w4 (w4.alloc (.cells #[.int .i64 0, .int .i64 1, .int .i64 2, .int .i64 3, .int .i64 4] 3)) := bel_al (Below.refl _ _) _
  have h5 := has5 w4 0 1 2 3 4
  have hI5 := (RowAt.hasI hrow).later hB5
  have hC5 := bel_on hC4 hB5
  clear h3 hB3 hB4 hrow
  go_wp2_with fail
  refine (same_intsI (ints [0, 1, 2, 3, 4]) _ _ 5 5 5 _ rfl (by unfold maxLen; omega) hI5 h5).mono ?_
  rintro e w7 ⟨rfl, hB7⟩
  have HB : Hid (Below w.heap.size w w7) := bel_on hC5 hB7
  clear hI5 h5 hC5 hB7 hC4 hB5 hC2
  go_wp2_with fail
  go_ret
  exact ⟨rfl, HB.out⟩
end Go.Proofs.YtkkccafobfdjbaaDoor
