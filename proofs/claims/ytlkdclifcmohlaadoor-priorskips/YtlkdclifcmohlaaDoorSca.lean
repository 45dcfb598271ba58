/- Rows of acts that a call makes by appending: their cells, one more, one stored into; the closed fact of the laws of schedules (lost, schedFact). -/
import Derived.Test.YtlkdclifcmohlaaDoorSc3
namespace Go.Proofs.YtlkdclifcmohlaaDoor
open Go.RowKit

/-- Acts as cells. -/
def acells : List M.SAct → List Value
  | [] => []
  | a :: r => [.int .i64 ((a.tx : Nat) : Int), .int .i64 ((a.it : Nat) : Int), .int .i64 ((a.wr : Nat) : Int)] ++ acells r
theorem acells_len : ∀ h : List M.SAct, (acells h).length = h.length * 3
  | [] => rfl
  | a :: r => by
    simp only [acells, List.length_append, List.length_cons, List.length_nil, acells_len r]
    omega
theorem acells_app : ∀ (h g : List M.SAct), acells (h ++ g) = acells h ++ acells g
  | [], _ => rfl
  | a :: r, g => by
    show _ ++ acells (r ++ g) = _
    rw [acells_app r g]
    simp [acells]
theorem acells_snoc (h : List M.SAct) (a : M.SAct) : acells (h ++ [a]) = acells h ++ [.int .i64 ((a.tx : Nat) : Int), .int .i64 ((a.it : Nat) : Int), .int .i64 ((a.wr : Nat) : Int)] := by rw [acells_app]; rfl
theorem acells_at : ∀ (h : List M.SAct) (j : Nat), j < h.length → (acells h)[j * 3]? = some (.int .i64 (((M.sat h j).tx : Nat) : Int)) ∧ (acells h)[j * 3 + 1]? = some (.int .i64 (((M.sat h j).it : Nat) : Int)) ∧ (acells h)[j * 3 + 2]? = some (.int .i64 (((M.sat h j).wr : Nat) : Int))
  | [], j, hj => by simp at hj
  | a :: r, 0, _ => ⟨rfl, rfl, rfl⟩
  | a :: r, j + 1, hj => by
    have ih := acells_at r j (by simpa using hj)
    have e : ∀ i, (acells (a :: r))[(j + 1) * 3 + i]? = (acells r)[j * 3 + i]? := fun i => by
      simp only [acells]
      rw [List.getElem?_append_right (by simp; omega)]
      congr 1
      simp
      omega
    have hop : M.sat (a :: r) (j + 1) = M.sat r j := rfl
    rw [hop]
    exact ⟨(e 0).trans ih.1, (e 1).trans ih.2.1, (e 2).trans ih.2.2⟩
theorem acells_one (h : List M.SAct) : ∀ u ∈ acells h, u.oneCell' = true := by
  induction h with
  | nil => intro u hu; cases hu
  | cons a r ih =>
    intro u hu
    simp only [acells, List.mem_append, List.mem_cons, List.not_mem_nil, or_false] at hu
    rcases hu with (rfl | rfl | rfl) | hu
    · rfl
    · rfl
    · rfl
    · exact ih u hu
theorem hasAc_of_owns {w : World} {base n cap : Nat} {p : Option Addr} {h : List M.SAct} (hm : h.length = n) (ho : w.ownsRow base 31 3 (.slice p n cap) n (acells h)) : HasAc (az h) p w := by
  rcases ho.2 with ⟨e, rfl⟩ | ⟨g, cap', cur, e, hb, hg, h1, h2, h3, h4⟩
  · exact fun j hj => by rw [az_len] at hj; omega
  · cases e
    refine fun j hj => ⟨g, 0, rfl, ?_⟩
    rw [az_len] at hj
    rw [aAt_az]
    have cells : ∀ i, i < 3 → w.cell? ⟨g, 0 + j * 3 + i, none⟩ = (acells h)[j * 3 + i]? := fun i hi => by
      have hc := ho.cellAt (j * 3 + i) (by omega)
      rw [Nat.zero_add, hc]
    obtain ⟨e0, e1, e2⟩ := acells_at h j hj
    exact ⟨(Array.getElem?_eq_some_iff.1 hg).1, (cells 0 (by omega)).trans e0, (cells 1 (by omega)).trans e1, (cells 2 (by omega)).trans e2⟩
theorem hasAc_cells {s : List M.SAct} {b off : Nat} {w : World} (h : HasAc (az s) (some ⟨b, off, none⟩) w) : ∀ j u, (acells s)[j]? = some u → w.cell? ((⟨b, off, none⟩ : Addr).add j) = some u := by
  intro j u hu
  have hj : j < s.length * 3 := by
    have := (List.getElem?_eq_some_iff.1 hu).1
    rwa [acells_len] at this
  have hk : j / 3 < s.length := by omega
  obtain ⟨_, _, e, hop⟩ := h (j / 3) (by rw [az_len]; exact hk)
  cases e
  rw [aAt_az] at hop
  obtain ⟨e0, e1, e2⟩ := acells_at s (j / 3) hk
  rw [addr_add]
  have h3 : j % 3 = 0 ∨ j % 3 = 1 ∨ j % 3 = 2 := by omega
  rcases h3 with h3 | h3 | h3
  · have ej : j = j / 3 * 3 := by omega
    rw [← ej, hu] at e0
    have := hop.c0
    rw [← ej] at this
    rw [this]; exact e0.symm
  · have ej : j = j / 3 * 3 + 1 := by omega
    rw [← ej, hu] at e1
    have := hop.c1
    rw [Nat.add_assoc, ← ej] at this
    rw [this]; exact e1.symm
  · have ej : j = j / 3 * 3 + 2 := by omega
    rw [← ej, hu] at e2
    have := hop.c2
    rw [Nat.add_assoc, ← ej] at this
    rw [this]; exact e2.symm
theorem owns_capA {w : World} {base n size : Nat} {e : TypeId} {v : Value} {xs : List Value} (h : w.ownsRow base e size v n xs) : ∃ p c, v = .slice p n c ∧ n ≤ c := by
  rcases h.2 with ⟨rfl, rfl⟩ | ⟨g, cap, _, rfl, _, _, hc, _⟩
  · exact ⟨none, 0, rfl, Nat.le_refl _⟩
  · exact ⟨_, cap, rfl, hc⟩
theorem HasAc.take {s : List M.SAct} {p : Option Addr} {w : World} (h : HasAc (az s) p w) (k : Nat) : HasAc (az (s.take k)) p w := fun j hj => by
  rw [az_len, List.length_take] at hj
  obtain ⟨b, off, h1, h2⟩ := h j (by rw [az_len]; omega)
  refine ⟨b, off, h1, ?_⟩
  rw [aAt_az] at h2 ⊢
  have : M.sat (s.take k) j = M.sat s j := by
    unfold M.sat
    rw [List.getElem?_take, if_pos (by omega)]
  rw [this]; exact h2
theorem infoAct : (Tryd.prog.info? 31).map (fun i => (i.zero, i.size, i.bytes)) = some (some (.agg #[.int .i64 0, .int .i64 0, .int .i64 0]), 3, 24) := by kernel_rfl
theorem infoAct_parts {P : Program} {t : TypeId} {z : Value} {s b : Nat} (h : (P.info? t).map (fun i => (i.zero, i.size, i.bytes)) = some (some z, s, b)) : ∃ i, P.info? t = some i ∧ i.zero = some z ∧ i.size = s ∧ i.bytes = b := by
  obtain ⟨i, hi, e⟩ := Option.map_eq_some_iff.1 h
  simp only [Prod.mk.injEq] at e
  exact ⟨i, hi, e.1, e.2.1, e.2.2⟩
/-! ### the closed fact -/
def lostS : List M.SAct := [⟨0, 0, 0⟩, ⟨1, 0, 0⟩, ⟨0, 0, 1⟩, ⟨1, 0, 1⟩]
theorem lost_aok : M.AOk lostS := aok_of (by decide) (by decide)
theorem lost2_aok : M.AOk (lostS.take 2) := aok_of (by decide) (by decide)
theorem lost_ring : M.Ring (M.edR lostS) := ringB_iff.1 (by decide +kernel)
theorem lost2_ring : ¬ M.Ring (M.edR (lostS.take 2)) := fun h => by
  have := ringB_iff.2 h
  revert this
  decide +kernel
theorem lost2_row : M.firstR (M.turned (M.edR (lostS.take 2))) = [0, 1, 2, 3, 4] := by decide +kernel
abbrev lostC : Array Value := #[.int .i64 0, .int .i64 0, .int .i64 0, .int .i64 1, .int .i64 0, .int .i64 0, .int .i64 0, .int .i64 0, .int .i64 1, .int .i64 1, .int .i64 0, .int .i64 1]
theorem lost_has (w : World) : HasAc (az lostS) (some ⟨w.heap.size, 0, none⟩) (w.alloc (.cells lostC 31)) := fun j hj => by
  rw [az_len] at hj
  have hj4 : j < 4 := hj
  refine ⟨w.heap.size, 0, rfl, ?_⟩
  rcases j with _ | _ | _ | _ | j
  · exact ⟨by simp, by simp [lostS, aAt_az, azN, M.sat], by simp [lostS, aAt_az, azN, M.sat], by simp [lostS, aAt_az, azN, M.sat]⟩
  · exact ⟨by simp, by simp [lostS, aAt_az, azN, M.sat], by simp [lostS, aAt_az, azN, M.sat], by simp [lostS, aAt_az, azN, M.sat]⟩
  · exact ⟨by simp, by simp [lostS, aAt_az, azN, M.sat], by simp [lostS, aAt_az, azN, M.sat], by simp [lostS, aAt_az, azN, M.sat]⟩
  · exact ⟨by simp, by simp [lostS, aAt_az, azN, M.sat], by simp [lostS, aAt_az, azN, M.sat], by simp [lostS, aAt_az, azN, M.sat]⟩
  · omega
theorem has5 (w : World) (a b c d e : Nat) : HasI (ints [a, b, c, d, e]) (some ⟨w.heap.size, 0, none⟩) (w.alloc (.cells #[.int .i64 (a : Nat), .int .i64 (b : Nat), .int .i64 (c : Nat), .int .i64 (d : Nat), .int .i64 (e : Nat)] 3)) := fun j hj => by
  refine ⟨w.heap.size, 0, rfl, by simp, ?_⟩
  rw [ints_get]
  have hj' : j < 5 := by simpa [ints] using hj
  rcases j with _ | _ | _ | _ | _ | j
  · simp [M.row]
  · simp [M.row]
  · simp [M.row]
  · simp [M.row]
  · simp [M.row]
  · omega
end Go.Proofs.YtlkdclifcmohlaaDoor
