/- What is wrong with no part of a history is wrong with none of it; rows of ops that a call makes by appending. No walk. -/
import Derived.Test.YtdbejgidgajhlaaHifc
namespace Go.Proofs.Ytdbejgidgajhlaa
open Go.RowKit

theorem hcd_iff {zs : List Oz} : hcd zs = 0 ↔ zs.length ≤ 10 ∧ (∀ a, a ∈ zs → oIn a = true ∧ a.fr < a.to) ∧ zs.Pairwise fun a b => clB a b = false := by
  have eo : ∀ i (hi : i < zs.length), oAt zs i = zs[i] := fun i hi => by unfold oAt; rw [List.getElem?_eq_getElem hi]; rfl
  constructor
  · intro h0
    have hl : zs.length ≤ 10 := by
      unfold hcd at h0
      by_cases c : 10 < zs.length
      · rw [if_pos c] at h0; cases h0
      · omega
    have hT : hTo zs zs.length = 0 := by
      unfold hcd at h0
      rwa [if_neg (by omega)] at h0
    have each : ∀ i, i < zs.length → oIn (oAt zs i) = true ∧ (oAt zs i).fr < (oAt zs i).to ∧ ∀ j, j < i → clB (oAt zs j) (oAt zs i) = false := fun i hi => by
      have := hTo_each hT hi
      cases c : oIn (oAt zs i) with
      | false => rw [oC_range c] at this; cases this
      | true =>
        have h2 : ¬ (oAt zs i).to ≤ (oAt zs i).fr := fun c2 => by rw [oC_shape c c2] at this; cases this
        refine ⟨rfl, by omega, fun j hj => ?_⟩
        cases c3 : clB (oAt zs j) (oAt zs i) with
        | false => rfl
        | true => rw [oC_clash c h2 hj c3] at this; cases this
    refine ⟨hl, fun a ha => ?_, ?_⟩
    · obtain ⟨i, hi, rfl⟩ := List.getElem_of_mem ha
      have := each i hi
      rw [eo i hi] at this
      exact ⟨this.1, this.2.1⟩
    · rw [List.pairwise_iff_getElem]
      intro i j hi hj hij
      have := (each j hj).2.2 i hij
      rwa [eo i hi, eo j hj] at this
  · rintro ⟨h1, h2, h3⟩
    unfold hcd
    rw [if_neg (by omega)]
    have : ∀ n, n ≤ zs.length → hTo zs n = 0 := fun n => by
      induction n with
      | zero => intro _; rfl
      | succ n ih =>
        intro hn
        refine hTo_next (ih (by omega)) ?_
        have hm := h2 zs[n] (List.getElem_mem (by omega))
        refine oC_fine (by rw [eo n (by omega)]; exact hm.1) (by rw [eo n (by omega)]; omega) (fun j hj => ?_)
        rw [eo n (by omega), eo j (by omega)]
        exact List.pairwise_iff_getElem.1 h3 j n (by omega) (by omega) hj
    exact this _ (Nat.le_refl _)
theorem hz_filter (h : List M.HOp) (q : M.HOp → Bool) : ∀ k, (hz ((h.take k).filter q)).Sublist (hz h) := fun k => by
  unfold hz
  exact ((List.filter_sublist).trans (List.take_sublist _ _)).map _
theorem hcd_sub {zs ys : List Oz} (h : hcd zs = 0) (hs : ys.Sublist zs) : hcd ys = 0 := by
  obtain ⟨h1, h2, h3⟩ := hcd_iff.1 h
  exact hcd_iff.2 ⟨Nat.le_trans hs.length_le h1, fun a ha => h2 a (hs.subset ha), h3.sublist hs⟩
theorem hn_hz (h : List M.HOp) : hn (hz h) = h := by
  induction h with
  | nil => rfl
  | cons a r ih => exact congrArg (a :: ·) ih
theorem hok_of {h : List M.HOp} (h0 : hcd (hz h) = 0) : HOk h := by
  obtain ⟨h2, e, hk⟩ := hcd_get h0
  have e2 := congrArg hn e
  rw [hn_hz, hn_hz] at e2
  rwa [e2]
/-- Ops as cells. -/
def ocells : List M.HOp → List Value
  | [] => []
  | a :: r => [.int .i64 ((a.pr : Nat) : Int), .int .i64 ((a.ob : Nat) : Int), .int .i64 ((a.wr : Nat) : Int), .int .i64 ((a.va : Nat) : Int), .int .i64 ((a.fr : Nat) : Int), .int .i64 ((a.to : Nat) : Int)] ++ ocells r
theorem ocells_len : ∀ h : List M.HOp, (ocells h).length = h.length * 6
  | [] => rfl
  | a :: r => by
    simp only [ocells, List.length_append, List.length_cons, List.length_nil, ocells_len r]
    omega
theorem ocells_app : ∀ (h g : List M.HOp), ocells (h ++ g) = ocells h ++ ocells g
  | [], _ => rfl
  | a :: r, g => by
    show _ ++ ocells (r ++ g) = _
    rw [ocells_app r g]
    simp [ocells]
theorem ocells_snoc (h : List M.HOp) (a : M.HOp) : ocells (h ++ [a]) = ocells h ++ [.int .i64 ((a.pr : Nat) : Int), .int .i64 ((a.ob : Nat) : Int), .int .i64 ((a.wr : Nat) : Int), .int .i64 ((a.va : Nat) : Int), .int .i64 ((a.fr : Nat) : Int), .int .i64 ((a.to : Nat) : Int)] := by rw [ocells_app]; rfl
theorem ocells_at : ∀ (h : List M.HOp) (j : Nat), j < h.length → (ocells h)[j * 6]? = some (.int .i64 (((M.hop h j).pr : Nat) : Int)) ∧ (ocells h)[j * 6 + 1]? = some (.int .i64 (((M.hop h j).ob : Nat) : Int)) ∧ (ocells h)[j * 6 + 2]? = some (.int .i64 (((M.hop h j).wr : Nat) : Int)) ∧ (ocells h)[j * 6 + 3]? = some (.int .i64 (((M.hop h j).va : Nat) : Int)) ∧ (ocells h)[j * 6 + 4]? = some (.int .i64 (((M.hop h j).fr : Nat) : Int)) ∧ (ocells h)[j * 6 + 5]? = some (.int .i64 (((M.hop h j).to : Nat) : Int))
  | [], j, hj => by simp at hj
  | a :: r, 0, _ => ⟨rfl, rfl, rfl, rfl, rfl, rfl⟩
  | a :: r, j + 1, hj => by
    have ih := ocells_at r j (by simpa using hj)
    have e : ∀ i, (ocells (a :: r))[(j + 1) * 6 + i]? = (ocells r)[j * 6 + i]? := fun i => by
      simp only [ocells]
      rw [List.getElem?_append_right (by simp; omega)]
      congr 1
      simp
      omega
    have hop : M.hop (a :: r) (j + 1) = M.hop r j := rfl
    rw [hop]
    refine ⟨(e 0).trans ih.1, (e 1).trans ih.2.1, (e 2).trans ih.2.2.1, (e 3).trans ih.2.2.2.1, (e 4).trans ih.2.2.2.2.1, (e 5).trans ih.2.2.2.2.2⟩
theorem hasO_of_owns {w : World} {base n cap : Nat} {p : Option Addr} {h : List M.HOp} (hm : h.length = n) (ho : w.ownsRow base 33 6 (.slice p n cap) n (ocells h)) : HasO (hz h) p w := by
  rcases ho.2 with ⟨e, rfl⟩ | ⟨g, cap', cur, e, hb, hg, h1, h2, h3, h4⟩
  · exact fun j hj => by rw [hz_len] at hj; omega
  · cases e
    refine fun j hj => ⟨g, 0, rfl, ?_⟩
    rw [hz_len] at hj
    rw [oAt_hz]
    have cells : ∀ i, i < 6 → w.cell? ⟨g, 0 + j * 6 + i, none⟩ = (ocells h)[j * 6 + i]? := fun i hi => by
      have hc := ho.cellAt (j * 6 + i) (by omega)
      rw [Nat.zero_add, hc]
    obtain ⟨e0, e1, e2, e3, e4, e5⟩ := ocells_at h j hj
    exact ⟨(Array.getElem?_eq_some_iff.1 hg).1, (cells 0 (by omega)).trans e0, (cells 1 (by omega)).trans e1, (cells 2 (by omega)).trans e2, (cells 3 (by omega)).trans e3, (cells 4 (by omega)).trans e4, (cells 5 (by omega)).trans e5⟩
theorem owns_cap {w : World} {base n size : Nat} {e : TypeId} {v : Value} {xs : List Value} (h : w.ownsRow base e size v n xs) : ∃ p c, v = .slice p n c ∧ n ≤ c := by
  rcases h.2 with ⟨rfl, rfl⟩ | ⟨g, cap, _, rfl, _, _, hc, _⟩
  · exact ⟨none, 0, rfl, Nat.le_refl _⟩
  · exact ⟨_, cap, rfl, hc⟩
theorem take_hop {h : List M.HOp} {i : Nat} (hi : i < h.length) : h.take (i + 1) = h.take i ++ [M.hop h i] := by
  rw [List.take_add_one]
  unfold M.hop
  rw [List.getElem?_eq_getElem hi]
  rfl
theorem filt_hit {h : List M.HOp} {q : M.HOp → Bool} {i : Nat} (hi : i < h.length) (e : q (M.hop h i) = true) : (h.take (i + 1)).filter q = (h.take i).filter q ++ [M.hop h i] := by rw [take_hop hi, List.filter_append, List.filter_cons, if_pos e]; rfl
theorem filt_miss {h : List M.HOp} {q : M.HOp → Bool} {i : Nat} (hi : i < h.length) (e : q (M.hop h i) = false) : (h.take (i + 1)).filter q = (h.take i).filter q := by rw [take_hop hi, List.filter_append, List.filter_cons, if_neg (by rw [e]; simp)]; simp
theorem best_atom {all : Bool} {h : List M.HOp} {n : Nat} (hl : h.length = n) (hk : HOk h) : (M.best all h n 0 (fun _ => 0)).isSome = true ↔ M.Atom all h := by
  rw [M.atom_best hk.ops, hl]
  exact Option.isSome_iff_exists
theorem infoOp : (Try.prog.info? 33).map (fun i => (i.zero, i.size, i.bytes)) = some (some (.agg #[.int .i64 0, .int .i64 0, .int .i64 0, .int .i64 0, .int .i64 0, .int .i64 0]), 6, 48) := by kernel_rfl
end Go.Proofs.Ytdbejgidgajhlaa
