/- The document's list of where one was stuck (whensteadref3, stuck): in memory; whether it has something (has). -/
import Derived.Test.YtcmlkioaclkgnaaDoorHi4
import Derived.Test.YtcmlkioaclkgnaaDoorOwnA
import Derived.Deep.OwnRows
import Derived.Laws.StructEq
namespace Go.Proofs.YtcmlkioaclkgnaaDoor
open Go.RowKit

abbrev tvC (x y z : Nat) : Array Value := #[.int .i64 ((x : Nat) : Int), .int .i64 ((y : Nat) : Int), .int .i64 ((z : Nat) : Int)]
theorem tr_under : Tryd.prog.underlying 46 = some (.array 3 3) := by kernel_rfl
theorem eq_tri_d (d : Nat) (x1 y1 z1 x2 y2 z2 : Int) (w : World) : (Op.equalIn (d + 1 + 1) 46 (.agg #[.int .i64 x1, .int .i64 y1, .int .i64 z1]) (.agg #[.int .i64 x2, .int .i64 y2, .int .i64 z2])).run Tryd.prog w = .ok (x1 == x2 && y1 == y2 && z1 == z2) w := by
  have h1 : ∀ (a b : Int) (w : World), (Op.equalIn (d + 1) 3 (.int .i64 a) (.int .i64 b)).run Tryd.prog w = .ok (a == b) w := fun a b w => run_equalIn_int w d 3 .i64 .i64 a b Tryd.underlying3
  have hs : ∀ w : World, (sizeOf 3).run Tryd.prog w = .ok 1 w := fun w => by kernel_rfl
  have p0 : ∀ (a b c : Int) (w : World), (part 3 #[.int .i64 a, .int .i64 b, .int .i64 c] 0).run Tryd.prog w = .ok (.int .i64 a) w := fun a b c w => by kernel_rfl
  have p1 : ∀ (a b c : Int) (w : World), (part 3 #[.int .i64 a, .int .i64 b, .int .i64 c] 1).run Tryd.prog w = .ok (.int .i64 b) w := fun a b c w => by kernel_rfl
  have p2 : ∀ (a b c : Int) (w : World), (part 3 #[.int .i64 a, .int .i64 b, .int .i64 c] 2).run Tryd.prog w = .ok (.int .i64 c) w := fun a b c w => by kernel_rfl
  rw [Op.equalIn]
  simp only [Sem.run_bind, run_underlying tr_under, Result.andThen_ok, hs]
  cases hx : x1 == x2 <;> cases hy : y1 == y2 <;> cases hz : z1 == z2 <;> simp [Std.Legacy.Range.forIn_eq_forIn_range', List.range', p0, p1, p2, h1, hx, hy, hz]
theorem eql_tri (x1 y1 z1 x2 y2 z2 : Nat) (w : World) : (binOp .eql 46 (.agg (tvC x1 y1 z1)) (.agg (tvC x2 y2 z2))).run Tryd.prog w = .ok (.bool (decide ([x1, y1, z1] = [x2, y2, z2]))) w := by
  rw [run_eql_struct, show (10000 : Nat) = 9998 + 1 + 1 from rfl, eq_tri_d]
  have : (((x1 : Int) == (x2 : Int)) && ((y1 : Int) == (y2 : Int)) && ((z1 : Int) == (z2 : Int))) = decide ([x1, y1, z1] = [x2, y2, z2]) := by
    rw [Bool.eq_iff_iff]
    simp
    omega
  rw [this]
  rfl
/-- triples as cells -/
def tcells : List (List Nat) → List Value
  | [] => []
  | t :: r => [.int .i64 ((M.row t 0 : Nat) : Int), .int .i64 ((M.row t 1 : Nat) : Int), .int .i64 ((M.row t 2 : Nat) : Int)] ++ tcells r
theorem tcells_len : ∀ L : List (List Nat), (tcells L).length = L.length * 3
  | [] => rfl
  | t :: r => by
    simp only [tcells, List.length_append, List.length_cons, List.length_nil, tcells_len r]
    omega
theorem tcells_app : ∀ (L K : List (List Nat)), tcells (L ++ K) = tcells L ++ tcells K
  | [], _ => rfl
  | t :: r, K => by
    show _ ++ tcells (r ++ K) = _
    rw [tcells_app r K]
    simp [tcells]
theorem tcells_snoc (L : List (List Nat)) (x y z : Nat) : tcells (L ++ [[x, y, z]]) = tcells L ++ [.int .i64 ((x : Nat) : Int), .int .i64 ((y : Nat) : Int), .int .i64 ((z : Nat) : Int)] := by rw [tcells_app]; rfl
theorem tcells_at : ∀ (L : List (List Nat)) (j : Nat), j < L.length → (tcells L)[j * 3]? = some (.int .i64 ((M.row (L[j]?.getD []) 0 : Nat) : Int)) ∧ (tcells L)[j * 3 + 1]? = some (.int .i64 ((M.row (L[j]?.getD []) 1 : Nat) : Int)) ∧ (tcells L)[j * 3 + 2]? = some (.int .i64 ((M.row (L[j]?.getD []) 2 : Nat) : Int))
  | [], j, hj => by simp at hj
  | a :: r, 0, _ => ⟨rfl, rfl, rfl⟩
  | a :: r, j + 1, hj => by
    have ih := tcells_at r j (by simpa using hj)
    have e : ∀ i, (tcells (a :: r))[(j + 1) * 3 + i]? = (tcells r)[j * 3 + i]? := fun i => by
      simp only [tcells]
      rw [List.getElem?_append_right (by simp; omega)]
      congr 1
      simp
      omega
    exact ⟨(e 0).trans ih.1, (e 1).trans ih.2.1, (e 2).trans ih.2.2⟩
/-- Where one was stuck, in memory: for each set of ops a list of values. -/
structure Sx (O : Nat → Prop) (X G N : Nat) (f : Nat → Value) (L : Nat → List (List Nat)) (c : Nat) (w : World) : Prop where
  blk : Blk w X #[.slice (some ⟨G, 0, none⟩) N N] 45
  row : w.rowIs G 55 N f
  own : ∀ d, d < N → w.ownsRow 0 46 3 (f d) (L d).length (tcells (L d))
  inj : ∀ d e g, d < N → e < N → (f d).ownBlock = some g → (f e).ownBlock = some g → d = e
  len : ∀ d, d < N → (L d).length ≤ c
  tri : ∀ d, d < N → ∀ t, t ∈ L d → t.length = 3
  oX : O X
  oG : O G
  oF : ∀ d g, d < N → (f d).ownBlock = some g → O g
def SX (O : Nat → Prop) (X N : Nat) (L : Nat → List (List Nat)) (c : Nat) (w : World) : Prop := ∃ G f, Sx O X G N f L c w
section
variable {O : Nat → Prop} {X G N c : Nat} {f : Nat → Value} {L : Nat → List (List Nat)} {w w' : World}
theorem Sx.ltF (h : Sx O X G N f L c w) {d g : Nat} (hd : d < N) (hg : (f d).ownBlock = some g) : g < w.heap.size := ((h.own d hd).lt g hg).2
theorem Sx.neXG (h : Sx O X G N f L c w) : X ≠ G := by
  rintro rfl
  obtain ⟨cc, hc, _⟩ := h.row
  have := h.blk
  unfold Blk at this
  rw [hc] at this
  cases this
theorem Sx.neFX (h : Sx O X G N f L c w) {d : Nat} (hd : d < N) : (f d).ownBlock ≠ some X := fun e => by
  obtain ⟨cs, hc⟩ := owns_cells (h.own d hd) e
  have := h.blk
  unfold Blk at this
  rw [hc] at this
  cases this
theorem Sx.neFG (h : Sx O X G N f L c w) {d : Nat} (hd : d < N) : (f d).ownBlock ≠ some G := rowIs_owns h.row (h.own d hd) (by decide)
theorem Sx.at_ (h : Sx O X G N f L c w) (hb : ∀ k, k < w.heap.size → (k = X ∨ k = G ∨ ∃ d, d < N ∧ (f d).ownBlock = some k) → w'.heap[k]? = w.heap[k]?) : Sx O X G N f L c w' :=
  ⟨(hb X h.blk.lt (.inl rfl)).trans h.blk, h.row.of_block (hb G h.row.lt (.inr (.inl rfl))), fun d hd => owns_blk (h.own d hd) (fun g hg => hb g (h.ltF hd hg) (.inr (.inr ⟨d, hd, hg⟩))), h.inj, h.len, h.tri, h.oX, h.oG, h.oF⟩
theorem Sx.later (h : Sx O X G N f L c w) (hb : Below w.heap.size w w') : Sx O X G N f L c w' := h.at_ (fun k hk _ => hb.block k hk)
theorem Sx.mono (h : Sx O X G N f L c w) {c' : Nat} (hc : c ≤ c') : Sx O X G N f L c' w := ⟨h.blk, h.row, h.own, h.inj, fun d hd => Nat.le_trans (h.len d hd) hc, h.tri, h.oX, h.oG, h.oF⟩
theorem Sx.own_ (h : Sx O X G N f L c w) {O' : Nat → Prop} (ho : ∀ k, k < w.heap.size → O k → O' k) : Sx O' X G N f L c w :=
  ⟨h.blk, h.row, h.own, h.inj, h.len, h.tri, ho _ h.blk.lt h.oX, ho _ h.row.lt h.oG, fun d g hd hg => ho g (h.ltF hd hg) (h.oF d g hd hg)⟩
theorem SX.later (h : SX O X N L c w) (hb : Below w.heap.size w w') : SX O X N L c w' := by
  obtain ⟨G, f, h⟩ := h
  exact ⟨G, f, h.later hb⟩
theorem SX.mono (h : SX O X N L c w) {c' : Nat} (hc : c ≤ c') : SX O X N L c' w := by
  obtain ⟨G, f, h⟩ := h
  exact ⟨G, f, h.mono hc⟩
theorem SX.own (h : SX O X N L c w) {O' : Nat → Prop} (ho : ∀ k, k < w.heap.size → O k → O' k) : SX O' X N L c w := by
  obtain ⟨G, f, h⟩ := h
  exact ⟨G, f, h.own_ ho⟩
/-- one more is stuck -/
theorem Sx.push {w5 : World} (h : Sx O X G N f L c w) {d g cap x y z : Nat} (hd : d < N) (ho : w5.ownsRow 0 46 3 (.slice (some ⟨g, 0, none⟩) ((L d).length + 1) cap) ((L d).length + 1) (tcells (L d) ++ [.int .i64 ((x : Nat) : Int), .int .i64 ((y : Nat) : Int), .int .i64 ((z : Nat) : Int)]))
    (hb : ∀ k, k < w.heap.size → (f d).ownBlock ≠ some k → w5.heap[k]? = w.heap[k]?) (hat : (f d).ownBlock = some g ∨ w.heap.size ≤ g) (hO : O g) :
    SX O X N (moreL L d [x, y, z]) (c + 1) (w5.setCell ⟨G, d, none⟩ (.slice (some ⟨g, 0, none⟩) ((L d).length + 1) cap)) := by
  have hgG : g ≠ G := fun e => by
    rcases hat with a | a
    · exact h.neFG hd (e ▸ a)
    · have := h.row.lt; omega
  have hgf : ∀ e, e < N → e ≠ d → (f e).ownBlock ≠ some g := fun e he hne a => by
    rcases hat with b | b
    · exact hne (h.inj e d g he hd a b)
    · have := h.ltF he a; omega
  refine ⟨G, fun e => if e = d then .slice (some ⟨g, 0, none⟩) ((L d).length + 1) cap else f e, ?_, ?_, fun e he => ?_, fun e e' g' he he' a b => ?_, fun e he => ?_, fun e he t ht => ?_, h.oX, h.oG, fun e g' he a => ?_⟩
  · exact Blk.other ((hb X h.blk.lt (h.neFX hd)).trans h.blk) h.neXG _
  · exact ((h.row.of_block (hb G h.row.lt (h.neFG hd))).set d _)
  · unfold moreL
    show World.ownsRow _ 0 _ 3 (if e = d then Value.slice (some ⟨g, 0, none⟩) ((L d).length + 1) cap else f e) (if e = d then L e ++ [[x, y, z]] else L e).length (tcells (if e = d then L e ++ [[x, y, z]] else L e))
    by_cases c0 : e = d
    · subst c0
      simp only [if_true]
      rw [tcells_snoc, List.length_append]
      exact owns_blk ho (fun g' a => Below.heap_setCell _ _ _ _ (by obtain rfl : g = g' := by simpa [Value.ownBlock] using a
                                                                    exact hgG))
    · simp only [if_neg c0]
      exact owns_blk (owns_blk (h.own e he) (fun g' a => hb g' (h.ltF he a) (fun b => c0 (h.inj e d g' he hd a b)))) (fun g' a => Below.heap_setCell _ _ _ _ (fun z => h.neFG he (a.trans (congrArg some z))))
  · by_cases c0 : e = d
    · by_cases c1 : e' = d
      · rw [c0, c1]
      · simp only [if_pos c0] at a
        simp only [if_neg c1] at b
        obtain rfl : g = g' := by simpa [Value.ownBlock] using a
        exact absurd b (hgf e' he' c1)
    · simp only [if_neg c0] at a
      by_cases c1 : e' = d
      · simp only [if_pos c1] at b
        obtain rfl : g = g' := by simpa [Value.ownBlock] using b
        exact absurd a (hgf e he c0)
      · simp only [if_neg c1] at b
        exact h.inj e e' g' he he' a b
  · unfold moreL
    show (if e = d then L e ++ [[x, y, z]] else L e).length ≤ c + 1
    have := h.len e he
    by_cases c0 : e = d
    · rw [if_pos c0, List.length_append]; simp; omega
    · rw [if_neg c0]; omega
  · unfold moreL at ht
    by_cases c0 : e = d
    · simp only [if_pos c0, List.mem_append, List.mem_singleton] at ht
      rcases ht with ht | ht
      · exact h.tri e he t ht
      · subst ht; rfl
    · simp only [if_neg c0] at ht
      exact h.tri e he t ht
  · by_cases c0 : e = d
    · simp only [if_pos c0] at a
      obtain rfl : g = g' := by simpa [Value.ownBlock] using a
      exact hO
    · simp only [if_neg c0] at a
      exact h.oF e g' he a
end
theorem tri_eq {t : List Nat} (h : t.length = 3) : t = [M.row t 0, M.row t 1, M.row t 2] := by
  match t, h with
  | [a, b, c], _ => rfl
end Go.Proofs.YtcmlkioaclkgnaaDoor
