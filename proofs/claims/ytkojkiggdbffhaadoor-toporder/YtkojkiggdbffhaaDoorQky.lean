/- Cuts that were found, in a set that a call makes (map[cut.numbers]struct{}). No walk. -/
import Derived.Test.YtkojkiggdbffhaaDoorBCa
import Derived.Maps.OwnSet
import Derived.DeepKeys4
namespace Go.Proofs.YtkojkiggdbffhaaDoor
open Go.RowKit Go.Maps

theorem laidOutQ : laidOutB Tryd.prog = true := by kernel_rfl
theorem nu_under : Tryd.prog.underlying 59 = some (.array 5 3) := by kernel_rfl
theorem nu_cells : Tryd.prog.cellsOf 59 = 5 := by kernel_rfl
theorem nu_wide : (match Tryd.prog.underlying 59 with | some (.array _ _) | some (.struct _) => true | _ => false) = true := by rw [nu_under]
set_option maxRecDepth 100000 in
theorem nu_law : Keyed Tryd.prog 59 := Keyed.of_law (deep_law_laid laidOutQ (m := 5) (by omega) (of_decide_eq_true (by kernel_rfl)) (by kernel_rfl) nu_wide)
theorem nu_formed {c0 c1 c2 c3 c4 : Value} : (Value.agg #[c0, c1, c2, c3, c4]).formed Tryd.prog 59 = true := by simp [Value.formed, nu_cells]
theorem nu_keyT : Tryd.prog.keyType 59 = true := by kernel_rfl
theorem nat_wf {x : Nat} (h : x < 4611686018427387904) : (Lit.int .i64 ((x : Nat) : Int)).wf = true := WalkArith.wf_i64 (by omega)
theorem nu_key {a b c d e : Nat} (ha : a < 4611686018427387904) (hb : b < 4611686018427387904) (hc : c < 4611686018427387904) (hd : d < 4611686018427387904) (he : e < 4611686018427387904) : ∃ kl, keyOf Tryd.prog 59 (nuV a b c d e) = some kl := by
  unfold keyOf
  rw [nu_under, nu_keyT, nu_formed]
  simp only [Bool.and_self, if_true]
  have e0 : Tryd.prog.types.size + 1 = 125 + 1 := by kernel_rfl
  rw [e0]
  have h1 : ∀ z : Nat, z < 4611686018427387904 → Tryd.prog.keyLits 125 3 [.int .i64 ((z : Nat) : Int)] = some [.int .i64 ((z : Nat) : Int)] := fun z hz => by
    simp only [Program.keyLits, Tryd.underlying3]
    rw [if_pos ⟨trivial, nat_wf hz⟩]
  have c1 : Tryd.prog.cellsOf 3 = 1 := by kernel_rfl
  rw [show (nuV a b c d e).cells.toList = [Value.int .i64 ((a : Nat) : Int), Value.int .i64 ((b : Nat) : Int), Value.int .i64 ((c : Nat) : Int), Value.int .i64 ((d : Nat) : Int), Value.int .i64 ((e : Nat) : Int)] from rfl]
  unfold Program.keyLits
  rw [nu_under]
  simp only [nu_cells, c1]
  rw [if_pos (show [Value.int .i64 ((a : Nat) : Int), Value.int .i64 ((b : Nat) : Int), Value.int .i64 ((c : Nat) : Int), Value.int .i64 ((d : Nat) : Int), Value.int .i64 ((e : Nat) : Int)].length = 5 from rfl)]
  simp [List.range_succ, h1 a ha, h1 b hb, h1 c hc, h1 d hd, h1 e he]
theorem set_under : Tryd.prog.underlying 79 = some (.map 59 84) := by kernel_rfl
theorem unit_zero (w : World) : (zeroValue 84).run Tryd.prog w = .ok (.agg #[]) w := by kernel_rfl
theorem run_make_known (w : World) : (Instr.makeMap 79 none).run Tryd.prog w = .ok (.map (some w.heap.size)) (w.alloc (.map #[] 0)) := by
  simp [Instr.makeMap, Result.andThen, newObj]
  rfl
/-- Block B is a set of just the cuts L. -/
def Kn (L : List (List Nat)) (B : Nat) (w : World) : Prop := ∃ D : DataW Unit, w.ownsMap Tryd.prog 59 unitElem B L.length D ∧
  ∀ a b c d e kl, keyOf Tryd.prog 59 (nuV a b c d e) = some kl → (Maps.has D kl = true ↔ [a, b, c, d, e] ∈ L)
theorem Kn.lt {L : List (List Nat)} {B : Nat} {w : World} (h : Kn L B w) : B < w.heap.size := by
  obtain ⟨D, ho, _⟩ := h
  exact ho.lt
theorem Kn.at_ {L : List (List Nat)} {B : Nat} {w w' : World} (h : Kn L B w) (hb : w'.heap[B]? = w.heap[B]?) : Kn L B w' := by
  obtain ⟨D, ⟨es, clock, h1, h2⟩, r⟩ := h
  exact ⟨D, ⟨es, clock, hb.trans h1, h2⟩, r⟩
theorem Kn.map {L : List (List Nat)} {B : Nat} {w : World} (h : Kn L B w) : ∃ es clock, w.heap[B]? = some (.map es clock) := by
  obtain ⟨D, ⟨es, clock, h1, h2⟩, r⟩ := h
  exact ⟨es, clock, h1⟩
theorem kn_made (w : World) : Kn [] w.heap.size (w.alloc (.map #[] 0)) :=
  ⟨.map [], World.ownsMap_made w _ _ _, fun a b c d e kl _ => by simp [Maps.has]⟩
theorem kn_store {L : List (List Nat)} {B : Nat} {w : World} (h : Kn L B w) (hn : L.length < maxLen) {a b c d e : Nat} (ha : a < 4611686018427387904) (hb : b < 4611686018427387904) (hc : c < 4611686018427387904) (hd : d < 4611686018427387904) (he : e < 4611686018427387904) :
    ∃ w', (Instr.mapUpdate 79 (.map (some B)) (nuV a b c d e) (.agg #[])).run Tryd.prog w = .ok () w' ∧ Kn (L ++ [[a, b, c, d, e]]) B w' ∧ w.grownBy w' (some B) := by
  obtain ⟨D, ho, h1⟩ := h
  obtain ⟨kl, hkl⟩ := nu_key ha hb hc hd he
  obtain ⟨w', hrun, ho', ht⟩ := ho.store nu_law set_under hn hkl (unitElem_mk (H := Unit))
  have hkey := nu_law.key hkl
  refine ⟨w', hrun, ⟨_, by rw [List.length_append]; exact ho', ?_⟩, ht.grown⟩
  intro a' b' c' d' e' kl' hkl'
  by_cases e0 : kl' = kl
  · subst e0
    have e2 := nu_law.inj hkl' hkl
    have e3 : a' = a ∧ b' = b ∧ c' = c ∧ d' = d ∧ e' = e := by
      simp at e2
      omega
    obtain ⟨rfl, rfl, rfl, rfl, rfl⟩ := e3
    rw [has_put_same ho.isMap hkey _]
    simp
  · rw [has_put_other e0, h1 a' b' c' d' e' kl' hkl', List.mem_append, List.mem_singleton]
    constructor
    · exact .inl
    · rintro (h | h)
      · exact h
      · simp only [List.cons.injEq, and_true] at h
        obtain ⟨rfl, rfl, rfl, rfl, rfl⟩ := h
        rw [hkl] at hkl'
        exact absurd (Option.some.inj hkl').symm e0
theorem kn_look {L : List (List Nat)} {B : Nat} {w : World} (h : Kn L B w) {a b c d e : Nat} (ha : a < 4611686018427387904) (hb : b < 4611686018427387904) (hc : c < 4611686018427387904) (hd : d < 4611686018427387904) (he : e < 4611686018427387904) :
    (Instr.lookup 79 (.map (some B)) (nuV a b c d e) true).run Tryd.prog w = .ok (.tuple #[.agg #[], .bool (decide ([a, b, c, d, e] ∈ L))]) w := by
  obtain ⟨D, ho, h1⟩ := h
  obtain ⟨kl, hkl⟩ := nu_key ha hb hc hd he
  obtain ⟨v, ps, hrun, hv⟩ := ho.look_ok nu_law set_under (unit_zero w) (unitElem_mk (H := Unit)) hkl
  obtain ⟨rfl, _⟩ := unitElem_inv hv
  have e0 : Maps.has D kl = decide ([a, b, c, d, e] ∈ L) := by
    rw [Bool.eq_iff_iff, decide_eq_true_eq]
    exact h1 a b c d e kl hkl
  rw [hrun, e0]
end Go.Proofs.YtkojkiggdbffhaaDoor
