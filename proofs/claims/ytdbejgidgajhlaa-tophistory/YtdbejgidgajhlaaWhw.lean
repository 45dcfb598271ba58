/- Plain mathematics: a schedule as a history, each act an op at its own time that reads what was written last; just the row in which it stands is good. No program text is named. -/
import Derived.Test.YtdbejgidgajhlaaWse
import Derived.Test.YtdbejgidgajhlaaWhs
namespace Go.Proofs.Ytdbejgidgajhlaa.M

/-- what was told: nothing, or the place of a write and one -/
def vOf : Option Nat → Nat
  | none => 0
  | some k => k + 1
/-- the value of an act -/
def shV (s : List SAct) (i : Nat) : Nat := if (sat s i).wr = 1 then i + 1 else vOf (rdO s i)
def shO (s : List SAct) (i : Nat) : HOp := ⟨(sat s i).tx, (sat s i).it, (sat s i).wr, shV s i, 2 * i, 2 * i + 1⟩
def shH (s : List SAct) : List HOp := (List.range s.length).map (shO s)
theorem shH_len (s : List SAct) : (shH s).length = s.length := by simp [shH]
theorem shH_hop {s : List SAct} {i : Nat} (hi : i < s.length) : hop (shH s) i = shO s i := by simp [hop, shH, hi]
theorem shH_take {s : List SAct} {i : Nat} (hi : i < s.length) : (shH s).take (i + 1) = (shH s).take i ++ [shO s i] := by
  rw [List.take_add_one]
  congr 1
  simp [shH, hi]
theorem shO_ahead {s : List SAct} {i j : Nat} : aheadB true (shO s j) (shO s i) = decide (j < i) := by
  unfold aheadB shO
  simp only [Bool.true_or, Bool.and_true]
  rw [Bool.eq_iff_iff, decide_eq_true_eq, decide_eq_true_eq]
  omega
theorem sh_good {s : List SAct} (hw : ∀ i, (sat s i).wr < 2) : ∀ (k i done : Nat) (v : Nat → Nat), i + k = s.length → (∀ x, done.testBit x = decide (x < i)) → (∀ o, v o = vOf (gst (wrB s o) i)) → GoodL true (shH s) done v (List.range' i k)
  | 0, _, _, _, _, _, _ => trivial
  | k + 1, i, done, v, hik, hd, hv => by
    have hi : i < s.length := by omega
    show i < (shH s).length ∧ Can true (shH s) done v i ∧ GoodL true (shH s) (done ||| 2 ^ i) (setv v (hop (shH s) i).ob (hop (shH s) i).va) (List.range' (i + 1) k)
    rw [shH_hop hi]
    refine ⟨by rw [shH_len]; exact hi, ⟨?_, fun j hj e => ?_, fun e => ?_⟩, sh_good hw k (i + 1) _ _ (by omega) (fun x => ?_) (fun o => ?_)⟩
    · rw [hd]; simp
    · rw [shH_len] at hj
      rw [shH_hop hj, shH_hop hi, shO_ahead] at e
      rw [hd]; exact e
    · rw [shH_hop hi] at e ⊢
      simp only [shO] at e ⊢
      rw [hv]
      unfold shV rdO
      rw [if_neg (by omega), if_neg (by omega)]
    · rw [bit_more, hd, Bool.eq_iff_iff, Bool.or_eq_true, decide_eq_true_eq, decide_eq_true_eq, decide_eq_true_eq]
      omega
    · show (if o = (sat s i).it then shV s i else v o) = vOf (if wrB s o i then some i else gst (wrB s o) i)
      by_cases ho : o = (sat s i).it
      · rw [if_pos ho]
        subst ho
        unfold shV rdO
        by_cases h1 : (sat s i).wr = 1
        · rw [if_pos h1, if_pos (wrB_iff.2 ⟨rfl, h1⟩)]; rfl
        · rw [if_neg h1, if_neg h1, if_neg (fun h => h1 (wrB_iff.1 h).2)]
      · rw [if_neg ho, hv, if_neg (fun h => ho (wrB_iff.1 h).1.symm)]
/-- trying finds just that row -/
theorem sh_best {s : List SAct} (hw : ∀ i, (sat s i).wr < 2) : best true (shH s) s.length 0 (fun _ => 0) = some (List.range s.length) := by
  have hg := sh_good hw s.length 0 0 (fun _ => 0) (by omega) (fun x => by rw [Nat.zero_testBit]; simp) (fun o => rfl)
  rw [← List.range_eq_range'] at hg
  obtain ⟨l, e, _⟩ := best_all hg
  rw [List.length_range] at e
  rw [e]
  obtain ⟨h1, h2⟩ := best_sound e
  obtain ⟨a, b, c, _⟩ := goodL_parts h2
  have hb : ∀ i, i ∈ l → i < s.length := fun i hi => by have := (b i hi).1; rwa [shH_len] at this
  congr 1
  refine List.Perm.eq_of_pairwise (le := fun x y => x ≤ y) (fun x y _ _ h1 h2 => Nat.le_antisymm h1 h2) ?_ (List.pairwise_lt_range.imp (fun h => Nat.le_of_lt h)) (row_all a hb h1)
  unfold Ordd at c
  rw [List.pairwise_map] at c
  refine c.imp_of_mem (fun {x y} hx hy h => ?_)
  rw [shH_hop (hb x hx), shH_hop (hb y hy), shO_ahead, decide_eq_false_iff_not] at h
  omega
theorem sh_weak {s : List SAct} (hw : ∀ i, (sat s i).wr < 2) : (best false (shH s) s.length 0 (fun _ => 0)).isSome = true := by
  have hs : ∀ a, a ∈ shH s → a.fr < a.to := fun a ha => by
    obtain ⟨i, _, rfl⟩ := List.mem_map.1 ha
    simp only [shO]; omega
  have h1 : Atom true (shH s) := (atom_best hs).2 ⟨_, by rw [shH_len]; exact sh_best hw⟩
  have h2 := (atom_best hs).1 h1.weak
  rw [shH_len] at h2
  exact Option.isSome_iff_exists.2 h2
end Go.Proofs.Ytdbejgidgajhlaa.M
