/- The function that a queue's All hands out goes over all that are found, also while it goes; it ends when none is left. -/
import Derived.Test.YtlhpkpjcfjdgaaaDoorQue2
import Derived.Test.YtlhpkpjcfjdgaaaDoorCt4
namespace Go.Proofs.YtlhpkpjcfjdgaaaDoor
open Go.RowKit Go.Shelf
attribute [local go_sem] Oper.semAt_some
set_option maxRecDepth 100000 in
set_option maxHeartbeats 2000000 in
theorem qit_ok (n l Q B base Bx : Nat) (It : List (List Nat) → List (List Nat) → World → Prop)
    (hIt : ∀ pre L W, It pre L W → (∃ v, QV W Q B base v L) ∧ pre <+: L ∧ L.length ≤ 16777216 ∧ (∀ c, c ∈ L → c.length = 5) ∧ W.cell? ⟨Bx, 0, none⟩ = some (.pointer (some ⟨Q, 0, none⟩)))
    (J : List (List Nat) → World → Prop) (hJ : ∀ pre W, J pre W → ∃ L, It pre L W)
    (hY : ∀ pre x W, J pre W → (∃ L, It pre L W ∧ L[pre.length]? = some x) → YieldAt Fence.wide (n - 1) Tryd.prog l #[cuV x] W fun e W' => e = .returned (.bool true) ∧ J (pre ++ [x]) W')
    (W : World) (h0 : J [] W) :
    CallsIn Fence.wide n Tryd.prog 69 #[.func (.yield l) #[] #[], .pointer (some ⟨Bx, 0, none⟩)] W fun e W' => (∃ v, e = .returned v) ∧ ∃ xs, J xs W' ∧ It xs xs W' := by
  refine callsIn_of_wp Tryd.func69 rfl trivial ?_ rfl
  simp only [Tryd.ntmps69, List.size_toArray, List.length_cons, List.length_nil, Nat.reduceAdd, Nat.reduceSub, Array.replicate_succ, Array.replicate_zero, List.push_toArray, List.append_toArray, List.nil_append, List.cons_append]
  gi_wp2
  gi_loopw [3] (fun r wr => ∃ pre : List (List Nat), r = .int .i64 (pre.length : Nat) ∧ J pre wr) (fun r _ => 16777217 - (intOf r).toNat)
  case atStart => exact ⟨[], rfl, h0⟩
  case round =>
    obtain ⟨pre, rfl, hj⟩ := hrel
    obtain ⟨L, hi⟩ := hJ pre wr hj
    obtain ⟨⟨v, hq⟩, hpre, hlen, h5, hbx⟩ := hIt pre L wr hi
    have hpl := hpre.length_le
    obtain ⟨q0, cq, rfl⟩ := owns_slice hq.row
    have hk0 := hq.blk.cell 0
    by_cases hlt : pre.length < L.length
    · obtain ⟨x, hx⟩ : ∃ x, L[pre.length]? = some x := ⟨_, List.getElem?_eq_getElem hlt⟩
      obtain ⟨fn, tmps, assign, body, hy, hR⟩ := hY pre x wr hj ⟨L, hi, hx⟩
      rcases hq.row.2 with ⟨_, hz⟩ | ⟨g, cap, cur, hv, _⟩
      · omega
      · cases hv
        have hc : ∀ k, k < 5 → wr.cell? ⟨g, pre.length * 5 + k, none⟩ = some (.int .i64 (M.row x k : Nat)) := fun k hk => by
          rw [hq.row.cellAt (pre.length * 5 + k) (by omega)]
          exact qcells_get h5 hx hk
        have c0 := hc 0 (by omega)
        have c1 := hc 1 (by omega)
        have c2 := hc 2 (by omega)
        have c3 := hc 3 (by omega)
        have c4 := hc 4 (by omega)
        clear hc hi hpre hj
        obtain ⟨m, hm⟩ : ∃ m, pre.length = m := ⟨_, rfl⟩
        have HM : Hid (pre.length = m) := hm
        rw [hm] at c0 c1 c2 c3 c4 hlt hpl ⊢
        clear hx hm
        have hlt' : (m : Int) < (L.length : Int) := by omega
        rw [Nat.add_zero] at c0
        gi_wp2_with fail
        refine ⟨(fun h => by cases h), hR.mono ?_⟩
        rintro e W3 ⟨rfl, hJ3⟩
        gi_wp2
        go_roundw
        case rel => exact ⟨pre ++ [x], by rw [List.length_append, HM.out]; rfl, hJ3⟩
        case measure => simp [intOf]; omega
    · have hle : L.length ≤ pre.length := by omega
      have e : pre = L := hpre.eq_of_length_le hle
      have HI : Hid (It pre pre wr) := by show It pre pre wr; rw [← e] at hi; exact hi
      clear hi hpre hJ hIt hY
      obtain ⟨m, hm⟩ : ∃ m, pre.length = m := ⟨_, rfl⟩
      rw [hm] at hle hlt hpl ⊢
      clear hm
      gi_wp2
      go_end0
      exact ⟨⟨_, rfl⟩, pre, hj, HI.out⟩
end Go.Proofs.YtlhpkpjcfjdgaaaDoor
