/- Package table: one tells another one all that it knows (Tell), whatever the numbers. -/
import Derived.Test.YtelonimdpeenaaaDoorTb4
import Derived.Test.YtelonimdpeenaaaDoorTb3
namespace Go.Proofs.YtelonimdpeenaaaDoor
open Go.RowKit
set_option maxRecDepth 100000 in
set_option maxHeartbeats 2000000 in
theorem ttell_ok {S n : Nat} {k : M.Kt} (f t : Int) (w : World) (h : TV S n k w) (h5 : n ≤ 5) :
    Calls Tryd.prog 10 #[.pointer (some ⟨S, 0, none⟩), .int .i64 f, .int .i64 t] w fun e w' => e = .returned (terr (M.teT n k f t).2) ∧ TV S n (M.teT n k f t).1 w' ∧ Frm (fun j => j = S) w w' := by
  by_cases hf : 0 ≤ f ∧ f < n
  · by_cases ht : 0 ≤ t ∧ t < n
    · by_cases hne : f = t
      · have e : M.teT n k f t = (k, 6) := by unfold M.teT; rw [if_neg (fun x => x.elim (fun y => y hf) (fun y => y ht)), if_pos hne]
        rw [e]
        subst hne
        have HV : Hid (TV S n k w) := h
        have t1 : thingZ f n = true := thingZ_true hf.1 hf.2
        clear h e hf ht
        go_enter Tryd.func10, Tryd.ntmps10
        go_wp2_with fail
        refine (thas_ok f w HV.out).mono ?_
        rintro e w' ⟨rfl, rfl⟩
        rw [t1]
        go_wp2_with fail
        refine (thas_ok f w HV.out).mono ?_
        rintro e w' ⟨rfl, rfl⟩
        rw [t1]
        go_wp2_with fail
        go_ret
        exact ⟨rfl, HV.out, Frm.refl _ _⟩
      · have e : M.teT n k f t = (M.tlJ k f.toNat t.toNat n, 0) := by unfold M.teT; rw [if_neg (fun x => x.elim (fun y => y hf) (fun y => y ht)), if_neg hne]
        rw [e]
        obtain ⟨f, rfl⟩ : ∃ p : Nat, f = p := ⟨f.toNat, by omega⟩
        obtain ⟨t, rfl⟩ : ∃ p : Nat, t = p := ⟨t.toNat, by omega⟩
        simp only [Int.toNat_natCast]
        exact ttell_do f t w h h5 (by omega) (by omega) (by omega)
    · have e : M.teT n k f t = (k, 1) := by unfold M.teT; rw [if_pos (Or.inr ht)]
      rw [e]
      have HV : Hid (TV S n k w) := h
      have t1 : thingZ f n = true := thingZ_true hf.1 hf.2
      have t2 : thingZ t n = false := thingZ_false ht
      clear h e hf ht
      go_enter Tryd.func10, Tryd.ntmps10
      go_wp2_with fail
      refine (thas_ok f w HV.out).mono ?_
      rintro e w' ⟨rfl, rfl⟩
      rw [t1]
      go_wp2_with fail
      refine (thas_ok t w HV.out).mono ?_
      rintro e w' ⟨rfl, rfl⟩
      rw [t2]
      go_wp2_with fail
      go_ret
      exact ⟨rfl, HV.out, Frm.refl _ _⟩
  · have e : M.teT n k f t = (k, 1) := by unfold M.teT; rw [if_pos (Or.inl hf)]
    rw [e]
    have HV : Hid (TV S n k w) := h
    have t1 : thingZ f n = false := thingZ_false hf
    clear h e hf
    go_enter Tryd.func10, Tryd.ntmps10
    go_wp2_with fail
    refine (thas_ok f w HV.out).mono ?_
    rintro e w' ⟨rfl, rfl⟩
    rw [t1]
    go_wp2_with fail
    go_ret
    exact ⟨rfl, HV.out, Frm.refl _ _⟩
end Go.Proofs.YtelonimdpeenaaaDoor
