/- The document's own answer on which of its process an event is (package whensteadref2, nth); what lay in memory lies as it lay. -/
import Derived.Test.YtlhpkpjcfjdgaaaDoorBTr
namespace Go.Proofs.YtlhpkpjcfjdgaaaDoor
open Go.RowKit

set_option maxRecDepth 100000 in
set_option maxHeartbeats 4000000 in
theorem nth_ok (P : Int) (T : List (Int × Int)) (p : Option Addr) (n cap i : Nat) (w : World) (hl : T.length = n) (hc : HasE T p w) (hn : n ≤ 24) (hin : i < n) :
    Calls Tryd.prog 47 #[trV P p n cap, .int .i64 (i : Nat)] w fun e w' => e = .returned (.int .i64 (M.nth T i : Nat)) ∧ Below w.heap.size w w' := by
  have hB0 : Below w.heap.size w (w.alloc (.cells #[.int .i64 P, .slice p n cap] 24)) := (Below.refl _ _).alloc (Nat.le_refl _) _
  have hbox := tbox_new w P p n cap
  have hcb := hc.later hB0
  obtain ⟨w1, hw1⟩ : ∃ wb, w.alloc (.cells #[.int .i64 P, .slice p n cap] 24) = wb := ⟨_, rfl⟩
  rw [hw1] at hB0 hbox hcb
  obtain ⟨ai, hai⟩ : ∃ a, M.pr T i = a := ⟨_, rfl⟩
  have HN : Hid (M.nth T i = M.cb i fun k => M.pr T k == ai) := by show _ = _; unfold M.nth; rw [hai]
  go_enter Tryd.func47, Tryd.ntmps47
  go_wp2_with fail
  go_loopw [5, 6] (fun u v wr => ∃ (j c : Nat), u = .int .i64 c ∧ v = .int .i64 j ∧ j ≤ i ∧ Hid (c = M.cb j fun k => M.pr T k == ai) ∧ c ≤ j ∧ Below w1.heap.size w1 wr) (fun _ v _ => i - (intOf v).toNat)
  case atStart => exact ⟨0, 0, rfl, rfl, Nat.zero_le _, (show 0 = M.cb 0 fun k => M.pr T k == ai from rfl), Nat.le_refl _, Below.refl _ _⟩
  case round =>
    clear hw1
    obtain ⟨j, c, rfl, rfl, hj, hcc, hcj, hB⟩ := hrel
    by_cases hji : j < i
    · have hbr := hbox.later hB hbox.lt
      have hk2 := hbr.events
      obtain ⟨b, off, rfl, hb, hp1, _⟩ := (hcb.later hB) i (by omega)
      obtain ⟨_, _, e0, _, hq1, _⟩ := (hcb.later hB) j (by omega)
      cases e0
      rw [hai] at hp1
      have hjn : (j : Int) < (n : Int) := by omega
      have hinI : (i : Int) < (n : Int) := by omega
      have hjn' : j < n := by omega
      obtain ⟨aj, haj⟩ : ∃ a, M.pr T j = a := ⟨_, rfl⟩
      rw [haj] at hq1
      by_cases he : aj = ai
      · have hd : (aj == ai) = true := by rw [he]; exact beq_self_eq_true _
        have HC : Hid (c + 1 = M.cb (j + 1) fun k => M.pr T k == ai) := by
          show _ = _
          rw [M.cb_at (b := true) (by rw [haj]; exact hd), ← hcc.out]; rfl
        clear he haj
        go_wp2_with fail
        go_big_quiet (fail)
        go_wp2_with fail
        go_roundw
        case rel => exact ⟨j + 1, c + 1, by go_num, by go_num, by omega, HC, by omega, bel_drN hB _⟩
        case measure => simp [intOf]; omega
      · have hd : (aj == ai) = false := by simpa using he
        have HC : Hid (c = M.cb (j + 1) fun k => M.pr T k == ai) := by
          show _ = _
          rw [M.cb_at (b := false) (by rw [haj]; exact hd), ← hcc.out]; rfl
        clear he haj
        go_wp2_with fail
        go_big_quiet (fail)
        go_wp2_with fail
        go_roundw
        case rel => exact ⟨j + 1, c, rfl, by go_num, by omega, HC, by omega, bel_drN hB _⟩
        case measure => simp [intOf]; omega
    · obtain rfl : j = i := by omega
      go_wp2_with fail
      go_ret
      exact ⟨by rw [HN.out, ← hcc.out]; rfl, bel_on hB0 hB⟩
end Go.Proofs.YtlhpkpjcfjdgaaaDoor
