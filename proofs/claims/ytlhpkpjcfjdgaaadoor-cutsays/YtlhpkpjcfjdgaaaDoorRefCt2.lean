/- The document's own events of a cut, and whether it is whole (package whensteadref2, CutSet, Whole); what lay in memory lies as it lay. -/
import Derived.Test.YtlhpkpjcfjdgaaaDoorBCb
import Derived.Test.YtlhpkpjcfjdgaaaDoorRefNth
import Derived.Test.YtlhpkpjcfjdgaaaDoorBRf
import Derived.Test.YtlhpkpjcfjdgaaaDoorBCa
import Derived.Deep.CutRange
namespace Go.Proofs.YtlhpkpjcfjdgaaaDoor
open Go.RowKit
set_option maxRecDepth 100000 in
set_option maxHeartbeats 4000000 in
theorem refCutSet_ok (P : Int) (T : List (Int × Int)) (p : Option Addr) (n cap : Nat) (c : List Nat) (q : Option Addr) (m cap2 : Nat) (w : World) (hl : T.length = n) (hc : HasE T p w) (hlc : c.length = m) (hz : HasI (ints c) q w) (hok : M.TOk P T) (hCP : (c.length : Int) = P) :
    Calls Tryd.prog 14 #[trV P p n cap, .slice q m cap2] w fun e w' => e = .returned (.int .i64 (M.cset T c n : Nat)) ∧ Below w.heap.size w w' := by
  have hn : n ≤ 24 := hl ▸ hok.len
  obtain ⟨wa, hwa⟩ : ∃ wa, w.alloc (.cells #[.int .i64 P, .slice p n cap] 24) = wa := ⟨_, rfl⟩
  have ta : TBox wa w.heap.size P p n cap := hwa ▸ tbox_new w P p n cap
  have hBa : Below w.heap.size w wa := by rw [← hwa]; exact bel_al (Below.refl _ _) _
  have hca := hc.later hBa
  have hza := hz.later hBa
  go_enter Tryd.func14, Tryd.ntmps14
  go_wp2_with fail
  clear hwa
  go_loopw [5, 6] (fun u v wr => ∃ i : Nat, v = .int .i64 i ∧ u = .int .i64 (M.cset T c i : Nat) ∧ i ≤ n ∧ Below wa.heap.size wa wr) (fun _ v _ => n - (intOf v).toNat)
  case atStart => exact ⟨0, rfl, rfl, Nat.zero_le _, Below.refl _ _⟩
  case round =>
    obtain ⟨i, rfl, rfl, hi, hB⟩ := hrel
    have t2 := ta.later hB ta.lt
    have k0 := t2.procs
    have k1 := t2.events
    have kl := t2.lt
    by_cases hlt : i < n
    · obtain ⟨b, off, rfl, hb, hp1, hp2⟩ := (hca.later hB) i (by omega)
      obtain ⟨a, ha, haP⟩ := M.pr_nat hok (show i < T.length by omega)
      rw [ha] at hp1
      have ham : a < m := by omega
      obtain ⟨y, hy⟩ : ∃ y, M.row c a = y := ⟨_, rfl⟩
      obtain ⟨b2, off2, rfl, hb2, hcy⟩ := hasI_nat (hza.later hB) (show a < c.length by omega) hy
      have hin := M.inC_iff (c := c) ha
      rw [hy] at hin
      have hcs := M.cset_lt T c i
      have hpw := pow_24 i (by omega)
      obtain ⟨x, hx⟩ : ∃ x, M.nth T i = x := ⟨_, rfl⟩
      rw [hx] at hin
      have hnth : ∀ W, Below wa.heap.size wa W → Calls Tryd.prog 47 #[.agg #[.int .i64 P, .slice (some ⟨b, off, none⟩) n cap], .int .i64 (i : Nat)] W fun e w' => e = .returned (.int .i64 (x : Nat)) ∧ Below W.heap.size W w' := fun W hW => by
        rw [← hx]; exact nth_ok P T _ n cap i W hl (hca.later hW) hn hlt
      have hnx : M.cset T c (i + 1) = if M.inC T c i = true then M.cset T c i + 2 ^ i else M.cset T c i := rfl
      obtain ⟨s, hs⟩ : ∃ s, M.cset T c i = s := ⟨_, rfl⟩
      rw [hs] at hcs hnx ⊢
      obtain ⟨d, hd0⟩ : ∃ d, 2 ^ i = d := ⟨_, rfl⟩
      have HD : Hid (2 ^ i = d) := hd0
      rw [hd0] at hnx hcs hpw
      have hmk : ∀ W, Below wr.heap.size wr W → W.cell? ⟨w.heap.size, 0, none⟩ = some (.int .i64 P) ∧ W.cell? ⟨w.heap.size, 1, none⟩ = some (.slice (some ⟨b, off, none⟩) n cap) ∧ W.cell? ⟨b, off + i * 2, none⟩ = some (.int .i64 (a : Nat)) ∧ W.cell? ⟨b2, off2 + a, none⟩ = some (.int .i64 (y : Nat)) := fun W hW =>
        ⟨(t2.later hW t2.lt).procs, (t2.later hW t2.lt).events, (hW.cell (p := ⟨b, off + i * 2, none⟩) hb).trans hp1, (hW.cell (p := ⟨b2, off2 + a, none⟩) hb2).trans hcy⟩
      have hil : (i : Int) < (n : Int) := by omega
      have hal : (a : Int) < (m : Int) := by omega
      have HBr : Hid (Below wa.heap.size wa wr) := hB
      clear hd0 hs hx hy ha hp2
      by_cases hxy : x < y
      · have HN : Hid (M.cset T c (i + 1) = s + d) := by show _ = _; rw [hnx, if_pos (hin.2 hxy)]
        have e1 : decide ((x : Int) < (y : Int)) = true := decide_eq_true (by omega)
        have e2 : decide (x < y) = true := decide_eq_true hxy
        clear hnx hin hxy
        go_wp2_with fail
        go_cut [26] from 14 to 25 (fun u w' => u = .bool true ∧ Below wr.heap.size wr w')
        case first =>
          go_region_held3 (fun W => W.cell? ⟨w.heap.size, 0, none⟩ = some (.int .i64 P) ∧ W.cell? ⟨w.heap.size, 1, none⟩ = some (.slice (some ⟨b, off, none⟩) n cap) ∧ W.cell? ⟨b, off + i * 2, none⟩ = some (.int .i64 (a : Nat)) ∧ W.cell? ⟨b2, off2 + a, none⟩ = some (.int .i64 (y : Nat))) (first | exact hmk _ ((Below.refl _ wr).drew) | exact hmk _ (bel_on ((Below.refl _ wr).drew) hB9)) (first | (go_at_call 47; refine (hnth _ (HBr.out.drew)).mono ?_; rintro e w9 ⟨rfl, hB9⟩))
          all_goals (go_wp2_with fail; go_meet; all_goals exact ⟨rfl, bel_on ((Below.refl _ wr).drew) hB9⟩)
        case rest =>
          obtain ⟨rfl, hBc⟩ := hcut
          have hB5 := bel_on HBr.out hBc
          clear hnth hmk
          go_wp2_with (go_at_call 48; refine (pow2_big i d _ (by omega) HD).mono ?_; rintro e w' ⟨rfl, rfl⟩)
          go_roundw
          case rel => exact ⟨i + 1, by go_num, by rw [HN.out]; go_num, by omega, hB5⟩
          case measure => simp [intOf]; omega
      · have HN : Hid (M.cset T c (i + 1) = s) := by show _ = _; rw [hnx, if_neg (fun h => hxy (hin.1 h))]
        have e1 : decide ((x : Int) < (y : Int)) = false := decide_eq_false (by omega)
        have e2 : decide (x < y) = false := decide_eq_false hxy
        clear hnx hin hxy
        go_wp2_with fail
        go_cut [26] from 14 to 25 (fun u w' => u = .bool false ∧ Below wr.heap.size wr w')
        case first =>
          go_region_held3 (fun W => W.cell? ⟨w.heap.size, 0, none⟩ = some (.int .i64 P) ∧ W.cell? ⟨w.heap.size, 1, none⟩ = some (.slice (some ⟨b, off, none⟩) n cap) ∧ W.cell? ⟨b, off + i * 2, none⟩ = some (.int .i64 (a : Nat)) ∧ W.cell? ⟨b2, off2 + a, none⟩ = some (.int .i64 (y : Nat))) (first | exact hmk _ ((Below.refl _ wr).drew) | exact hmk _ (bel_on ((Below.refl _ wr).drew) hB9)) (first | (go_at_call 47; refine (hnth _ (HBr.out.drew)).mono ?_; rintro e w9 ⟨rfl, hB9⟩))
          all_goals (go_wp2_with fail; go_meet; all_goals exact ⟨rfl, bel_on ((Below.refl _ wr).drew) hB9⟩)
        case rest =>
          obtain ⟨rfl, hBc⟩ := hcut
          have hB5 := bel_on HBr.out hBc
          clear hnth hmk
          go_wp2_with fail
          go_roundw
          case rel => exact ⟨i + 1, by go_num, by rw [HN.out], by omega, hB5⟩
          case measure => simp [intOf]; omega
    · obtain rfl : n = i := by omega
      have HC : Hid (Below _ _ _) := bel_on hBa hB
      clear hB hlt
      go_wp2_with fail
      go_ret
      exact ⟨rfl, HC.out⟩
end Go.Proofs.YtlhpkpjcfjdgaaaDoor
