/- The steps of a word, and what must stay behind (package fold, Steps, Ahead); what lay in memory lies as it lay. -/
import Derived.Test.YtejnjokjkinpkaaDoorFo3
import Derived.Test.YtejnjokjkinpkaaDoorOwnS
import Derived.Deep.CutBlock
namespace Go.Proofs.YtejnjokjkinpkaaDoor
open Go.RowKit

set_option maxHeartbeats 1000000 in
theorem fsteps_err (zs : List Int) (p : Option Addr) (n cap : Nat) (ws : List Int) (q : Option Addr) (m cap2 : Nat) (w : World) (hl : zs.length = n) (he : Env w) (hmax : n ≤ maxLen) (hc : HasI zs p w) (hl2 : ws.length = m) (hmax2 : m ≤ maxLen) (hd : HasI ws q w) (c : Nat) (hcc : wcode zs ws = c) (hne : c ≠ 0) :
    Calls Tryd.prog 28 #[.slice p n cap, .slice q m cap2] w fun e w' => e = .returned (.tuple #[.slice none 0 0, errC c]) ∧ Below w.heap.size w w' := by
  go_enter Tryd.func28, Tryd.ntmps28
  go_wp2_with fail
  refine (cword_any zs p n cap ws q m cap2 _ hl he hmax hc hl2 hmax2 hd).mono ?_
  rw [hcc, terr_ne hne]
  rintro e w1 ⟨rfl, hB1⟩
  have HN : Hid (c ≠ 0) := hne
  clear hne hcc
  go_wp2_with fail
  go_ret2
  exact ⟨rfl, hB1⟩
set_option maxHeartbeats 1000000 in
theorem fahead_err (zs : List Int) (p : Option Addr) (n cap : Nat) (ws : List Int) (q : Option Addr) (m cap2 : Nat) (w : World) (hl : zs.length = n) (he : Env w) (hmax : n ≤ maxLen) (hc : HasI zs p w) (hl2 : ws.length = m) (hmax2 : m ≤ maxLen) (hd : HasI ws q w) (c : Nat) (hcc : wcode zs ws = c) (hne : c ≠ 0) :
    Calls Tryd.prog 30 #[.slice p n cap, .slice q m cap2] w fun e w' => e = .returned (.tuple #[.slice none 0 0, errC c]) ∧ Below w.heap.size w w' := by
  go_enter Tryd.func30, Tryd.ntmps30
  go_wp2_with fail
  refine (cword_any zs p n cap ws q m cap2 _ hl he hmax hc hl2 hmax2 hd).mono ?_
  rw [hcc, terr_ne hne]
  rintro e w1 ⟨rfl, hB1⟩
  have HN : Hid (c ≠ 0) := hne
  clear hne hcc
  go_wp2_with fail
  go_ret2
  exact ⟨rfl, hB1⟩
/-- The steps of a word's beginning, in one row. -/
def stR (F u : List Nat) (i : Nat) : List Nat := M.stL (M.stp (M.fr F) F.length (u.take i))
set_option maxRecDepth 100000 in
set_option maxHeartbeats 4000000 in
theorem fsteps_ok (F u : List Nat) (p : Option Addr) (n cap : Nat) (q : Option Addr) (m cap2 : Nat) (w : World) (hl : F.length = n) (he : Env w) (hF : FOk F) (hc : HasI (ints F) p w) (hl2 : u.length = m) (hU : WOk F u) (hd : HasI (ints u) q w) :
    Calls Tryd.prog 28 #[.slice p n cap, .slice q m cap2] w fun e w' => ∃ v, e = .returned (.tuple #[v, .nilIface]) ∧ w'.ownsRow w.heap.size 3 1 v (stR F u m).length (icells (stR F u m)) ∧ Below w.heap.size w w' := by
  have hm : m ≤ 24 := hl2 ▸ hU.len
  have hn6 := hF.len
  obtain ⟨i0, hi0, hzz⟩ := Option.map_eq_some_iff.1 infoInt
  simp only [Prod.mk.injEq] at hzz
  obtain ⟨hz0, hz1, hz2⟩ := hzz
  go_enter Tryd.func28, Tryd.ntmps28
  go_wp2_with fail
  refine (cword_any (ints F) p n cap (ints u) q m cap2 _ (by rw [ints_length]; exact hl) he (by unfold maxLen; omega) hc (by rw [ints_length]; exact hl2) (by unfold maxLen; omega) hd).mono ?_
  rw [wcode_ints hF hU, terr_zero]
  rintro e w1 ⟨rfl, hB1⟩
  have h10 : w1.ownsRow w1.heap.size 3 1 (.slice none 0 0) (stR F u 0).length (icells (stR F u 0)) := ⟨rfl, .inl ⟨rfl, rfl⟩⟩
  go_wp2_with fail
  go_loopw [7, 19] (fun sv v wr => ∃ (i : Nat), v = .int .i64 i ∧ i ≤ m ∧ wr.ownsRow w1.heap.size 3 1 sv (stR F u i).length (icells (stR F u i)) ∧ Below w1.heap.size w1 wr) (fun _ v _ => m - (intOf v).toNat)
  case atStart => exact ⟨0, rfl, Nat.zero_le _, h10, Below.refl _ _⟩
  case round =>
    clear h10
    obtain ⟨i, rfl, hi, hown, hB⟩ := hrel
    obtain ⟨p', c', rfl⟩ := owns_slice hown
    by_cases hlt : i < m
    · have hBr := bel_on hB1 hB
      obtain ⟨b, off, rfl, hb, hcz⟩ := (hd.later hBr) i (by rw [ints_length]; omega)
      rw [ints_get] at hcz
      have hri := hU.row (i := i) (by omega)
      have hw0 := M.stp_wf hF.fr (w := u.take i) (m := F.length) (fun x hx => hU.lt x (List.mem_of_mem_take hx))
      have hnx : M.stp (M.fr F) F.length (u.take (i + 1)) = M.ins (M.fr F) F.length (M.stp (M.fr F) F.length (u.take i)) (M.row u i) := by rw [M.take_row (by omega), M.stp_snoc]
      have hnle := M.stp_n_le (M.fr F) F.length u i (by omega)
      obtain ⟨S, hS⟩ : ∃ S, M.stp (M.fr F) F.length (u.take i) = S := ⟨_, rfl⟩
      obtain ⟨c, hcc⟩ : ∃ c, M.row u i = c := ⟨_, rfl⟩
      rw [hS] at hw0 hnx hnle
      rw [hcc] at hri hnx hcz
      have hst : stR F u i = M.stL S := by unfold stR; rw [hS]
      have hst1 : stR F u (i + 1) = M.stL (M.ins (M.fr F) F.length S c) := by unfold stR; rw [hnx]
      rw [hst] at hown
      rw [M.stL_length] at hown
      rw [hst, M.stL_length]
      have HW : Hid (M.WF (M.fr F) F.length S) := hw0
      have HS1 : Hid (stR F u (i + 1) = M.stL (M.ins (M.fr F) F.length S c)) := hst1
      obtain ⟨N, hN⟩ : ∃ N, S.n = N := ⟨_, rfl⟩
      have HN : Hid (S.n = N) := hN
      rw [hN] at hown hnle
      rw [hN]
      have hwh := M.whr_le (M.fr F) F.length S c
      obtain ⟨h, hh⟩ : ∃ h, M.whr (M.fr F) F.length S c = h := ⟨_, rfl⟩
      rw [hh, hN] at hwh
      have HH : Hid (M.whr (M.fr F) F.length S c = h) := hh
      have hl0 : Hid (M.lastT (M.fr F) F.length c S.lv N = h) := (by rw [← hN]; exact hh : M.lastT (M.fr F) F.length c S.lv N = h)
      clear hh hN hst hst1 hw0 hnx hS hcc
      have hNN : (N : Int) ≤ 24 := by omega
      have hop : 0 < N → ∃ g cap, Value.slice p' N c' = .slice (some ⟨g, 0, none⟩) N cap ∧ w1.heap.size ≤ g ∧ g < wr.heap.size ∧ (∀ i, i < N → wr.cell? ⟨g, i, none⟩ = some (.int .i64 (S.lv i : Nat)) ∧ wr.frozen? ⟨g, i, none⟩ = false) := fun h0 => by
        obtain ⟨g, cap, e1, e2, e3, e4, _⟩ := owns_open (by rw [M.stL_length]; exact HN.out) hown h0
        refine ⟨g, cap, e1, e2, e3, fun i hi => ?_⟩
        have := e4 i hi
        rw [M.stL_row (by rw [HN.out]; exact hi)] at this
        exact this
      go_upto_block 2 with fail
      go_cut [10, 19] from 19 to 54 (fun u z w' => u = .int .i64 (h : Nat) ∧ z = .int .i64 (i : Nat) ∧ w' = wr)
      case first =>
        go_wp2_with fail
        go_loopw [10] (fun a wr' => ∃ t : Nat, a = .int .i64 t ∧ t ≤ N ∧ Hid (M.lastT (M.fr F) F.length c S.lv t = h) ∧ wr' = wr) (fun a _ => (intOf a).toNat)
        case atStart => exact ⟨N, rfl, Nat.le_refl _, hl0, rfl⟩
        case round =>
          obtain ⟨t, rfl, ht, hT, rfl⟩ := hrel
          by_cases ht0 : t = 0
          · subst ht0
            obtain rfl : 0 = h := hT.out
            go_wp2_with fail
            go_meet
            case rel => exact ⟨rfl, rfl, rfl⟩
          · obtain ⟨t', rfl⟩ : ∃ t', t = t' + 1 := ⟨t - 1, by omega⟩
            obtain ⟨g, cp, e1, e2, e3, e4⟩ := hop (by omega)
            cases e1
            obtain ⟨k1, k2⟩ := e4 t' (by omega)
            have hslt : S.lv t' < 64 := by
              have h1 := M.ins_lt HW.out t'
              have h2 : 2 ^ F.length ≤ 2 ^ 6 := Nat.pow_le_pow_right (by omega) (by omega)
              omega
            have hpt := M.pass_tied (F := F) (m := F.length) (c := c) (L := S.lv t') (fun x hx => HW.out.lt t' x hx)
            rw [← passB_iff hslt] at hpt
            have hpo := fun W hh => pass_ok F c (S.lv t') p n cap W hl hF hslt (by omega) hh
            have hlt' : M.lastT (M.fr F) F.length c S.lv (t' + 1) = if M.tied (M.fr F) F.length c (S.lv t') then t' + 1 else M.lastT (M.fr F) F.length c S.lv t' := rfl
            rw [hT.out] at hlt'
            obtain ⟨s, hs⟩ : ∃ s, S.lv t' = s := ⟨_, rfl⟩
            rw [hs] at hpt hpo hlt' hslt k1
            clear hs
            have ht1 : ((t' + 1 : Nat) : Int) - 1 = (t' : Int) := by omega
            have htN : (t' : Int) < (N : Int) := by omega
            obtain ⟨t1, ht1e⟩ : ∃ t1, t' + 1 = t1 := ⟨_, rfl⟩
            rw [ht1e] at ht1 hlt'
            rw [ht1e]
            have hd1 : decide ((0 : Int) < (t1 : Int)) = true := decide_eq_true (by omega)
            have hd1' : decide (0 < t1) = true := decide_eq_true (by omega)
            have hcB := hc.later hBr
            cases hps : passB F c s with
            | true =>
              rw [hpt.2 hps] at hlt'
              have HT : Hid (M.lastT (M.fr F) F.length c S.lv t' = h) := hlt'.symm
              rw [hps] at hpo
              clear hps hpt hlt' hT ht0 ht1e
              go_wp2_with fail
              refine (hpo _ hcB).mono ?_
              rintro e w2 ⟨rfl, rfl⟩
              go_wp2_with fail
              go_roundw
              case rel => exact ⟨t', by go_num, by omega, HT, trivial⟩
              case measure => simp [intOf]; omega
            | false =>
              have htt : M.tied (M.fr F) F.length c s = true := by
                cases h9 : M.tied (M.fr F) F.length c s with
                | true => rfl
                | false => rw [hpt.1 h9] at hps; cases hps
              rw [htt, if_pos rfl] at hlt'
              have HT : Hid (h = t1) := by show _ = _; omega
              rw [hps] at hpo
              clear hps hpt hlt' hT ht0 ht1e htt
              go_wp2_with fail
              refine (hpo _ hcB).mono ?_
              rintro e w2 ⟨rfl, rfl⟩
              go_wp2_with fail
              go_meet
              case rel => exact ⟨by rw [HT.out], rfl, rfl⟩
      case rest =>
        obtain ⟨rfl, rfl, rfl⟩ := hcut
        have hsh : IntKind.i64.wrap (2 ^ c) = ((1 <<< c : Nat) : Int) := i64_shl_big c (by omega)
        have hjp : 1 <<< c < 65536 := by rw [Nat.shiftLeft_eq, Nat.one_mul]; have := pow_lt c (by omega); omega
        obtain ⟨y, hy⟩ : ∃ y : Nat, 1 <<< c = y := ⟨_, rfl⟩
        have hc64 : (c : Int) < 64 := by omega
        by_cases hhN : h = N
        · have hnew : M.stL (M.ins (M.fr F) F.length S c) = M.stL S ++ [y] := by rw [← hy]; exact M.stL_new (HW.out.zero _ (Nat.le_refl _)) (by rw [HH.out, HN.out]; exact hhN)
          subst hhN
          have HNW : Hid (M.stL (M.ins (M.fr F) F.length S c) = M.stL S ++ [y]) := hnew
          rw [hy] at hsh hjp
          have hor : bits .or .i64 (0 : Int) (y : Int) = (y : Int) := by have := i64_or_nat 0 y (by omega) hjp; rw [Nat.zero_or] at this; exact this
          have hnn : ((h : Int) == (h : Int)) = true := by simp
          have HSL : Hid ((M.stL S).length = h) := by show _ = _; rw [M.stL_length]; exact HN.out
          clear hop hl0 hnew hy
          go_wp2_with (at_builtin; refine wpList_append_own _ rfl _ _ 22 rfl w1.heap.size 3 i0 (.int .i64 0) 1 8 Tryd.underlying22 hi0 hz0 hz1 hz2 rfl (by decide) _ _ _ rfl (hown.alloc _) ⟨wc.heap.size, 0, none⟩ 1 1 [.int .i64 0] rfl rfl (cell_one_new _ _ _) (by simp [Value.oneCell']) (by unfold maxLen; omega) (by omega) (by have := hB.size; simp; omega) ?_; intro v' w5 hown' hgrow _)
          have hown2 : w5.ownsRow w1.heap.size 3 1 v' (h + 1) (icells (M.stL S ++ [0])) := by rw [icells_snoc]; exact hown'
          have hB5 : Below w1.heap.size w1 w5 := (bel_al hB _).grown hgrow (by have := hB.size; simp; omega) (fun j e => (hown.lt j e).1)
          obtain ⟨g, cp, rfl, hg1, hg2, hg3, hg4⟩ := owns_open (by simp [HSL.out]) hown2 (by omega)
          obtain ⟨k1, k2⟩ := hg3 h (by omega)
          have hr0 : M.row (M.stL S ++ [0]) h = 0 := by unfold M.row; rw [List.getElem?_append_right (by rw [HSL.out]; exact Nat.le_refl _), HSL.out]; simp
          rw [hr0] at k1
          have hst : (M.stL S ++ [0]).set h y = M.stL S ++ [y] := by rw [List.set_append_right _ _ (by rw [HSL.out]; exact Nat.le_refl _), HSL.out, Nat.sub_self]; rfl
          have hs4 := hg4 h y (by omega)
          rw [hst, ← HNW.out, ← HS1.out] at hs4
          have hlen : h + 1 = (stR F u (i + 1)).length := by rw [HS1.out, HNW.out, List.length_append, HSL.out]; rfl
          have HB5 : Hid (∀ W, W = w5.setCell ⟨g, h, none⟩ (.int .i64 (y : Nat)) → Below w1.heap.size w1 W) := fun W e => by subst e; exact hB5.setCell (p := ⟨g, h, none⟩) (by simp; omega) _
          have HO5 : Hid (World.ownsRow (w5.setCell ⟨g, h, none⟩ (.int .i64 (y : Nat))) w1.heap.size 3 1 (.slice (some ⟨g, 0, none⟩) (h + 1) cp) (stR F u (i + 1)).length (icells (stR F u (i + 1)))) := by
            rw [hlen] at hs4 ⊢; exact hs4
          have hh1 : (h : Int) < ((h + 1 : Nat) : Int) := by omega
          clear hown hown' hown2 hgrow hg3 hg4 hs4 hst hlen hB5 hB hr0
          obtain ⟨h1, hh1e⟩ : ∃ h1, h + 1 = h1 := ⟨_, rfl⟩
          rw [hh1e] at HO5 hh1
          rw [hh1e]
          clear hh1e
          go_wp2_with fail
          go_still_tail 8, (by kernel_rfl)
          go_wp2_with fail
          go_roundw
          case rel => exact ⟨i + 1, by go_num, by omega, HO5.out, (HB5.out _ rfl).drew⟩
          case measure => simp [intOf]; omega
        · have hhl : h < N := by omega
          have hold : M.stL (M.ins (M.fr F) F.length S c) = (M.stL S).set h (S.lv h ||| y) := by rw [← hy]; have := M.stL_old (f := M.fr F) (m := F.length) (S := S) (c := c) (by rw [HH.out, HN.out]; exact hhl); rw [HH.out] at this; exact this
          rw [hy] at hsh hjp
          have hslt : S.lv h < 64 := by
            have h1 := M.ins_lt HW.out h
            have h2 : 2 ^ F.length ≤ 2 ^ 6 := Nat.pow_le_pow_right (by omega) (by omega)
            omega
          have hor := i64_or_nat (S.lv h) y (by omega) hjp
          obtain ⟨g, cp, e1, hg1, hg2, hg3, hg4⟩ := owns_open (by rw [M.stL_length]; exact HN.out) hown (by omega)
          cases e1
          obtain ⟨k1, k2⟩ := hg3 h hhl
          rw [M.stL_row (by rw [HN.out]; exact hhl)] at k1
          have hs4 := hg4 h (S.lv h ||| y) hhl
          rw [← hold, ← HS1.out] at hs4
          have hlen : N = (stR F u (i + 1)).length := by rw [HS1.out, hold, List.length_set, M.stL_length, HN.out]
          obtain ⟨s, hs⟩ : ∃ s, S.lv h = s := ⟨_, rfl⟩
          rw [hs] at k1 hor hs4
          obtain ⟨z, hz⟩ : ∃ z, s ||| y = z := ⟨_, rfl⟩
          rw [hz] at hor hs4
          have HB5 : Hid (∀ W, W = wc.setCell ⟨g, h, none⟩ (.int .i64 (z : Nat)) → Below w1.heap.size w1 W) := fun W e => by subst e; exact hB.setCell (p := ⟨g, h, none⟩) (by simp; omega) _
          have HO5 : Hid (World.ownsRow (wc.setCell ⟨g, h, none⟩ (.int .i64 (z : Nat))) w1.heap.size 3 1 (.slice (some ⟨g, 0, none⟩) N c') (stR F u (i + 1)).length (icells (stR F u (i + 1)))) := by
            rw [← hlen]; exact hs4
          have hh1 : (h : Int) < (N : Int) := by omega
          have hnn : ((h : Int) == (N : Int)) = false := by simp; omega
          have hnn' : (h == N) = false := by simpa using hhN
          clear hown hg3 hg4 hs4 hlen hB hz hs hold hy hop hl0 hhN
          go_wp2_with fail
          go_still_tail 8, (by kernel_rfl)
          go_wp2_with fail
          go_roundw
          case rel => exact ⟨i + 1, by go_num, by omega, HO5.out, (HB5.out _ rfl).drew⟩
          case measure => simp [intOf]; omega
    · obtain rfl : i = m := by omega
      go_wp2_with fail
      go_ret2
      exact ⟨_, rfl, owns_mono hown hB1.size, bel_on hB1 hB⟩
end Go.Proofs.YtejnjokjkinpkaaDoor
