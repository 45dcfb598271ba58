/- Any move of the document's own bank (package whensteadref2, Move), and whether all is noted (AllNoted). -/
import Derived.Test.YtplplgpfglaajaaDoorRefB8
namespace Go.Proofs.YtplplgpfglaajaaDoor
open Go.RowKit
theorem rmove_ok {G : Nat → Prop} {n : Nat} {b : M.Bk} (v : RV) (k f t s : Int) (w : World) (hR : RB G n b v w) (hG : ∀ k, w.heap.size ≤ k → G k) (hg : M.BG n b) :
    Calls Tryd.prog 7 #[rbV n b.be v, mvV k f t s] w fun e w' => ∃ v', e = .returned (.tuple #[rbV n (M.mvB n b k f t s).1.be v', .int .i64 ((M.mvB n b k f t s).2 : Nat)]) ∧ RB G n (M.mvB n b k f t s).1 v' w' ∧ Below w.heap.size w w' := by
  have hn5 := hg.n5
  obtain ⟨R, hRR⟩ : ∃ R, M.mvB n b k f t s = R := ⟨_, rfl⟩
  rw [hRR]
  unfold M.mvB at hRR
  by_cases hk : 0 ≤ k ∧ k ≤ 2
  case neg =>
    rw [if_pos (.inl hk)] at hRR
    subst hRR
    exact rmv_kind b.be v k f t s w hR hG hn5 hk
  by_cases hf : 0 ≤ f ∧ f < n
  case neg =>
    rw [if_pos (.inr hf)] at hRR
    subst hRR
    exact rmv_from b.be v k f t s w hR hG hn5 hk.1 hk.2 (by omega)
  rw [if_neg (fun x => x.elim (fun y => y hk) (fun y => y hf))] at hRR
  obtain ⟨p, rfl⟩ : ∃ p : Nat, f = (p : Int) := ⟨f.toNat, by omega⟩
  have hp : p < n := by omega
  rw [Int.toNat_natCast] at hRR
  by_cases h2 : k = 2
  · subst h2
    rw [if_pos rfl] at hRR
    cases hbe : b.be with
    | true =>
      rw [if_pos hbe] at hRR
      subst hRR
      have := rmv_mark_old (b := b) true v p t s w hR hG hn5 hp rfl
      rw [← hbe] at this
      rw [← hbe]
      exact this
    | false =>
      rw [if_neg (by rw [hbe]; simp)] at hRR
      subst hRR
      exact rmv_mark_new false v p t s w hR hG hn5 hp rfl (fun q => by have := hg.cnt p q; omega)
  rw [if_neg h2] at hRR
  have hk2 : k < 2 := by omega
  have hkd : (k == 2) = false := by simp; omega
  by_cases ht : 0 ≤ t ∧ t < n
  case neg =>
    rw [if_pos ht] at hRR
    subst hRR
    exact rmv_to b.be v k p t s w hR hG hn5 hk.1 hk2 hkd hp (by omega)
  rw [if_neg (fun x => x ht)] at hRR
  obtain ⟨q, rfl⟩ : ∃ q : Nat, t = (q : Int) := ⟨t.toNat, by omega⟩
  have hq : q < n := by omega
  rw [Int.toNat_natCast] at hRR
  by_cases hpq : p = q
  · subst hpq
    rw [if_pos rfl] at hRR
    subst hRR
    exact rmv_same b.be v k p s w hR hG hn5 hk.1 hk2 hkd hp
  rw [if_neg (show ¬ (p : Int) = (q : Int) by omega)] at hRR
  by_cases h0 : k = 0
  · subst h0
    rw [if_pos rfl] at hRR
    by_cases hs : 0 ≤ s ∧ s ≤ 1000
    case neg =>
      rw [if_pos hs] at hRR
      subst hRR
      exact rmv_pay_range b.be v p q s w hR hG hn5 hp hq hpq hs
    rw [if_neg (fun x => x hs)] at hRR
    by_cases hm : b.mo p < s
    · rw [if_pos hm] at hRR
      subst hRR
      exact rmv_pay_none b.be v p q s w hR hG hn5 hp hq hpq hs.1 hs.2 hm
    rw [if_neg hm] at hRR
    have hsm : s ≤ b.mo p := by omega
    by_cases h8 : 8 ≤ (b.wy p q).length
    · rw [if_pos h8] at hRR
      subst hRR
      exact rmv_pay_full b.be v p q s w hR hG hn5 hp hq hpq hs.1 hs.2 hsm h8
    · rw [if_neg h8] at hRR
      subst hRR
      exact rmv_pay_ok b.be v p q s w hR hG hn5 hp hq hpq hs.1 hs.2 hsm (hg.mo_le hp) (by omega)
  rw [if_neg h0] at hRR
  obtain rfl : k = 1 := by omega
  cases hw : b.wy p q with
  | nil =>
    rw [hw] at hRR
    subst hRR
    exact rmv_come_none b.be v p q s w hR hG hn5 hp hq hpq hw
  | cons x r =>
    rw [hw] at hRR
    by_cases hx : x = -1
    · simp only [if_pos hx] at hRR
      subst hRR
      by_cases hno : b.no q = -1
      · have e : M.markB n b p q r = M.hearB (M.noteB n (M.popB b p q r) q) p q := by unfold M.markB; rw [if_pos hno]
        rw [e]
        exact rmv_come_mark_new b.be v p q x r s w hR hG hn5 hp hq hpq hw hx hno (fun c => by
          show (M.upd2 b.wy p q r q c).length ≤ 50
          unfold M.upd2
          split
          · have := hg.cnt p q; rw [hw, List.length_cons] at this; omega
          · have := hg.cnt q c; omega)
      · have e : M.markB n b p q r = M.hearB (M.popB b p q r) p q := by unfold M.markB; rw [if_neg hno]
        rw [e]
        exact rmv_come_mark_old b.be v p q x r s w hR hG hn5 hp hq hpq hw hx (by
          rcases hg.ok.no0 q hq with y | y
          · exact absurd y hno
          · exact y)
    · simp only [if_neg hx] at hRR
      subst hRR
      have hx5 : 0 ≤ x ∧ x ≤ 5000 := by
        rcases hg.wy_le (p := p) (q := q) (x := x) (by rw [hw]; exact List.mem_cons_self ..) with e | e
        · exact absurd e hx
        · exact e
      by_cases hno : 0 ≤ b.no q
      · cases hh : b.he q p with
        | true =>
          rw [M.sumB_neg (fun y => by rw [hh] at y; cases y.2)]
          exact rmv_come_heard b.be v p q x r s w hR hG hn5 hp hq hpq hw hx hx5.1 hx5.2 (hg.mo0 hq) (hg.mo_le hq) hno hh
        | false =>
          rw [M.sumB_pos ⟨hno, hh⟩]
          exact rmv_come_note b.be v p q x r s w hR hG hn5 hp hq hpq hw hx hx5.1 hx5.2 (hg.mo0 hq) (hg.mo_le hq) hno hh (hg.ca0 p q) (hg.ca_le p q)
      · rw [M.sumB_neg (fun y => hno y.1)]
        exact rmv_come_new b.be v p q x r s w hR hG hn5 hp hq hpq hw hx hx5.1 hx5.2 (hg.mo0 hq) (hg.mo_le hq) hno
set_option maxRecDepth 100000 in
set_option maxHeartbeats 2000000 in
theorem rall_ok {G : Nat → Prop} {n : Nat} {b : M.Bk} (be : Bool) (v : RV) (w : World) (hR : RB G n b v w) (hg : M.BG n b) (r : Bool) (hr : r = true ↔ M.AllN n b) :
    Calls Tryd.prog 12 #[rbV n be v] w fun e w' => e = .returned (.bool r) ∧ Below w.heap.size w w' := by
  have hn5 := hg.n5
  have NO : Hid (∀ i, i < n → ¬ M.Nt1 n b i → r = false) := fun i hi e => by
    cases hh : r with
    | false => rfl
    | true => exact absurd ((M.allN_iff n b).1 (hr.1 hh) i hi) e
  have YES : Hid ((∀ i, i < n → M.Nt1 n b i) → r = true) := fun e => hr.2 ((M.allN_iff n b).2 e)
  have HG : Hid (M.BG n b) := hg
  obtain ⟨W, hW⟩ : ∃ W, w.alloc (.cells #[.slice v.pm n v.cm, .slice v.pn n v.cn, .slice v.pw (n * n) v.cw, .slice v.ph (n * n) v.ch, .slice v.pc (n * n) v.cc, .bool be] 27) = W := ⟨_, rfl⟩
  have LW : LB w.heap.size n be v W := by rw [← hW]; exact rb_alloc w n be v
  have BW : Below w.heap.size w W := by rw [← hW]; exact bel_al (Below.refl _ _) _
  have RW := hR.later BW
  have lL := LW.lt
  obtain ⟨N2, hN2⟩ : ∃ N2, n * n = N2 := ⟨_, rfl⟩
  have HN2 : Hid (n * n = N2) := hN2
  have hN25 : N2 ≤ 25 := by
    have := Nat.mul_le_mul hn5 hn5
    omega
  have l0 := LW.c0
  have l1 := LW.c1
  have l3 := LW.c3
  have hn0 := hg.n0
  obtain ⟨bn, on, en, hbn, _, hcn⟩ := RW.no.at_ (by omega)
  obtain ⟨bh, oh, eh, hbh, _, hch⟩ := RW.he.at_ (by exact Nat.mul_pos hn0 hn0)
  obtain ⟨pm, cm, pn, cn, pw, cw, ph, ch, pc, cc, vw⟩ := v
  have en' : pn = some ⟨bn, on, none⟩ := en
  have eh' : ph = some ⟨bh, oh, none⟩ := eh
  subst en' eh'
  have CN : Hid (∀ i, i < n → W.cell? ⟨bn, on + i, none⟩ = some (.int .i64 (b.no i))) := hcn
  have CH : Hid (∀ i j, i < n → j < n → W.cell? ⟨bh, oh + (i * n + j), none⟩ = some (.bool (b.he i j))) := fun i j hi hj => by rw [hch _ (pair_lt hi hj), pair_div i hj, pair_mod i hj]
  simp only [rbV] at hW l0 l1 l3 ⊢
  rw [hN2] at hW l3 ⊢
  have HBW : Hid (Below w.heap.size w W) := BW
  clear LW BW RW hR hcn hch en eh hN2 hg hr
  go_enter Tryd.func12, Tryd.ntmps12
  go_wp2_with fail
  go_loopw [4] (fun u wr => ∃ k : Nat, u = .int .i64 k ∧ k ≤ n ∧ Hid (∀ i, i < k → M.Nt1 n b i) ∧ W = wr) (fun u _ => n - (intOf u).toNat)
  case atStart => exact ⟨0, rfl, Nat.zero_le _, show ∀ j, j < 0 → _ from fun j hj => absurd hj (Nat.not_lt_zero _), rfl⟩
  case round =>
    clear hW
    obtain ⟨k, rfl, hk, hJ, rfl⟩ := hrel
    by_cases hlt : k < n
    · have hki : (k : Int) < n := by omega
      have cnk := CN.out k hlt
      rcases HG.out.ok.no0 k hlt with e | e
      · rw [e] at cnk
        obtain rfl : r = false := NO.out k hlt (fun x => by have := x.1; omega)
        clear e
        go_wp2_with fail
        go_ret
        exact ⟨rfl, HBW.out⟩
      · obtain ⟨no, hno⟩ : ∃ no, b.no k = no := ⟨_, rfl⟩
        have HE : Hid (0 ≤ b.no k) := e
        rw [hno] at cnk e
        have hnd : (no == -1) = false := by simp; omega
        obtain ⟨m, hm⟩ : ∃ m, k * n = m := ⟨_, rfl⟩
        have hm25 : m + n ≤ N2 := by rw [← HN2.out, ← hm, ← Nat.succ_mul]; exact Nat.mul_le_mul_right _ hlt
        have hmi : (k : Int) * (n : Int) = (m : Int) := by rw [← hm]; exact (Int.natCast_mul k n).symm
        have hwm : IntKind.i64.wrap (m : Int) = (m : Int) := by rw [IntKind.wrap_i64]; omega
        have CK : Hid (∀ j, j < n → W.cell? ⟨bh, oh + (m + j), none⟩ = some (.bool (b.he k j))) := fun j hj => by rw [← hm]; exact CH.out k j hlt hj
        clear hno hm e
        go_wp2_with fail
        go_loopw [5] (fun u wr => ∃ j : Nat, u = .int .i64 j ∧ j ≤ n ∧ Hid (∀ i, i < j → i ≠ k → b.he k i = true) ∧ W = wr) (fun u _ => n - (intOf u).toNat)
        case atStart => exact ⟨0, rfl, Nat.zero_le _, show ∀ j, j < 0 → _ from fun j hj => absurd hj (Nat.not_lt_zero _), rfl⟩
        case round =>
          obtain ⟨j, rfl, hj, hI, rfl⟩ := hrel
          by_cases hltj : j < n
          · have hji : (j : Int) < n := by omega
            by_cases ejk : j = k
            · subst ejk
              have HI : Hid (∀ i, i < j + 1 → i ≠ j → b.he j i = true) := fun i hi e => hI.out i (by omega) e
              clear hI
              go_wp2_with fail
              go_roundw
              case rel => exact ⟨j + 1, by go_num, by omega, HI, by trivial⟩
              case measure => simp [intOf]; omega
            · have hd : ((k : Int) != (j : Int)) = true := by simp; omega
              have hd' : (k != j) = true := by simp; omega
              have EJ : Hid (j ≠ k) := ejk
              have chj := CK.out j hltj
              obtain ⟨x, hx⟩ : ∃ x, m + j = x := ⟨_, rfl⟩
              rw [hx] at chj
              have hxi : (m : Int) + (j : Int) = (x : Int) := by omega
              have hx2 : x < N2 := by omega
              have hx2' : (x : Int) < (N2 : Int) := by omega
              have hwx : IntKind.i64.wrap (x : Int) = (x : Int) := by rw [IntKind.wrap_i64]; omega
              clear ejk hx
              cases hh : b.he k j with
              | true =>
                rw [hh] at chj
                have HI : Hid (∀ i, i < j + 1 → i ≠ k → b.he k i = true) := fun i hi e => by
                  by_cases x : i = j
                  · subst x; exact hh
                  · exact hI.out i (by omega) e
                clear hI hh
                go_wp2_with fail
                go_roundw
                case rel => exact ⟨j + 1, by go_num, by omega, HI, by trivial⟩
                case measure => simp [intOf]; omega
              | false =>
                rw [hh] at chj
                obtain rfl : r = false := NO.out k hlt (fun x => by have := x.2 j hltj EJ.out; rw [hh] at this; cases this)
                clear hI hh
                go_wp2_with fail
                go_ret
                exact ⟨rfl, HBW.out⟩
          · obtain rfl : n = j := by omega
            have HJ : Hid (∀ i, i < k + 1 → M.Nt1 n b i) := fun i hi => by
              by_cases x : i = k
              · subst x; exact ⟨HE.out, fun j hj e => hI.out j hj e⟩
              · exact hJ.out i (by omega)
            clear hI hJ
            go_wp2_with fail
            go_roundw
            case rel => exact ⟨k + 1, by go_num, by omega, HJ, by trivial⟩
            case measure => simp [intOf]; omega
    · obtain rfl : n = k := by omega
      obtain rfl : r = true := YES.out hJ.out
      clear hJ
      go_wp2_with fail
      go_ret
      exact ⟨rfl, HBW.out⟩
end Go.Proofs.YtplplgpfglaajaaDoor
