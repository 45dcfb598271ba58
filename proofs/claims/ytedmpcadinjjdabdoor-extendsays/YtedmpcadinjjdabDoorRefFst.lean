/- The document's own first row (package whensteadref1, First): at each place the least thing that may come next, tried one by one; at orders of at most twelve things; what lay in memory lies as it lay. -/
import Derived.Test.YtedmpcadinjjdabDoorRefExt
namespace Go.Proofs.YtedmpcadinjjdabDoor
open Go.RowKit

def slen : Value → Nat
  | .slice _ n _ => n
  | _ => 0
theorem owns_slice {w : World} {base n : Nat} {v : Value} {cs : List Value} (h : w.ownsRow base 3 1 v n cs) : ∃ p cap, v = .slice p n cap := by
  rcases h.2 with ⟨rfl, rfl⟩ | ⟨g, cap, cur, rfl, hb, hg, h1, h2, h3, h4⟩
  · exact ⟨_, _, rfl⟩
  · exact ⟨_, cap, rfl⟩
set_option maxRecDepth 100000 in
set_option maxHeartbeats 2000000 in
theorem rfirst_any (m : List Nat) (p : Option Addr) (n cap : Nat) (w : World) (hl : m.length = n) (hm : M.Ok m) (hr : ¬ M.Ring m) (hn : n ≤ 12) (hc : Has (ints m) p w) :
    Calls Tryd.prog 14 #[.slice p n cap] w fun e w' => ∃ q c, e = .returned (.slice q n c) ∧ Has (ints (M.firstR (M.turned m))) q w' ∧ Below w.heap.size w w' := by
  obtain ⟨i0, hi0, hz0, hz1, hz2⟩ := info_parts Tryd.info3
  have hpw := pow_lt n hn
  have htl : (M.turned m).length = n := by rw [M.turned_length, hl]
  have hto := M.turned_ok m
  have hdu := dual_of hm
  have htr := cloTr hm hr
  have hcl : (M.clo m).length = n := by rw [M.clo_length, hl]
  have hlt : ∀ k, k ≤ n → M.stoodN (M.turned m) k < 4096 := fun k hk => by have := M.stood_lt hdu htr k (by omega); rw [hcl] at this; omega
  have hpk : ∀ k, k < n → M.pick (M.turned m) (M.stoodN (M.turned m) k) < n ∧ M.nextB (M.turned m) (M.stoodN (M.turned m) k) (M.pick (M.turned m) (M.stoodN (M.turned m) k)) = true ∧ ∀ j, j < M.pick (M.turned m) (M.stoodN (M.turned m) k) → M.nextB (M.turned m) (M.stoodN (M.turned m) k) j = false := fun k hk => by
    have := M.stood_pick hdu htr (k := k) (by omega); rw [hcl] at this; exact this
  go_enter Tryd.func14, Tryd.ntmps14
  go_wp2_with fail
  refine (rturned_any m p n cap w hl hm hn hc).mono ?_
  rintro e w1 ⟨p1, c1, rfl, hh, hB⟩
  obtain ⟨t, htd⟩ : ∃ t, M.turned m = t := ⟨_, rfl⟩
  have HTD : Hid (M.turned m = t) := htd
  rw [htd] at hh htl hto hlt hpk
  clear htd hdu
  have htb : ∀ i, M.row t i < 65536 := fun i => by have := hto i; rw [htl] at this; omega
  have hfl : (M.firstR t).length = n := by rw [M.firstR_length, htl]
  go_wp2_with fail
  go_loopw [4, 5] (fun dv v wr => ∃ k d : Nat, k ≤ n ∧ dv = .int .i64 d ∧ Hid (d = M.stoodN t k) ∧ wr.ownsRow w1.heap.size 3 1 v k (cellsOf (M.firstR t) k) ∧ Below w1.heap.size w1 wr) (fun _ v _ => n - slen v)
  case atStart => exact ⟨0, 0, Nat.zero_le _, rfl, (rfl : 0 = M.stoodN t 0), World.ownsRow_nil _ _ _ _, Below.refl _ _⟩
  case round =>
    obtain ⟨k, d, hk, rfl, hd, hown, hBr⟩ := hrel
    obtain ⟨pv, cv, rfl⟩ := owns_slice hown
    by_cases hkn : k < n
    · have hd4 : d < 4096 := by rw [hd.out]; exact hlt k hk
      have hst : Hid (M.stoodN t (k + 1) = d ||| 1 <<< M.pick t d) := (by simp only [M.stoodN]; rw [← hd.out] : M.stoodN t (k + 1) = d ||| 1 <<< M.pick t d)
      have hd5 : d ||| 1 <<< M.pick t d < 4096 := by rw [← hst.out]; exact hlt (k + 1) (by omega)
      have hpk1 := hpk k hkn
      rw [← hd.out] at hpk1
      have hfr : Hid (M.row (M.firstR t) k = M.pick t d) := (by rw [M.firstR_row (by omega), ← hd.out] : M.row (M.firstR t) k = M.pick t d)
      obtain ⟨x, hx⟩ : ∃ x, M.pick t d = x := ⟨_, rfl⟩
      rw [hx] at hst hd5 hpk1 hfr
      clear hx
      obtain ⟨hxn, hxt, hxm⟩ := hpk1
      have hxm' : Hid (∀ j, j < x → M.nextB t d j = false) := hxm
      have hxt' : Hid (M.nextB t d x = true) := hxt
      have hor := M.orPow (M.next_not hxt)
      clear hxm hxt
      have hhr := hh.later hBr
      go_wp2_with fail
      go_loop [6] (fun v => ∃ i : Nat, v = .int .i64 i ∧ i ≤ x) (fun v => x - (intOf v).toNat)
      case atStart => exact ⟨0, rfl, Nat.zero_le _⟩
      case round =>
        obtain ⟨i, rfl, hix⟩ := hrel
        obtain ⟨b2, off2, hp1, hb2, hcell2⟩ := hhr i (by rw [ints_length]; omega)
        rw [ints_get] at hcell2
        subst hp1
        have hri := htb i
        have h1 := fun W => bit_any d i W (by omega) (by omega)
        have h2 := fun W => within_any (M.row t i) d W hri (by omega)
        have hnb : Hid (M.nextB t d i = (!d.testBit i && M.subB (M.row t i) d)) := (rfl : M.nextB t d i = (!d.testBit i && M.subB (M.row t i) d))
        obtain ⟨r, hrr⟩ : ∃ r, M.row t i = r := ⟨_, rfl⟩
        obtain ⟨u, hu⟩ : ∃ u, M.subB (M.row t i) d = u := ⟨_, rfl⟩
        obtain ⟨g, hgd⟩ : ∃ g, d.testBit i = g := ⟨_, rfl⟩
        simp only [hgd] at h1
        simp only [hu] at h2
        simp only [hrr] at h2
        rw [hgd, hu] at hnb
        rw [hrr] at hcell2 hri
        clear hrr hu hgd
        by_cases hlt2 : i < x
        · have hfalse := hxm'.out i hlt2
          rw [hnb.out] at hfalse
          cases g with
          | true =>
            clear hfalse
            go_wp2_with fail
            refine (h1 _).mono ?_
            rintro e w5 ⟨rfl, rfl⟩
            go_wp2_with fail
            go_round
            case rel => exact ⟨i + 1, by go_num, by omega⟩
            case measure => simp [intOf]; omega
          | false =>
            cases u with
            | true => cases hfalse
            | false =>
              clear hfalse
              go_wp2_with fail
              refine (h1 _).mono ?_
              rintro e w5 ⟨rfl, rfl⟩
              go_wp2_with fail
              refine (h2 _).mono ?_
              rintro e w5 ⟨rfl, rfl⟩
              go_wp2_with fail
              go_round
              case rel => exact ⟨i + 1, by go_num, by omega⟩
              case measure => simp [intOf]; omega
        · obtain rfl : i = x := by omega
          have htrue := hxt'.out
          rw [hnb.out] at htrue
          cases g with
          | true => cases htrue
          | false =>
            cases u with
            | false => cases htrue
            | true =>
              clear htrue
              rw [hor] at hst hd5
              obtain ⟨y, hy⟩ : ∃ y : Nat, 2 ^ i = y := ⟨_, rfl⟩
              have h3 := fun W => pow2_any i y W (by omega) hy
              rw [hy] at hst hd5
              clear hy hor
              obtain ⟨z, hzd⟩ : ∃ z : Nat, d + y = z := ⟨_, rfl⟩
              rw [hzd] at hst hd5
              have hx1 : (d : Int) + (y : Int) = (z : Int) := by omega
              have hx2 : IntKind.i64.wrap ((d : Int) + (y : Int)) = (z : Int) := by rw [hx1]; exact i64_wrap_nat z (by omega)
              have hx3 : IntKind.i64.wrap (z : Int) = (z : Int) := i64_wrap_nat z (by omega)
              clear hzd
              go_wp2_with fail
              refine (h1 _).mono ?_
              rintro e w5 ⟨rfl, rfl⟩
              go_wp2_with fail
              refine (h2 _).mono ?_
              rintro e w5 ⟨rfl, rfl⟩
              go_wp2_with fail
              refine (h3 _).mono ?_
              rintro e w5 ⟨rfl, rfl⟩
              go_wp2_with (at_builtin; refine wpList_append_own _ rfl _ _ 22 rfl w1.heap.size 3 i0 (.int .i64 0) 1 8 Tryd.underlying22 hi0 hz0 hz1 hz2 rfl (by decide) _ _ _ rfl (hown.alloc _) ⟨wr.heap.size, 0, none⟩ 1 1 [.int .i64 (i : Nat)] rfl rfl (cell_one_new _ _ _) (by simp [Value.oneCell']) (by unfold maxLen; omega) (by omega) (by have := hBr.size; simp; omega) ?_; intro v' w2 hown' hgrow _)
              have hcs : Hid (cellsOf (M.firstR t) (k + 1) = cellsOf (M.firstR t) k ++ [.int .i64 (i : Nat)]) := by show _ = _; rw [cellsOf_succ _ _ (by omega), hfr.out]
              have hB2 : Below w1.heap.size w1 w2 := (hBr.alloc hBr.size _).grown hgrow (by have := hBr.size; simp; omega) (fun j e => (hown.lt j e).1)
              first | go_roundw | skip
              case rel => exact ⟨k + 1, z, by omega, by go_num, (hst.out.symm : z = _), by rw [hcs.out]; exact hown', hB2⟩
              case measure =>
                obtain ⟨pv', cv', rfl⟩ := owns_slice hown'
                simp [slen]; omega
    · obtain rfl : k = n := by omega
      obtain ⟨pq, cq, he, hh2⟩ := has_of_owns hfl hown
      cases he
      go_wp2_with fail
      go_ret
      exact ⟨_, _, rfl, (by rw [HTD.out]; exact hh2), hB.trans (hBr.mono hB.size)⟩
end Go.Proofs.YtedmpcadinjjdabDoor
