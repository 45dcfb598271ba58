/- A WORD IS AN ORDER OF ITS PLACES (law TopFold), the walk. -/
import Derived.Test.YtejnjokjkinpkaaDoorFofc
import Derived.Test.YtejnjokjkinpkaaDoorRefBig
import Derived.Test.YtejnjokjkinpkaaDoorRank
import Derived.Test.YtejnjokjkinpkaaDoorWfs
import Derived.Test.YtejnjokjkinpkaaDoorFrst
namespace Go.Proofs.YtejnjokjkinpkaaDoor
open Go.RowKit
theorem top_F : FOk [2, 1] := fok_of (by decide +kernel)
theorem top_u : WOk [2, 1] [1, 0] := wok_of (by decide +kernel)
theorem top_steps : stR [2, 1] [1, 0] 2 = [3] := by decide +kernel
theorem hasIn1 (w : World) (x : Nat) : HasI (ints [x]) (some ⟨w.heap.size, 0, none⟩) (w.alloc (.cells #[.int .i64 (x : Nat)] 3)) := fun j hj => by
  refine ⟨w.heap.size, 0, rfl, by simp, ?_⟩
  have hj3 : j < 1 := hj
  rcases j with _ | j
  · simp [ints]
  · omega
theorem hasI_H {zs : List Int} {p : Option Addr} {w : World} (h : HasI zs p w) : Has zs p w := h
theorem ah_code {F u : List Nat} (hn : u.length ≤ 12) : code (ints (M.ahR (M.fr F) u)) = 0 := by
  rw [code_ints (M.ahR_ok _ _) (by rw [M.ahR_length]; exact hn)]
  have : ringB (M.ahR (M.fr F) u) = false := by
    cases e : ringB (M.ahR (M.fr F) u) with
    | false => rfl
    | true => exact absurd (ringB_iff.1 e) (M.ahR_ring _ _)
  rw [this]; rfl
/-- the first row of the places -/
def frow (F u : List Nat) : List Nat := M.firstR (M.turned (M.ahR (M.fr F) u))
theorem frow_length (F u : List Nat) : (frow F u).length = u.length := by unfold frow; rw [M.firstR_length, M.turned_length, M.ahR_length]
theorem frow_lin (F u : List Nat) : M.Lin u.length (M.lt (M.clo (M.ahR (M.fr F) u))) (M.left 0) (frow F u) := by
  have hO := M.ahR_ok (M.fr F) u
  have hd := dual_of hO
  have htr := cloTr hO (M.ahR_ring (M.fr F) u)
  have hlz : M.left 0 = fun _ => true := funext fun x => by simp [M.left]
  have hcl : (M.clo (M.ahR (M.fr F) u)).length = u.length := by rw [M.clo_length, M.ahR_length]
  have hcb : M.cb (M.clo (M.ahR (M.fr F) u)).length (M.left 0) = (M.turned (M.ahR (M.fr F) u)).length := by rw [hlz, M.cb_all, hd.1]
  have hg := M.first_goes hd htr (M.turned (M.ahR (M.fr F) u)).length 0 hcb
  rw [← M.firstR_eq] at hg
  have := (M.goes_lin hd htr (frow F u) 0).2 ⟨hg.1, hg.2.trans hcb.symm⟩
  rw [hcl] at this
  exact this
theorem frow_lt {F u : List Nat} {i : Nat} (hi : i < u.length) : M.row (frow F u) i < u.length :=
  (((frow_lin F u).mem _).1 (M.row_mem (by rw [frow_length]; exact hi))).1
theorem frow_eqv {F u : List Nat} (hF : FOk F) : M.Eqv (M.fr F) ((frow F u).map (M.row u)) u := by
  have hl := frow_lin F u
  refine M.eqv_row hF.fr hl.nd (fun x => ?_) (fun x y hx hy hxy hf => ?_)
  · rw [hl.mem]
    exact ⟨fun h => h.1, fun h => ⟨h, by simp [M.left]⟩⟩
  · refine hl.ord x y hx hy ?_
    unfold M.lt
    rw [M.clo_bit]
    exact M.clo_base (M.ahR_bit.2 ⟨hxy, ((hl.mem y).1 hy).1, hf⟩)
theorem frow_ok {F u : List Nat} (hF : FOk F) (hU : WOk F u) : WOk F ((frow F u).map (M.row u)) := by
  have h := frow_eqv (u := u) hF
  exact ⟨by rw [h.length hF.fr]; exact hU.len, fun x hx => hU.lt x ((h.mem hF.fr x).1 hx)⟩
theorem rank_lev {F u : List Nat} (hF : FOk F) (hU : WOk F u) (hn : u.length ≤ 12) {j : Nat} (hj : j < u.length) : M.row (M.ranks (M.turned (M.ahR (M.fr F) u))) j = M.lev (M.fr F) F.length u j :=
  M.lev_rank hF.fr hU.lt hn (turned_tr (M.ahR_ok _ _) (M.ahR_ring _ _)) hj
theorem M.stp_nextT {f : Nat → Nat → Bool} {m : Nat} {w : List Nat} {j : Nat} (hj : j < w.length) : (M.stp f m (w.take (j + 1))).n = max (M.stp f m (w.take j)).n (M.lev f m w j + 1) := by rw [M.take_row hj, M.stp_snoc]; rfl
theorem map_row {l u : List Nat} {i : Nat} (hi : i < l.length) : (l.take (i + 1)).map (M.row u) = (l.take i).map (M.row u) ++ [M.row u (M.row l i)] := by
  rw [M.take_row hi, List.map_append, List.map_cons, List.map_nil]
set_option maxRecDepth 100000 in
set_option maxHeartbeats 16000000 in
theorem tf_walk (zs : List Int) (p : Option Addr) (n cap : Nat) (ws : List Int) (q : Option Addr) (m cap2 : Nat) (w : World) (he : Env w) (hl : zs.length = n) (hmax : n ≤ maxLen) (hc : HasI zs p w) (_ : ∀ k : Nat, zs[k]?.getD 0 < 9223372036854775808) (hl2 : ws.length = m) (hmax2 : m ≤ maxLen) (hd : HasI ws q w) (_ : ∀ k : Nat, ws[k]?.getD 0 < 9223372036854775808) (hcap : m ≤ cap2) (hcmx : cap2 ≤ maxLen) :
    Calls Tryd.prog 8 #[.slice p n cap, .slice q m cap2] w fun e w' => e = .returned (.bool true) ∧ Below w.heap.size w w' := by
  obtain ⟨i0, hi0, hzz⟩ := Option.map_eq_some_iff.1 infoInt
  simp only [Prod.mk.injEq] at hzz
  obtain ⟨hz0, hz1, hz2⟩ := hzz
  obtain ⟨w1, hw1⟩ : ∃ w1, w.alloc (.cells #[.int .i64 2, .int .i64 1] 3) = w1 := ⟨_, rfl⟩
  obtain ⟨w2, hw2⟩ : ∃ w2, w1.alloc (.cells #[.int .i64 1, .int .i64 0] 3) = w2 := ⟨_, rfl⟩
  have hF1 : HasI (ints [2, 1]) (some ⟨w.heap.size, 0, none⟩) w1 := hw1 ▸ hasIn2 w 2 1
  have hu2 : HasI (ints [1, 0]) (some ⟨w1.heap.size, 0, none⟩) w2 := hw2 ▸ hasIn2 w1 1 0
  have hB12 : Below w1.heap.size w1 w2 := hw2 ▸ bel_al (Below.refl _ _) _
  have hB02 : Below w.heap.size w w2 := bel_on (hw1 ▸ bel_al (Below.refl _ _) _) hB12
  have hF2 := hF1.later hB12
  have s1 : w1.heap.size = w.heap.size + 1 := by subst hw1; simp
  rw [s1] at hu2
  clear hF1
  go_enter Tryd.func8, Tryd.ntmps8
  go_wp2_with fail
  refine (fsteps_ok [2, 1] [1, 0] _ 2 2 _ 2 2 _ rfl (he.later hB02) top_F hF2 rfl top_u hu2).mono ?_
  rw [top_steps]
  rintro e w3 ⟨v, rfl, hown, hB3⟩
  obtain ⟨pv, cv, rfl⟩ := owns_slice hown
  have hl3 := hasI_of_owns (m := [3]) rfl hown
  have hC3 := bel_on hB02 hB3
  have hB4 : Below w3.heap.size w3 (w3.alloc (.cells #[.int .i64 3] 3)) := bel_al (Below.refl _ _) _
  have h4 := hasIn1 w3 3
  have hl4 := hl3.later hB4
  have hC4 := bel_on hC3 hB4
  clear hw1 hw2 hown hB12 hF2 hu2
  go_wp2_with fail
  refine (eints_any (ints [3]) (ints [3]) _ _ 1 1 _ _ _ rfl rfl (by unfold maxLen; omega) (by unfold maxLen; omega) hl4 h4).mono ?_
  rw [show (ints [3] == ints [3]) = true by simp]
  rintro e w5 ⟨rfl, hB5⟩
  have hC5 := bel_on hC4 hB5
  clear hl3 hl4 h4 hC3 hC4 hB3 hB4 hB5 hB02 s1
  go_wp2_with fail
  by_cases h0 : wcode zs ws = 0
  · obtain ⟨F, u, rfl, rfl, hF, hU⟩ := wcode_get h0
    rw [ints_length] at hl hl2
    have hm : m ≤ 24 := hl2 ▸ hU.len
    have hn6 := hF.len
    refine (fahead_ok F u p n cap q m cap2 _ hl (he.later hC5) hF (hc.later hC5) hl2 hU (hd.later hC5) hcap hcmx).mono ?_
    rintro e w6 ⟨A, rfl, hrA, hA, hB6⟩
    have hC6 := bel_on hC5 hB6
    clear hmax hmax2 h0 hC5 hB6
    go_wp2_with fail
    refine (fsteps_ok F u p n cap q m cap2 _ hl (he.later hC6) hF (hc.later hC6) hl2 hU (hd.later hC6)).mono ?_
    have hst : stR F u m = M.stL (M.stp (M.fr F) F.length u) := by unfold stR; rw [List.take_of_length_le (by omega)]
    rw [hst, M.stL_length]
    obtain ⟨S, hS⟩ : ∃ S, M.stp (M.fr F) F.length u = S := ⟨_, rfl⟩
    rw [hS]
    have HS : Hid (M.stp (M.fr F) F.length u = S) := hS
    obtain ⟨N, hN⟩ : ∃ N, S.n = N := ⟨_, rfl⟩
    have HN : Hid (S.n = N) := hN
    rw [hN]
    rintro e w7 ⟨v, rfl, hown, hB7⟩
    obtain ⟨pv, cv, rfl⟩ := owns_slice hown
    have hlI := hasI_of_owns (by rw [M.stL_length]; exact hN) hown
    have hC7 := bel_on hC6 hB7
    have hrA7 := hrA.below hB7 hrA.lt
    clear hst hS hN hown hC6 hB7 hrA hA
    by_cases h12 : 12 < m
    · have d12 : decide ((12 : Int) < (m : Int)) = true := decide_eq_true (by omega)
      have d12' : decide (12 < m) = true := decide_eq_true h12
      have HC : Hid (Below w.heap.size w w7) := hC7
      clear hlI hrA7 hC7
      go_wp2_with fail
      go_ret
      exact ⟨rfl, HC.out⟩
    · have d12 : decide ((12 : Int) < (m : Int)) = false := decide_eq_false (by omega)
      have d12' : decide (12 < m) = false := decide_eq_false h12
      have hmm : (m != m) = false := by simp
      have hmm' : ((m : Int) != (m : Int)) = false := by simp
      have hcd := ah_code (F := F) (u := u) (by omega)
      have hal : (ints (M.ahR (M.fr F) u)).length = m := by rw [ints_length, M.ahR_length, hl2]
      have hHa : ∀ W : World, RowAt 3 W A (M.ahR (M.fr F) u) → Has (ints (M.ahR (M.fr F) u)) (some ⟨A, 0, none⟩) W := fun W h => h.has
      have HHA : Hid (∀ W : World, RowAt 3 W A (M.ahR (M.fr F) u) → Has (ints (M.ahR (M.fr F) u)) (some ⟨A, 0, none⟩) W) := hHa
      have HCD : Hid (code (ints (M.ahR (M.fr F) u)) = 0) := hcd
      clear hcd hHa
      go_wp2_with fail
      refine (check_ok (ints (M.ahR (M.fr F) u)) _ m m _ hal (he.later hC7) (by unfold maxLen; omega) (HHA.out _ hrA7) HCD.out).mono ?_
      rintro e w8 ⟨rfl, hB8⟩
      have hC8 := bel_on hC7 hB8
      have hrA8 := hrA7.below hB8 hrA7.lt
      have hl8 := hlI.later hB8
      clear hC7 hrA7 hlI hB8
      go_wp2_with fail
      refine (ranks_ok (ints (M.ahR (M.fr F) u)) _ m m _ hal (he.later hC8) (by unfold maxLen; omega) (HHA.out _ hrA8) HCD.out).mono ?_
      rw [nats_ints]
      rintro e w9 ⟨B, rfl, hrB, hBB, hB9⟩
      have hC9 := bel_on hC8 hB9
      have hrA9 := hrA8.below hB9 hrA8.lt
      have hl9 := hl8.later hB9
      clear hC8 hrA8 hl8 hB9 hBB
      go_wp2_with fail
      refine (first_ok (ints (M.ahR (M.fr F) u)) _ m m _ hal (he.later hC9) (by unfold maxLen; omega) (HHA.out _ hrA9) HCD.out).mono ?_
      rw [nats_ints]
      rintro e wa ⟨C, rfl, hrC, hCC, hBa⟩
      have hCa := bel_on hC9 hBa
      have hrBa := hrB.below hBa hrB.lt
      have hla := hl9.later hBa
      clear hC9 hrA9 hl9 hBa hCC hrB HHA HCD hal
      have hlv := fun j (hj : j < u.length) => rank_lev hF hU (by omega) hj
      have hsn := fun j (hj : j ≤ u.length) => (M.stp_n (f := M.fr F) (m := F.length) (w := u) j hj).1
      have hsl := fun j (hj : j ≤ u.length) => M.stp_n_le (M.fr F) F.length u j hj
      have hsx := fun j (hj : j < u.length) => M.stp_nextT (f := M.fr F) (m := F.length) (w := u) hj
      have hsb := fun k x => M.stp_bit (f := M.fr F) (m := F.length) (w := u) k x u.length (Nat.le_refl _)
      rw [List.take_of_length_le (Nat.le_refl _), HS.out] at hsb
      have hwf := M.stp_wf hF.fr (m := F.length) hU.lt
      rw [HS.out] at hwf
      have hfo := frow_ok hF hU
      have hfe := (sameW_iff hF hfo hU).2 (frow_eqv hF)
      have hfl := frow_length F u
      have hfr := fun i (hi : i < u.length) => frow_lt (F := F) hi
      obtain ⟨G, hG⟩ : ∃ G, M.lev (M.fr F) F.length u = G := ⟨_, rfl⟩
      obtain ⟨Q, hQ⟩ : ∃ Q : Nat → Nat, (fun j => (M.stp (M.fr F) F.length (u.take j)).n) = Q := ⟨_, rfl⟩
      have hQj : ∀ j, (M.stp (M.fr F) F.length (u.take j)).n = Q j := fun j => by rw [← hQ]
      rw [hG] at hlv hsn hsx hsb
      obtain ⟨R, hR⟩ : ∃ R, M.ranks (M.turned (M.ahR (M.fr F) u)) = R := ⟨_, rfl⟩
      rw [hR] at hlv hrBa
      obtain ⟨E, hE⟩ : ∃ E, frow F u = E := ⟨_, rfl⟩
      have hE' : M.firstR (M.turned (M.ahR (M.fr F) u)) = E := hE
      rw [hE'] at hrC
      rw [hE] at hfo hfe hfl hfr
      have HQM : Hid (Q m = N) := by show _ = _; rw [← hQj, List.take_of_length_le (by omega), HS.out]; exact HN.out
      have HLV : Hid (∀ j, j < m → M.row R j = G j) := fun j hj => hlv j (by omega)
      have HGN : Hid (∀ j, j < m → G j < N) := fun j hj => by rw [← HQM.out, ← hQj]; exact hsn m (by omega) j hj
      have HGJ : Hid (∀ j, j < m → G j < j + 1) := fun j hj => by have h1 := hsn (j + 1) (by omega) j (by omega); have h2 := hsl (j + 1) (by omega); omega
      have HQJ : Hid (∀ j, j ≤ m → Q j ≤ j) := fun j hj => by rw [← hQj]; exact hsl j (by omega)
      have HQN : Hid (∀ j, j < m → Q (j + 1) = max (Q j) (G j + 1)) := fun j hj => by rw [← hQj, ← hQj]; exact hsx j (by omega)
      have HQ0 : Hid (Q 0 = 0) := by show _ = _; rw [← hQj]; rfl
      have HSB : Hid (∀ j, j < m → (S.lv (G j)).testBit (M.row u j) = true) := fun j hj => (hsb _ _).2 ⟨j, by omega, rfl, rfl⟩
      have HLT : Hid (∀ k, S.lv k < 64) := fun k => by
        have h1 := M.ins_lt hwf k
        have h2 : 2 ^ F.length ≤ 2 ^ 6 := Nat.pow_le_pow_right (by omega) (by omega)
        omega
      have HRL : Hid (R.length = m) := by show _ = _; rw [← hR, M.ranks_length, M.turned_length, M.ahR_length, hl2]
      have HEL : Hid (E.length = m) := by show _ = _; rw [hfl, hl2]
      have HER : Hid (∀ i, i < m → M.row E i < m) := fun i hi => by rw [← hl2]; exact hfr i (by omega)
      clear hlv hsn hsl hsx hsb hwf hfl hfr hG hQ hQj hR hE hE' HS
      have hown0 : wa.ownsRow wa.heap.size 3 1 (.slice none 0 0) 0 (icells ((E.take 0).map (M.row u))) := ⟨rfl, .inl ⟨rfl, rfl⟩⟩
      go_wp2_with fail
      go_loopw [15, 16, 17] (fun mo sv iv wr => ∃ (i : Nat), iv = .int .i64 i ∧ mo = .int .i64 (Q i : Nat) ∧ i ≤ m ∧ wr.ownsRow wa.heap.size 3 1 sv i (icells ((E.take i).map (M.row u))) ∧ Below wa.heap.size wa wr) (fun _ _ iv _ => m - (intOf iv).toNat)
      case atStart => exact ⟨0, rfl, by rw [HQ0.out]; rfl, Nat.zero_le _, hown0, Below.refl _ _⟩
      case round =>
        clear hown0
        obtain ⟨i, rfl, rfl, hi, hown, hB⟩ := hrel
        obtain ⟨p', c', rfl⟩ := owns_slice hown
        by_cases him : i < m
        · have hrr := hrBa.below hB hrBa.lt
          have hrc := hrC.below hB hrC.lt
          have hrg := hrr.cell (k := i) (by rw [HRL.out]; exact him)
          rw [HLV.out i him] at hrg
          have hrl := hrr.lt
          have hcl := hrc.lt
          have hre := hrc.cell (k := i) (by rw [HEL.out]; exact him)
          have hgn := HGN.out i him
          have hgj := HGJ.out i him
          have her := HER.out i him
          have hsb := HSB.out i him
          have hlt := HLT.out (G i)
          have hqj := HQJ.out i hi
          have hqx := HQN.out i him
          have hCr := bel_on hCa hB
          have hmap := map_row (l := E) (u := u) (i := i) (by rw [HEL.out]; exact him)
          obtain ⟨r, hr⟩ : ∃ r, M.row E i = r := ⟨_, rfl⟩
          rw [hr] at hre her hmap
          obtain ⟨g, hg⟩ : ∃ g, G i = g := ⟨_, rfl⟩
          rw [hg] at hrg hgn hgj hsb hlt hqx
          obtain ⟨bl, ol, rfl, hbl, hcg⟩ := (hla.later hB) g (by rw [ints_length, M.stL_length, HN.out]; exact hgn)
          rw [ints_get, M.stL_row (by rw [HN.out]; exact hgn)] at hcg
          obtain ⟨b, off, rfl, hb, hci⟩ := (hd.later hCr) i (by rw [ints_length]; omega)
          obtain ⟨_, _, e', hb', hcr⟩ := (hd.later hCr) r (by rw [ints_length]; omega)
          cases e'
          rw [ints_get] at hci hcr
          have hxl := hU.row (i := i) (by omega)
          obtain ⟨x, hx⟩ : ∃ x, M.row u i = x := ⟨_, rfl⟩
          rw [hx] at hci hsb hxl
          obtain ⟨y, hy⟩ : ∃ y, M.row u r = y := ⟨_, rfl⟩
          rw [hy] at hcr hmap
          obtain ⟨s, hs⟩ : ∃ s, S.lv g = s := ⟨_, rfl⟩
          rw [hs] at hcg hsb hlt
          have hbit := fun W => bit_big s x W (by omega) (by omega)
          rw [hsb] at hbit
          obtain ⟨qi, hqi⟩ : ∃ qi, Q i = qi := ⟨_, rfl⟩
          rw [hqi] at hqx hqj
          rw [hqi]
          obtain ⟨g1, hg1⟩ : ∃ g1, g + 1 = g1 := ⟨_, rfl⟩
          rw [hg1] at hqx
          have hgadd : (g : Int) + 1 = (g1 : Int) := by omega
          have hgN : (g : Int) < (N : Int) := by omega
          have hrm : (r : Int) < (m : Int) := by omega
          have him' : (i : Int) < (m : Int) := by omega
          have hg24 : g1 ≤ 30 := by omega
          have d0r : decide ((r : Int) < 0) = false := decide_eq_false (by omega)
          have d0g : decide ((g : Int) < 0) = false := decide_eq_false (by omega)
          have dr : decide ((m : Int) ≤ (r : Int)) = false := decide_eq_false (by omega)
          have dr' : decide (m ≤ r) = false := decide_eq_false (by omega)
          have dg : decide ((N : Int) ≤ (g : Int)) = false := decide_eq_false (by omega)
          have dg' : decide (N ≤ g) = false := decide_eq_false (by omega)
          have HMP : Hid ((E.take (i + 1)).map (M.row u) = (E.take i).map (M.row u) ++ [y]) := hmap
          have HB : Hid (Below wa.heap.size wa wr) := hB
          have hbs := hB.size
          clear hr hg hx hy hs hqi hg1 hmap hsb hrr hrc hCr hB
          by_cases hgt : qi < g1
          · have d1 : decide ((qi : Int) < (g1 : Int)) = true := decide_eq_true (by omega)
            have d1' : decide (qi < g1) = true := decide_eq_true hgt
            have HQ1 : Hid (Q (i + 1) = g1) := by show _ = _; omega
            clear hqx hgt
            go_wp2_with fail
            go_big_quiet ((go_at_call 23; exact Calls.quiet_of_same ((hbit _).mono (fun e w' h => ⟨h.1, h.2.symm⟩))))
            go_wp2_with (at_builtin; refine wpList_append_own _ rfl _ _ 22 rfl wa.heap.size 3 i0 (.int .i64 0) 1 8 Tryd.underlying22 hi0 hz0 hz1 hz2 rfl (by decide) _ _ _ rfl ((ownsRow_drN hown _).alloc _) ⟨wr.heap.size, 0, none⟩ 1 1 [.int .i64 (y : Nat)] rfl rfl (cell_one_new _ _ _) (by simp [Value.oneCell']) (by unfold maxLen; omega) (by omega) (by simp; omega) ?_; intro v' w6 hown' hgrow _)
            have hB6 : Below wa.heap.size wa w6 := (bel_al (bel_drN HB.out _) _).grown hgrow (by simp; omega) (fun j e => (hown.lt j e).1)
            first | go_roundw | skip
            case rel => exact ⟨i + 1, by go_num, by rw [HQ1.out], by omega, by rw [HMP.out, icells_snoc]; exact hown', hB6⟩
            case measure => simp [intOf]; omega
          · have d1 : decide ((qi : Int) < (g1 : Int)) = false := decide_eq_false (by omega)
            have d1' : decide (qi < g1) = false := decide_eq_false hgt
            have HQ1 : Hid (Q (i + 1) = qi) := by show _ = _; omega
            clear hqx hgt
            go_wp2_with fail
            go_big_quiet ((go_at_call 23; exact Calls.quiet_of_same ((hbit _).mono (fun e w' h => ⟨h.1, h.2.symm⟩))))
            go_wp2_with (at_builtin; refine wpList_append_own _ rfl _ _ 22 rfl wa.heap.size 3 i0 (.int .i64 0) 1 8 Tryd.underlying22 hi0 hz0 hz1 hz2 rfl (by decide) _ _ _ rfl ((ownsRow_drN hown _).alloc _) ⟨wr.heap.size, 0, none⟩ 1 1 [.int .i64 (y : Nat)] rfl rfl (cell_one_new _ _ _) (by simp [Value.oneCell']) (by unfold maxLen; omega) (by omega) (by simp; omega) ?_; intro v' w6 hown' hgrow _)
            have hB6 : Below wa.heap.size wa w6 := (bel_al (bel_drN HB.out _) _).grown hgrow (by simp; omega) (fun j e => (hown.lt j e).1)
            first | go_roundw | skip
            case rel => exact ⟨i + 1, by go_num, by rw [HQ1.out], by omega, by rw [HMP.out, icells_snoc]; exact hown', hB6⟩
            case measure => simp [intOf]; omega
        · obtain rfl : i = m := by omega
          rw [HQM.out]
          rw [List.take_of_length_le (by rw [HEL.out]; exact Nat.le_refl _)] at hown
          have hel : (E.map (M.row u)).length = i := by rw [List.length_map]; exact HEL.out
          have hUI := hasI_of_owns hel hown
          have hCr := bel_on hCa hB
          have hsam := fsame_ok F (E.map (M.row u)) u p n cap p' i c' q i cap2 _ hl (he.later hCr) hF (hc.later hCr) hel hfo hUI hl2 hU (hd.later hCr)
          rw [hfe] at hsam
          have hNN : ((N : Int) == (N : Int)) = true := by simp
          clear hown hUI hel
          go_wp2_with fail
          refine hsam.mono ?_
          rintro e wb ⟨rfl, hBb⟩
          have HB : Hid (Below _ _ _) := bel_on hCr hBb
          clear hsam hBb
          go_wp2_with fail
          go_ret
          exact ⟨rfl, HB.out⟩
  · obtain ⟨c, hcc⟩ : ∃ c, wcode zs ws = c := ⟨_, rfl⟩
    have hne : c ≠ 0 := by rw [← hcc]; exact h0
    refine (fahead_err zs p n cap ws q m cap2 _ hl (he.later hC5) hmax (hc.later hC5) hl2 hmax2 (hd.later hC5) c hcc hne).mono ?_
    rintro e w6 ⟨rfl, hB6⟩
    have hC6 := bel_on hC5 hB6
    unfold errC
    go_wp2_with fail
    refine (fsteps_err zs p n cap ws q m cap2 _ hl (he.later hC6) hmax (hc.later hC6) hl2 hmax2 (hd.later hC6) c hcc hne).mono ?_
    rintro e w7 ⟨rfl, hB7⟩
    have HB : Hid (Below _ _ _) := bel_on hC6 hB7
    clear h0 hne hcc hC6 hC5 hB6 hB7
    unfold errC
    go_wp2_with fail
    go_ret
    exact ⟨rfl, HB.out⟩
end Go.Proofs.YtejnjokjkinpkaaDoor
