/- Package chain's putFrom: it puts thing by thing into the first row that leaves room for the rest: it comes to what the plain search comes to, and where there is none it leaves the rows as they were; at rows of at most twelve things. It writes into the list of rows and into the list of answers alone. -/
import Derived.Test.YtedmpcadinjjdaaDoorTurn
import Derived.Test.YtedmpcadinjjdaaDoorChn
import Derived.StillTailTactics
namespace Go.Proofs.YtedmpcadinjjdaaDoor
open Go.RowKit

/-- What putFrom finds in memory: the three lists of the receiver at P, of the things that may stand together, of the rows so far, and of the answers so far. -/
structure Places (W : World) (P A R O : Nat) (n most : Nat) (mt rw of_ : List Nat) : Prop where
  box : W.heap[P]? = some (.cells #[.slice (some ⟨A, 0, none⟩) n n, .slice (some ⟨R, 0, none⟩) most most, .slice (some ⟨O, 0, none⟩) n n] 52 (0, 0))
  mate : RowAt 3 W A mt
  rws : RowAt 3 W R rw
  ofs : RowAt 3 W O of_
theorem Places.c0 {W : World} {P A R O n most : Nat} {mt rw of_ : List Nat} (h : Places W P A R O n most mt rw of_) : W.cell? ⟨P, 0, none⟩ = some (.slice (some ⟨A, 0, none⟩) n n) := by simp [World.cell?, h.box]
theorem Places.c1 {W : World} {P A R O n most : Nat} {mt rw of_ : List Nat} (h : Places W P A R O n most mt rw of_) : W.cell? ⟨P, 1, none⟩ = some (.slice (some ⟨R, 0, none⟩) most most) := by simp [World.cell?, h.box]
theorem Places.c2 {W : World} {P A R O n most : Nat} {mt rw of_ : List Nat} (h : Places W P A R O n most mt rw of_) : W.cell? ⟨P, 2, none⟩ = some (.slice (some ⟨O, 0, none⟩) n n) := by simp [World.cell?, h.box]
theorem Places.drew {W : World} {P A R O n most : Nat} {mt rw of_ : List Nat} (h : Places W P A R O n most mt rw of_) : Places W.drew P A R O n most mt rw of_ := ⟨h.box, h.mate, h.rws, h.ofs⟩
theorem Places.setO {W : World} {P A R O n most : Nat} {mt rw of_ : List Nat} (h : Places W P A R O n most mt rw of_) (hpo : P ≠ O) (hao : A ≠ O) (hro : R ≠ O) (i x : Nat) :
    Places (W.setCell ⟨O, i, none⟩ (.int .i64 (x : Nat))) P A R O n most mt rw (of_.set i x) :=
  ⟨(Below.heap_setCell W ⟨O, i, none⟩ _ P hpo).trans h.box, h.mate.other (a := ⟨O, i, none⟩) hao _, h.rws.other (a := ⟨O, i, none⟩) hro _, h.ofs.set i x⟩
theorem Places.setR {W : World} {P A R O n most : Nat} {mt rw of_ : List Nat} (h : Places W P A R O n most mt rw of_) (hpr : P ≠ R) (har : A ≠ R) (hro : R ≠ O) (i x : Nat) :
    Places (W.setCell ⟨R, i, none⟩ (.int .i64 (x : Nat))) P A R O n most mt (rw.set i x) of_ :=
  ⟨(Below.heap_setCell W ⟨R, i, none⟩ _ P hpr).trans h.box, h.mate.other (a := ⟨R, i, none⟩) har _, h.rws.set i x, h.ofs.other (a := ⟨R, i, none⟩) (fun e => hro e.symm) _⟩

theorem andNot_bv (x y : BitVec 64) : x &&& ~~~y = x ^^^ (x &&& y) := by
  ext i hi
  simp
  cases x[i] <;> cases y[i] <;> rfl
theorem i64_andNot_nat (a b : Nat) (ha : a < 65536) (hb : b < 65536) : bits .andNot .i64 (a : Int) (b : Int) = ((a ^^^ (a &&& b) : Nat) : Int) := by
  have hx : a ^^^ (a &&& b) < 2 ^ 16 := Nat.xor_lt_two_pow (by omega) (Nat.and_lt_two_pow _ (by omega))
  show IntKind.i64.wrap ((BitVec.ofInt 64 (a : Int) &&& ~~~BitVec.ofInt 64 (b : Int)).toNat : Int) = _
  rw [andNot_bv, BitVec.toNat_xor, BitVec.toNat_and, ofInt_i64 a ha, ofInt_i64 b hb, i64_wrap_nat _ (by omega)]
theorem sub_zero_iff (a b : Nat) : a ^^^ (a &&& b) = 0 ↔ ∀ j, a.testBit j = true → b.testBit j = true := by
  constructor
  · intro h j ha
    have := congrArg (fun z => Nat.testBit z j) h
    simp only [Nat.testBit_xor, Nat.testBit_and, ha, Nat.zero_testBit] at this
    simpa using this
  · intro h
    apply Nat.eq_of_testBit_eq
    intro j
    rw [Nat.testBit_xor, Nat.testBit_and, Nat.zero_testBit]
    cases ha : a.testBit j with
    | false => rfl
    | true => rw [h j ha]; rfl
theorem take_set_len (l : List Nat) (i x : Nat) (h : i < l.length) : (l.set i x).take (i + 1) = l.take i ++ [x] := by
  rw [List.take_succ_eq_append_getElem (by simpa using h), List.take_set, List.set_eq_of_length_le (by simp; omega)]
  simp
theorem take_take_pre {l t : List Nat} {i x : Nat} (h : l.take (i + 1) = t ++ [x]) (ht : t.length = i) : l.take i = t := by
  have := congrArg (List.take i) h
  rw [List.take_take, Nat.min_eq_left (by omega), List.take_append_of_le_length (by omega)] at this
  rw [this, ← ht, List.take_length]

set_option maxRecDepth 100000 in
set_option maxHeartbeats 2000000 in
theorem putFrom_any (c mt : List Nat) (P A R O n most base : Nat) (hn : n ≤ 12) (hl : mt.length = n) (hm : most ≤ 12) (hbr : base ≤ R) (hbo : base ≤ O) (hpr : P ≠ R) (hpo : P ≠ O) (har : A ≠ R) (hao : A ≠ O) (hro : R ≠ O)
    (hnear : ∀ i j, i < n → j < i → (M.row mt i).testBit j = M.near c i j) (hmt : ∀ i, M.row mt i < 4096) (d : Nat) :
    ∀ (i : Nat) (told of_ : List Nat) (W : World), told.length = i → i + d = n → of_.length = n → of_.take i = told → M.RG told → Places W P A R O n most mt (M.masks told most) of_ →
    Calls Tryd.prog 46 #[.pointer (some ⟨P, 0, none⟩), .int .i64 (i : Nat)] W fun e W' => Below base W W' ∧
      ((∃ r rw2, M.srch c most d told = some r ∧ e = .returned (.bool true) ∧ Places W' P A R O n most mt rw2 r) ∨
       (M.srch c most d told = none ∧ e = .returned (.bool false) ∧ ∃ of2, of2.length = n ∧ of2.take i = told ∧ Places W' P A R O n most mt (M.masks told most) of2)) := by
  induction d with
  | zero =>
    intro i told of_ W hti hlen hol htk hrg hp
    have h0 := hp.c0
    have h1 := hp.c1
    have h2 := hp.c2
    obtain rfl : i = n := by omega
    go_enter Tryd.func46, Tryd.ntmps46
    go_wp2
    go_ret
    have e : of_ = told := by rw [← htk, ← hol, List.take_length]
    rw [e] at hp
    exact ⟨Below.refl _ _, .inl ⟨told, M.masks told most, rfl, rfl, hp⟩⟩
  | succ d ih =>
    intro i told of_ W hti hlen hol htk hrg hp
    have h1 := hp.c1
    have h2 := hp.c2
    have hin : i < n := by omega
    have hne : ((i : Int) == n) = false := by simp; omega
    go_enter Tryd.func46, Tryd.ntmps46
    go_wp2
    go_loopw [19] (fun v wr => ∃ (k : Nat) (of2 : List Nat), v = .int .i64 k ∧ k ≤ most ∧ k ≤ M.nxt told ∧ Hid (∀ j, j < k → M.try1 c most d told j = none) ∧ of2.length = n ∧ Hid (of2.take i = told) ∧ Places wr P A R O n most mt (M.masks told most) of2 ∧ Below base W wr) (fun v _ => most - (intOf v).toNat)
    case atStart => exact ⟨0, of_, rfl, Nat.zero_le _, Nat.zero_le _, (fun j hj => by omega : ∀ j, j < 0 → M.try1 c most d told j = none), hol, htk, hp, Below.refl _ _⟩
    case round =>
      obtain ⟨k, of2, rfl, hkm, hkn, hnone, hol2, htk2, hp2, hB⟩ := hrel
      clear h1 h2 hp
      have h0 := hp2.c0
      have h1 := hp2.c1
      have h2 := hp2.c2
      by_cases hk : k < most
      · have hcr := hp2.rws.cell (k := k) (by rw [M.masks_length]; exact hk)
        rw [M.masks_row _ _ _ hk] at hcr
        have hcm := hp2.mate.cell (k := i) (by omega)
        have hmi := hmt i
        have hpw := pow_lt i (by omega)
        have hzl : M.mask told k < 4096 := by have := M.mask_lt told k; rw [hti] at this; omega
        have hfm : Hid (M.fits c told k = true ↔ ∀ j, (M.mask told k).testBit j = true → (M.row mt i).testBit j = true) := M.fits_mask (fun j hj => by rw [hti] at hj ⊢; exact hnear i j hin hj)
        have hm0 : Hid (M.mask told k = 0 ↔ M.nxt told ≤ k) := M.mask_zero hrg k
        have hset : Hid ((M.masks told most).set k (M.mask told k ||| 1 <<< told.length) = M.masks (told ++ [k]) most) := M.masks_set told most k
        have hback : Hid ((M.masks (told ++ [k]) most).set k (M.mask told k) = M.masks told most) := M.masks_back told most k
        obtain ⟨z, hz⟩ : ∃ z, M.mask told k = z := ⟨_, rfl⟩
        obtain ⟨y, hy⟩ : ∃ y, M.row mt i = y := ⟨_, rfl⟩
        rw [hz] at hcr hzl hfm hm0 hset hback
        rw [hy] at hcm hmi hfm
        clear hz hy
        have han := i64_andNot_nat z y (by omega) (by omega)
        have hsz := sub_zero_iff z y
        obtain ⟨q, hq⟩ : ∃ q, z ^^^ (z &&& y) = q := ⟨_, rfl⟩
        rw [hq] at han hsz
        clear hq
        by_cases hq0 : q = 0
        · subst hq0
          have hf : M.fits c told k = true := hfm.out.2 (hsz.1 rfl)
          have HF : Hid (M.fits c told k = true) := hf
          clear hsz hf
          have hfo := hp2.ofs.frozen i
          have hco := hp2.ofs.cell (k := i) (by omega)
          have hp3 := hp2.setO hpo hao hro i k
          have hB3 := hB.setCell (p := ⟨O, i, none⟩) hbo (.int .i64 (k : Nat))
          obtain ⟨W3, hW3⟩ : ∃ W3, wr.setCell ⟨O, i, none⟩ (.int .i64 (k : Nat)) = W3 := ⟨_, rfl⟩
          rw [hW3] at hp3 hB3
          have h13 := hp3.c1
          have hcr3 := hp3.rws.cell (k := k) (by rw [M.masks_length]; exact hk)
          have hfr3 := hp3.rws.frozen k
          have hsh : IntKind.i64.wrap (2 ^ i) = ((1 <<< i : Nat) : Int) := i64_shl i (by omega)
          have hjp : 1 <<< i < 65536 := by rw [Nat.shiftLeft_eq, Nat.one_mul]; omega
          rw [hti] at hset
          obtain ⟨s, hs⟩ : ∃ s : Nat, 1 <<< i = s := ⟨_, rfl⟩
          rw [hs] at hsh hjp hset
          clear hs
          have hor := i64_or_nat z s (by omega) hjp
          obtain ⟨v, hv⟩ : ∃ v : Nat, z ||| s = v := ⟨_, rfl⟩
          rw [hv] at hor hset
          clear hv
          go_wp2
          go_still_tail 9, (by kernel_rfl)
          have hp4 := (hp3.setR hpr har hro k v).drew
          rw [hset.out] at hp4
          have hB4 := (hB3.setCell (p := ⟨R, k, none⟩) hbr (.int .i64 (v : Nat))).drew
          obtain ⟨W4, hW4⟩ : ∃ W4, (W3.setCell ⟨R, k, none⟩ (.int .i64 (v : Nat))).drew = W4 := ⟨_, rfl⟩
          rw [hW4] at hp4 hB4
          have hih := ih (i + 1) (told ++ [k]) (of2.set i k) W4 (by simp [hti]) (by omega) (by simp [hol2]) (by rw [take_set_len _ _ _ (by omega), htk2.out]) (hrg.snoc hkn) hp4
          have e1 : (((i + 1 : Nat)) : Int) = (i : Int) + 1 := by omega
          rw [e1] at hih
          clear e1
          have HT : Hid (M.try1 c most d told k = M.srch c most d (told ++ [k])) := M.try1_of HF.out
          go_wp2_with fail
          refine hih.mono ?_
          rintro e W5 ⟨hB5, hres⟩
          have hB6 := hB4.trans hB5
          rcases hres with ⟨r, rw2, hr1, rfl, hp5⟩ | ⟨hr1, rfl, of3, hol3, htk3, hp5⟩
          · go_wp2_with fail
            go_ret
            exact ⟨hB6, .inl ⟨r, rw2, M.srch_hit hkn hk hnone.out (by rw [HT.out]; exact hr1), rfl, hp5⟩⟩
          · have h15 := hp5.c1
            have hcr5 := hp5.rws.cell (k := k) (by rw [M.masks_length]; exact hk)
            have hfr5 := hp5.rws.frozen k
            have hp6 := hp5.setR hpr har hro k z
            rw [hback.out] at hp6
            have hB7 := hB6.setCell (p := ⟨R, k, none⟩) hbr (.int .i64 (z : Nat))
            have hnone2 : Hid (∀ j, j < k + 1 → M.try1 c most d told j = none) := (fun j hj => by
              by_cases e : j = k
              · rw [e, HT.out]; exact hr1
              · exact hnone.out j (by omega) : ∀ j, j < k + 1 → M.try1 c most d told j = none)
            have htk4 : Hid (of3.take i = told) := take_take_pre htk3 hti
            by_cases hz0 : z = 0
            · have hnk : M.nxt told ≤ k := hm0.out.1 hz0
              have hz1 : ((z : Int) == 0) = true := by simp; omega
              go_wp2_with fail
              go_ret
              subst hz0
              exact ⟨hB7, .inr ⟨M.srch_miss (fun j hj1 hj2 => hnone2.out j (by omega)), rfl, of3, hol3, htk4.out, hp6⟩⟩
            · have hkn2 : k + 1 ≤ M.nxt told := Nat.lt_of_not_le (fun h => hz0 (hm0.out.2 h))
              have hz1 : ((z : Int) == 0) = false := by simp; omega
              go_wp2_with fail
              go_roundw
              case rel => exact ⟨k + 1, of3, by go_num, by omega, hkn2, hnone2, hol3, htk4, hp6, hB7⟩
              case measure => simp [intOf]; omega
        · have hqn : ((q : Int) != 0) = true := by simp; omega
          have hf : M.fits c told k = false := by
            cases h : M.fits c told k with
            | false => rfl
            | true => exact absurd (hsz.2 (hfm.out.1 h)) hq0
          have hz0 : z ≠ 0 := fun e => hq0 (hsz.2 (fun j hj => by rw [e] at hj; simp at hj))
          have hkn2 : k + 1 ≤ M.nxt told := Nat.lt_of_not_le (fun h => hz0 (hm0.out.2 h))
          clear hsz
          go_wp2
          go_roundw
          case rel => exact ⟨k + 1, of2, by go_num, by omega, hkn2, (fun j hj => by
            by_cases e : j = k
            · rw [e]; exact M.try1_no hf
            · exact hnone.out j (by omega) : ∀ j, j < k + 1 → M.try1 c most d told j = none), hol2, htk2, hp2, hB⟩
          case measure => simp [intOf]; omega
      · go_wp2
        go_ret
        refine ⟨hB, .inr ⟨M.srch_miss (fun j _ hj => hnone.out j (by omega)), rfl, of2, hol2, htk2.out, hp2⟩⟩
end Go.Proofs.YtedmpcadinjjdaaDoor
