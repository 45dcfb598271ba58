/- What is wrong with a word of letters, and where the least letter stands that may come first (package fold, checkWord, mayPass, leastFirst); what lay in memory lies as it lay. -/
import Derived.Test.YtejnjokjkinpkaaDoorFo1
namespace Go.Proofs.YtejnjokjkinpkaaDoor
open Go.RowKit

set_option maxRecDepth 100000 in
set_option maxHeartbeats 4000000 in
theorem cword_any (zs : List Int) (p : Option Addr) (n cap : Nat) (ws : List Int) (q : Option Addr) (m cap2 : Nat) (w : World) (hl : zs.length = n) (he : Env w) (hmax : n ≤ maxLen) (hc : HasI zs p w) (hl2 : ws.length = m) (hmax2 : m ≤ maxLen) (hd : HasI ws q w) :
    Calls Tryd.prog 45 #[.slice p n cap, .slice q m cap2] w fun e w' => e = .returned (terr (wcode zs ws)) ∧ Below w.heap.size w w' := by
  go_enter Tryd.func45, Tryd.ntmps45
  go_wp2_with fail
  refine (fcheck_any zs p n cap _ hl he hmax hc).mono ?_
  unfold maxLen at hmax hmax2
  rintro e w1 ⟨rfl, hB1⟩
  by_cases h0 : frcode zs = 0
  · rw [h0, terr_zero]
    by_cases h24 : 24 < m
    · have HC : Hid (wcode zs ws = 4) := wcode_full h0 (by omega)
      have hd4 : decide ((24 : Int) < (m : Int)) = true := decide_eq_true (by omega)
      clear h0
      go_wp2_with fail
      go_ret
      exact ⟨by rw [HC.out]; rfl, hB1⟩
    · have hd4 : decide ((24 : Int) < (m : Int)) = false := decide_eq_false (by omega)
      have H0 : Hid (frcode zs = 0) := h0
      have hm : m ≤ 24 := by omega
      clear h0 h24
      go_wp2_with fail
      go_loopw [19] (fun v wr => ∃ i : Nat, v = .int .i64 i ∧ i ≤ m ∧ Hid (∀ j, j < i → thingB (ws[j]?.getD 0) n = true) ∧ wr = w1) (fun v _ => m - (intOf v).toNat)
      case atStart => exact ⟨0, rfl, Nat.zero_le _, show ∀ j, j < 0 → _ from fun j hj => absurd hj (Nat.not_lt_zero _), rfl⟩
      case round =>
        obtain ⟨i, rfl, hi, hJ, rfl⟩ := hrel
        by_cases hlt : i < m
        · obtain ⟨b, off, rfl, hb, hcz⟩ := (hd.later hB1) i (by omega)
          obtain ⟨z, hz⟩ : ∃ z, ws[i]?.getD 0 = z := ⟨_, rfl⟩
          rw [hz] at hcz
          have HZ : Hid (ws[i]?.getD 0 = z) := hz
          clear hz
          have his := fun W => isThing_any z n W
          cases hs : thingB z n with
          | false =>
            rw [hs] at his
            have HC : Hid (wcode zs ws = 1) := wcode_range H0.out (by omega) (allT_not (k := i) (by omega) (by rw [HZ.out, hl]; exact hs))
            clear hs
            go_wp2_with fail
            refine (his _).mono ?_
            rintro e w2 ⟨rfl, rfl⟩
            go_wp2_with fail
            go_ret
            exact ⟨by rw [HC.out]; rfl, hB1⟩
          | true =>
            rw [hs] at his
            have HJ : Hid (∀ j, j < i + 1 → thingB (ws[j]?.getD 0) n = true) := fun j hj => by
              by_cases e : j = i
              · subst e; rw [HZ.out]; exact hs
              · exact hJ.out j (by omega)
            clear hs
            go_wp2_with fail
            refine (his _).mono ?_
            rintro e w2 ⟨rfl, rfl⟩
            go_wp2_with fail
            go_roundw
            case rel => exact ⟨i + 1, by go_num, by omega, HJ, trivial⟩
            case measure => simp [intOf]; omega
        · obtain rfl : i = m := by omega
          have HC : Hid (wcode zs ws = 0) := wcode_none H0.out (by omega) (allT_iff.2 (by rw [hl2, hl]; exact hJ.out))
          go_wp2_with fail
          go_ret
          exact ⟨by rw [HC.out]; rfl, hB1⟩
  · have HC : Hid (wcode zs ws = frcode zs) := wcode_letters h0
    rw [terr_ne h0]
    obtain ⟨c, hcc⟩ : ∃ c, frcode zs = c := ⟨_, rfl⟩
    rw [hcc]
    rw [hcc] at HC h0
    have HN : Hid (c ≠ 0) := h0
    clear h0 hcc
    go_wp2_with fail
    go_ret
    exact ⟨by rw [HC.out, terr_ne HN.out]; rfl, hB1⟩

theorem i64_andNot_b (a b : Nat) (ha : a < 65536) (hb : b < 65536) : ∃ r : Nat, bits .andNot .i64 (a : Int) (b : Int) = (r : Int) ∧ r ≤ a ∧ ∀ j, r.testBit j = (a.testBit j && !b.testBit j) := by
  obtain ⟨r, hr⟩ : ∃ r : Nat, (BitVec.ofInt 64 (a : Int) &&& ~~~BitVec.ofInt 64 (b : Int)).toNat = r := ⟨_, rfl⟩
  have hle : r ≤ a := by
    rw [← hr, BitVec.toNat_and, ofInt_i64 a ha]
    exact Nat.and_le_left
  have hbit : ∀ j, r.testBit j = (a.testBit j && !b.testBit j) := fun j => by
    rw [← hr, BitVec.toNat_and, BitVec.toNat_not, Nat.testBit_and, ofInt_i64 a ha, ofInt_i64 b hb]
    by_cases hj : j < 64
    · rw [show (2 ^ 64 - 1 - b) = 2 ^ 64 - (b + 1) by omega, Nat.testBit_two_pow_sub_succ (by omega)]
      simp [hj]
    · have : a.testBit j = false := Nat.testBit_lt_two_pow (Nat.lt_of_lt_of_le ha (Nat.pow_le_pow_right (n := 2) (by omega) (by omega : 16 ≤ j)))
      rw [this]; simp
  refine ⟨r, ?_, hle, hbit⟩
  show IntKind.i64.wrap ((BitVec.ofInt 64 (a : Int) &&& ~~~BitVec.ofInt 64 (b : Int)).toNat : Int) = _
  rw [hr, i64_wrap_nat _ (by omega)]
/-- may a letter change places with all of a set? -/
def passB (F : List Nat) (c s : Nat) : Bool := (List.range 64).all fun x => !s.testBit x || (M.row F c).testBit x
theorem passB_iff {F : List Nat} {c s : Nat} (hs : s < 64) : passB F c s = true ↔ ∀ x, s.testBit x = true → (M.row F c).testBit x = true := by
  unfold passB
  rw [List.all_eq_true]
  constructor
  · intro h x hx
    have := M.lt_of_testBit (n := 6) (by omega) hx
    have := h x (List.mem_range.2 (by omega))
    rw [hx] at this
    simpa using this
  · intro h x _
    cases hx : s.testBit x with
    | false => rfl
    | true => rw [h x hx]; rfl
set_option maxHeartbeats 1000000 in
theorem pass_ok (F : List Nat) (c s : Nat) (p : Option Addr) (n cap : Nat) (w : World) (hl : F.length = n) (hF : FOk F) (hs : s < 64) (hcn : c < n) (hc : HasI (ints F) p w) :
    Calls Tryd.prog 46 #[.slice p n cap, .int .i64 (c : Nat), .int .i64 (s : Nat)] w fun e w' => e = .returned (.bool (passB F c s)) ∧ w = w' := by
  obtain ⟨b, off, rfl, hb, hcz⟩ := hc c (by rw [ints_length]; omega)
  rw [ints_get] at hcz
  have hrk := hF.lt c
  obtain ⟨r, hr1, hr2, hr3⟩ := i64_andNot_b s (M.row F c) (by omega) (by omega)
  have HR : Hid (((r : Int) == 0) = passB F c s) := by
    show _ = _
    rw [Bool.eq_iff_iff, passB_iff hs]
    constructor
    · intro h x hx
      have h0 : r = 0 := by simpa using h
      have := hr3 x
      rw [h0, hx] at this
      simpa using this
    · intro h
      have : r = 0 := by
        apply Nat.eq_of_testBit_eq
        intro j
        rw [hr3]
        cases hj : s.testBit j with
        | false => simp
        | true => rw [h j hj]; simp
      simp [this]
  obtain ⟨y, hy⟩ : ∃ y, M.row F c = y := ⟨_, rfl⟩
  rw [hy] at hcz hr1
  clear hr3 hy
  have hci : (c : Int) < (n : Int) := by omega
  have hnm := hF.len
  go_enter Tryd.func46, Tryd.ntmps46
  go_wp2_with fail
  go_ret
  exact ⟨bool_ret HR.out, rfl⟩

namespace M
theorem pas_pass {F u : List Nat} {i : Nat} (hs : ahd u i < 64) : passB F (row u i) (ahd u i) = true ↔ pas F u i := by rw [passB_iff hs, pas_iff]
theorem lat_take {F u : List Nat} {i : Nat} (h : row u i < row u (lat F u i)) (hp : pas F u i) : lat F u (i + 1) = i := by simp only [lat]; exact if_pos ⟨h, hp⟩
theorem lat_skip {F u : List Nat} {i : Nat} (h : ¬ (row u i < row u (lat F u i) ∧ pas F u i)) : lat F u (i + 1) = lat F u i := by simp only [lat]; exact if_neg h
end M
set_option maxRecDepth 100000 in
set_option maxHeartbeats 4000000 in
theorem lfirst_ok (F u : List Nat) (p : Option Addr) (n cap : Nat) (q : Option Addr) (m cap2 : Nat) (w : World) (hl : F.length = n) (hF : FOk F) (hc : HasI (ints F) p w) (hl2 : u.length = m) (hm : m ≤ 24) (h0 : 0 < m) (hu : ∀ x, x ∈ u → x < n) (hd : HasI (ints u) q w) :
    Calls Tryd.prog 60 #[.slice p n cap, .slice q m cap2] w fun e w' => e = .returned (.int .i64 (M.lat F u m : Nat)) ∧ w = w' := by
  have hru : ∀ i, i < m → M.row u i < n := fun i hi => hu _ (M.row_mem (by omega))
  have hn6 := hF.len
  have hal : ∀ i, i ≤ m → M.ahd u i < 64 := fun i hi => by
    have h1 := M.ahd_lt (u := u) (n := n) (i := i) (fun j hj => hru j (by omega))
    have h2 : 2 ^ n ≤ 2 ^ 6 := Nat.pow_le_pow_right (by omega) (by omega)
    omega
  go_enter Tryd.func60, Tryd.ntmps60
  go_wp2_with fail
  go_loopw [5, 6, 11] (fun a s v wr => ∃ i at' ah : Nat, v = .int .i64 i ∧ a = .int .i64 at' ∧ s = .int .i64 ah ∧ i ≤ m ∧ Hid (M.lat F u i = at') ∧ at' ≤ i - 1 ∧ Hid (M.ahd u i = ah) ∧ ah < 64 ∧ wr = w) (fun _ _ v _ => m - (intOf v).toNat)
  case atStart => exact ⟨0, 0, 0, rfl, rfl, rfl, Nat.zero_le _, (rfl : M.lat F u 0 = 0), Nat.zero_le _, (rfl : M.ahd u 0 = 0), by omega, rfl⟩
  case round =>
    obtain ⟨i, t, ah, rfl, rfl, rfl, hi, hT, hti, hA, ha6, rfl⟩ := hrel
    by_cases hlt : i < m
    · obtain ⟨b, off, rfl, hb, hcz⟩ := hd i (by rw [ints_length]; omega)
      obtain ⟨b', off', e', hb', hct⟩ := hd t (by rw [ints_length]; omega)
      cases e'
      rw [ints_get] at hcz hct
      have hri := hru i hlt
      have hrt := hru t (by omega)
      have hpp := M.pas_pass (F := F) (hal i hi)
      have htk := @M.lat_take F u i
      have hsk := @M.lat_skip F u i
      have hah : M.ahd u (i + 1) = ah ||| 1 <<< M.row u i := by simp only [M.ahd]; rw [hA.out]
      have hal1 := hal (i + 1) (by omega)
      rw [hA.out] at hpp
      rw [hT.out] at htk hsk
      obtain ⟨c, hcc⟩ : ∃ c, M.row u i = c := ⟨_, rfl⟩
      obtain ⟨d, hdd⟩ : ∃ d, M.row u t = d := ⟨_, rfl⟩
      rw [hcc] at hcz hri hpp htk hsk hah
      rw [hdd] at hct hrt htk hsk
      have hpo := fun W h => pass_ok F c ah p n cap W hl hF ha6 hri h
      have hsh : IntKind.i64.wrap (2 ^ c) = ((1 <<< c : Nat) : Int) := i64_shl_big c (by omega)
      have hjp : 1 <<< c < 65536 := by rw [Nat.shiftLeft_eq, Nat.one_mul]; have := pow_lt c (by omega); omega
      have hor := i64_or_nat ah (1 <<< c) (by omega) hjp
      rw [← hah] at hor
      obtain ⟨y, hy⟩ : ∃ y : Nat, 1 <<< c = y := ⟨_, rfl⟩
      rw [hy] at hsh hor
      obtain ⟨z, hz⟩ : ∃ z : Nat, M.ahd u (i + 1) = z := ⟨_, rfl⟩
      rw [hz] at hor hal1
      have HZ : Hid (M.ahd u (i + 1) = z) := hz
      clear hz hy hah hcc hdd hjp hal hru hu hA
      have hcn : (c : Int) < 64 := by omega
      by_cases hcd : c < d
      · have hg : decide ((c : Int) < (d : Int)) = true := decide_eq_true (by omega)
        have hg' : decide (c < d) = true := decide_eq_true hcd
        cases hps : passB F c ah with
        | true =>
          have HT : Hid (M.lat F u (i + 1) = i) := htk hcd (hpp.1 hps)
          rw [hps] at hpo
          clear htk hsk hpp hps hcd
          go_wp2_with fail
          refine (hpo _ hc).mono ?_
          rintro e w2 ⟨rfl, rfl⟩
          go_wp2_with fail
          go_roundw
          case rel => exact ⟨i + 1, i, z, by go_num, rfl, rfl, by omega, HT, by omega, HZ, by omega, trivial⟩
          case measure => simp [intOf]; omega
        | false =>
          have HT : Hid (M.lat F u (i + 1) = t) := hsk (fun h => by have := hpp.2 h.2; rw [hps] at this; cases this)
          rw [hps] at hpo
          clear htk hsk hpp hps hcd
          go_wp2_with fail
          refine (hpo _ hc).mono ?_
          rintro e w2 ⟨rfl, rfl⟩
          go_wp2_with fail
          go_roundw
          case rel => exact ⟨i + 1, t, z, by go_num, rfl, rfl, by omega, HT, by omega, HZ, by omega, trivial⟩
          case measure => simp [intOf]; omega
      · have hg : decide ((c : Int) < (d : Int)) = false := decide_eq_false (by omega)
        have hg' : decide (c < d) = false := decide_eq_false hcd
        have HT : Hid (M.lat F u (i + 1) = t) := hsk (fun h => hcd h.1)
        clear htk hsk hpp hcd
        go_wp2_with fail
        go_roundw
        case rel => exact ⟨i + 1, t, z, by go_num, rfl, rfl, by omega, HT, by omega, HZ, by omega, trivial⟩
        case measure => simp [intOf]; omega
    · obtain rfl : i = m := by omega
      go_wp2_with fail
      go_ret
      exact ⟨by rw [hT.out]; rfl, rfl⟩
end Go.Proofs.YtejnjokjkinpkaaDoor
