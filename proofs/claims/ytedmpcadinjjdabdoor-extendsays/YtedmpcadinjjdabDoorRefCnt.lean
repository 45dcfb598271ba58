/- The document's own count of rows (package whensteadref1, Count): by what may stand last, set by set; at orders of at most twelve things; what lay in memory lies as it lay. -/
import Derived.Test.YtedmpcadinjjdabDoorRefOrd
import Derived.Test.YtedmpcadinjjdabDoorFrst
import Derived.Deep.RegionWith
namespace Go.Proofs.YtedmpcadinjjdabDoor
open Go.RowKit

theorem lastM_cases {c : List Nat} {s i : Nat} : M.lastM c s i = (s.testBit i && (M.row c i &&& s == 0)) := rfl
set_option maxRecDepth 100000 in
set_option maxHeartbeats 4000000 in
theorem rcount_any (m : List Nat) (p : Option Addr) (n cap : Nat) (w : World) (hl : m.length = n) (hm : M.Ok m) (hr : ¬ M.Ring m) (hn : n ≤ 12) (hc : Has (ints m) p w) :
    Calls Tryd.prog 15 #[.slice p n cap] w fun e w' => e = .returned (.int .i64 (M.count (M.clo m) : Nat)) ∧ Below w.heap.size w w' := by
  have hpw := pow_lt n hn
  have hp0 := Nat.two_pow_pos n
  have htr := cloTr hm hr
  have hcl : (M.clo m).length = n := by rw [M.clo_length, hl]
  have hco := M.clo_ok hm
  obtain ⟨q, hq⟩ : ∃ q : Nat, 2 ^ n = q := ⟨_, rfl⟩
  have HQ : Hid (2 ^ n = q) := hq
  rw [hq] at hpw hp0
  clear hq
  have hmk0 := run_make_row' (P := Tryd.prog) 22 3 (.int .i64 0) 8 Tryd.underlying22 Tryd.info3 rfl .i64 .i64 q (by omega) (by omega)
  go_enter Tryd.func15, Tryd.ntmps15
  go_wp2_with fail
  refine (closed_any m p n cap w hl hm hn hc).mono ?_
  rintro e w1 ⟨p1, c1, rfl, hh, hB1⟩
  obtain ⟨c, hcd⟩ : ∃ c, M.clo m = c := ⟨_, rfl⟩
  have HCD : Hid (M.count (M.clo m) = M.count c) := (by rw [hcd] : M.count (M.clo m) = M.count c)
  rw [hcd] at hh htr hcl hco
  clear hcd
  have hcq : Hid (2 ^ c.length = q) := (by rw [hcl]; exact HQ.out : 2 ^ c.length = q)
  have hel : ∀ k j, (M.erow c k j).length = q := fun k j => by rw [M.erow_length, hcq.out]
  have hcb : ∀ i, M.row c i < 4096 := fun i => by have := hco i; rw [hcl, HQ.out] at this; omega
  go_wp2_with fail
  refine (pow2_any n q w1 hn HQ).mono ?_
  rintro e w2 ⟨rfl, rfl⟩
  obtain ⟨wa, hwa⟩ : ∃ wa, w1.alloc (.cells (madeCells #[.int .i64 0] q) 3) = wa := ⟨_, rfl⟩
  have hrowz : RowAt 3 wa w1.heap.size (List.replicate q 0) := by
    rw [← hwa]
    unfold RowAt
    rw [World.alloc_heap_new, made_arr]
  have hBa : Below w1.heap.size w1 wa := by rw [← hwa]; exact (Below.refl _ _).alloc (Nat.le_refl _) _
  have hrow1 : RowAt 3 (wa.setCell ⟨w1.heap.size, 0, none⟩ (.int .i64 (1 : Nat))) w1.heap.size (M.erow c 1 0) := by
    have h := hrowz.set 0 1
    rw [M.erow_start, hcq.out]; exact h
  have hBb : Below w1.heap.size w1 (wa.setCell ⟨w1.heap.size, 0, none⟩ (.int .i64 (1 : Nat))) := hBa.setCell (p := ⟨w1.heap.size, 0, none⟩) (Nat.le_refl _) _
  have hfz := hrowz.frozen 0
  have hc00 := hrowz.cell (k := 0) (by simp; omega)
  go_wp2_with fail
  go_loopw [5] (fun v wr => ∃ k : Nat, v = .int .i64 k ∧ 1 ≤ k ∧ k ≤ q ∧ RowAt 3 wr w1.heap.size (M.erow c k 0) ∧ Below w1.heap.size w1 wr) (fun v _ => q - (intOf v).toNat)
  case atStart => exact ⟨1, rfl, by omega, by omega, hrow1, hBb⟩
  case round =>
    clear hrow1 hBb hrowz hBa hfz hc00 hmk0 hwa wa
    obtain ⟨k, rfl, hk1, hkq, hrow, hB2⟩ := hrel
    by_cases hk : k < q
    · have hk2 : k < 2 ^ c.length := by rw [hcq.out]; exact hk
      have hnext : Hid (M.erow c k n = M.erow c (k + 1) 0) := (by have := M.erow_next htr (by omega) hk2 (by omega); rw [hcl] at this; exact this : M.erow c k n = M.erow c (k + 1) 0)
      go_wp2_with fail
      go_loopw [6] (fun v wr2 => ∃ (j : Nat) (o : List Nat), v = .int .i64 j ∧ j ≤ n ∧ Hid (o = M.erow c k j) ∧ o.length = q ∧ RowAt 3 wr2 w1.heap.size o ∧ Below w1.heap.size w1 wr2) (fun v _ => n - (intOf v).toNat)
      case atStart => exact ⟨0, _, rfl, Nat.zero_le _, (rfl : M.erow c k 0 = M.erow c k 0), hel k 0, hrow, hB2⟩
      case round =>
        clear hrow hB2
        obtain ⟨j, o, rfl, hjn, ho, hol, hrow, hB2⟩ := hrel
        by_cases hj : j < n
        · obtain ⟨b, off, hp1, hb, hcc⟩ := (hh.later hB2) j (by rw [ints_length]; omega)
          subst hp1
          rw [ints_get] at hcc
          have hcj := hcb j
          have h1 := fun W => bit_any k j W (by omega) (by omega)
          have h2 := fun W => both_any (M.row c j) k W hcj (by omega)
          have hput : Hid (M.lastM c k j = true → M.erow c k (j + 1) = o.set k (M.row o k + M.row o (k - 2 ^ j))) := fun h => by rw [ho.out]; exact M.erow_put hk2 h
          have hkeep : Hid (M.lastM c k j = false → M.erow c k (j + 1) = o) := fun h => by rw [ho.out]; exact M.erow_keep h
          have hle : ∀ s, s < q → M.row o s ≤ 479001600 := fun s hs => by rw [ho.out]; exact M.erow_le htr (by omega) (by omega) (by omega) s (by rw [hcq.out]; exact hs)
          have hbl : Hid (k.testBit j = true → 2 ^ j ≤ k) := fun h => M.pow_le_of_bit h
          rw [lastM_cases] at hput hkeep
          obtain ⟨cj, hcjd⟩ : ∃ cj, M.row c j = cj := ⟨_, rfl⟩
          simp only [hcjd] at h2
          rw [hcjd] at hput hkeep hcc
          obtain ⟨ab, habd⟩ : ∃ ab, cj &&& k = ab := ⟨_, rfl⟩
          simp only [habd] at h2
          rw [habd] at hput hkeep
          obtain ⟨g, hgd⟩ : ∃ g, k.testBit j = g := ⟨_, rfl⟩
          simp only [hgd] at h1
          rw [hgd] at hput hkeep hbl
          clear hcjd habd hgd hcj
          cases g with
          | false =>
            have HE := hkeep.out rfl
            have HE2 : Hid (M.erow c k (j + 1) = o) := HE
            clear HE
            go_wp2_with fail
            refine (h1 _).mono ?_
            rintro e w5 ⟨rfl, rfl⟩
            go_wp2_with fail
            go_roundw
            case rel => exact ⟨j + 1, o, by go_num, by omega, (HE2.out.symm : o = _), hol, hrow, hB2⟩
            case measure => simp [intOf]; omega
          | true =>
            by_cases hab : ab = 0
            · have e0 : ((ab : Int) == 0) = true := by simp; omega
              have HE : Hid (M.erow c k (j + 1) = o.set k (M.row o k + M.row o (k - 2 ^ j))) := hput.out (by rw [hab]; rfl)
              have hpj := hbl.out rfl
              have hpj0 := Nat.two_pow_pos j
              clear hab
              obtain ⟨y, hy⟩ : ∃ y : Nat, 2 ^ j = y := ⟨_, rfl⟩
              have h3 := fun W => pow2_any j y W (by omega) hy
              rw [hy] at HE hpj hpj0
              clear hy
              have hk2q : k - y < q := by omega
              have hck := hrow.cell (k := k) (by omega)
              have hck2 := hrow.cell (k := k - y) (by omega)
              have hfk := hrow.frozen k
              have hlk := hle k hk
              have hlk2 := hle (k - y) hk2q
              obtain ⟨a1, ha1⟩ : ∃ a1, M.row o k = a1 := ⟨_, rfl⟩
              obtain ⟨a2, ha2⟩ : ∃ a2, M.row o (k - y) = a2 := ⟨_, rfl⟩
              rw [ha1] at hck hlk HE
              rw [ha2] at hck2 hlk2 HE
              obtain ⟨a3, ha3⟩ : ∃ a3, a1 + a2 = a3 := ⟨_, rfl⟩
              rw [ha3] at HE
              have hs1 : (a1 : Int) + (a2 : Int) = (a3 : Int) := by omega
              have hs2 : IntKind.i64.wrap ((a1 : Int) + (a2 : Int)) = (a3 : Int) := by rw [hs1]; exact i64_wrap_nat a3 (by omega)
              have hs3 : IntKind.i64.wrap (a3 : Int) = (a3 : Int) := i64_wrap_nat a3 (by omega)
              clear ha1 ha2 ha3
              obtain ⟨k2, hk2d⟩ : ∃ k2 : Nat, k - y = k2 := ⟨_, rfl⟩
              have hkk : IntKind.i64.wrap ((k : Int) - (y : Int)) = (k2 : Int) := by rw [← hk2d, show (k : Int) - (y : Int) = ((k - y : Nat) : Int) by omega]; exact i64_wrap_nat _ (by omega)
              have i1 : (0 : Int) ≤ (k2 : Int) := by omega
              have i2 : (k2 : Int) < (q : Int) := by omega
              rw [hk2d] at hck2
              clear hk2d hk2q
              go_wp2_with fail
              refine (h1 _).mono ?_
              rintro e w5 ⟨rfl, rfl⟩
              go_wp2_with fail
              refine (h2 _).mono ?_
              rintro e w5 ⟨rfl, rfl⟩
              go_wp2_with fail
              go_region_with (go_at_call 34; refine (h3 _).mono ?_; rintro e w' ⟨rfl, rfl⟩)
              all_goals
                go_wp2_with fail
                go_roundw
                case rel => exact ⟨j + 1, o.set k a3, by go_num, by omega, (HE.out.symm : o.set k a3 = _), by simp [hol], (hrow.set k a3).drew, (hB2.setCell (p := ⟨w1.heap.size, k, none⟩) (Nat.le_refl _) _).drew⟩
                case measure => simp [intOf]; omega
            · have e0 : ((ab : Int) == 0) = false := by simp; omega
              have HE := hkeep.out (by simp [hab])
              have HE2 : Hid (M.erow c k (j + 1) = o) := HE
              clear hab HE
              go_wp2_with fail
              refine (h1 _).mono ?_
              rintro e w5 ⟨rfl, rfl⟩
              go_wp2_with fail
              refine (h2 _).mono ?_
              rintro e w5 ⟨rfl, rfl⟩
              go_wp2_with fail
              go_roundw
              case rel => exact ⟨j + 1, o, by go_num, by omega, (HE2.out.symm : o = _), hol, hrow, hB2⟩
              case measure => simp [intOf]; omega
        · obtain rfl : j = n := by omega
          go_wp2_with fail
          go_roundw
          case rel => exact ⟨k + 1, by go_num, by omega, by omega, (by rw [← hnext.out, ← ho.out]; exact hrow), hB2⟩
          case measure => simp [intOf]; omega
    · obtain rfl : k = q := by omega
      have hce := hrow.cell (k := k - 1) (by rw [hel]; omega)
      have hee : M.row (M.erow c k 0) (k - 1) = M.count c := by
        have := M.erow_end (c := c) k hcq.out.symm
        rw [hcq.out] at this; exact this
      rw [hee] at hce
      obtain ⟨v, hv⟩ : ∃ v, M.count c = v := ⟨_, rfl⟩
      rw [hv] at hce HCD
      clear hee hv
      have hkm : (k : Int) - 1 = ((k - 1 : Nat) : Int) := by omega
      go_wp2_with fail
      go_ret
      exact ⟨(by rw [HCD.out]; rfl), hB1.trans (hB2.mono hB1.size)⟩
end Go.Proofs.YtedmpcadinjjdabDoor
