/- The document's own answers on closed sets (package whensteadref1): what a set closes to (Down), how many closed sets there are, counted by sets side by side (Downs), and the last things of a set (Last); at orders of at most twelve things; what lay in memory lies as it lay. -/
import Derived.Test.YtejnjokjkinpkaaDoorRefSide
import Derived.Test.YtejnjokjkinpkaaDoorRefOrd
import Derived.Test.YtejnjokjkinpkaaDoorDmt
namespace Go.Proofs.YtejnjokjkinpkaaDoor
open Go.RowKit

set_option maxHeartbeats 1000000 in
theorem rdown_any (m : List Nat) (s : Nat) (p : Option Addr) (n cap : Nat) (w : World) (hl : m.length = n) (hm : M.Ok m) (hn : n ≤ 12) (hs : s < 2 ^ n) (hc : Has (ints m) p w) :
    Calls Tryd.prog 14 #[.slice p n cap, .int .i64 (s : Nat)] w fun e w' => e = .returned (.int .i64 (M.down (M.turned m) s : Nat)) ∧ Below w.heap.size w w' := by
  have hpw := pow_lt n hn
  have htl : (M.turned m).length = n := by rw [M.turned_length, hl]
  have hto := M.turned_ok m
  have hlt : ∀ k, M.downTo (M.turned m) s k < 4096 := fun k => by have := M.downTo_lt hto (s := s) (by rw [htl]; exact hs) k; rw [htl] at this; omega
  have hrb : ∀ k, M.row (M.turned m) k < 4096 := fun k => by have := hto k; rw [htl] at this; omega
  have hend : Hid (M.down (M.turned m) s = M.downTo (M.turned m) s n) := (by unfold M.down; rw [htl] : M.down (M.turned m) s = M.downTo (M.turned m) s n)
  have hs4 : s < 4096 := by omega
  clear hpw hs
  go_enter Tryd.func14, Tryd.ntmps14
  go_wp2_with fail
  refine (rturned_any m p n cap w hl hm hn hc).mono ?_
  rintro e w1 ⟨p1, c1, rfl, hh, hB⟩
  obtain ⟨v, hv⟩ : ∃ v, M.down (M.turned m) s = v := ⟨_, rfl⟩
  have HV : Hid (M.down (M.turned m) s = v) := hv
  rw [hv] at hend
  clear hv
  obtain ⟨t, ht⟩ : ∃ t, M.turned m = t := ⟨_, rfl⟩
  rw [ht] at hlt hrb hend hh htl
  clear ht hto
  go_wp2_with fail
  go_loop [6, 7] (fun o v => ∃ i z : Nat, v = .int .i64 i ∧ o = .int .i64 z ∧ i ≤ n ∧ z < 4096 ∧ Hid (z = M.downTo t s i)) (fun _ v => n - (intOf v).toNat)
  case atStart => exact ⟨0, s, rfl, rfl, Nat.zero_le _, hs4, (rfl : s = M.downTo t s 0)⟩
  case round =>
    obtain ⟨i, z, rfl, rfl, hi, hz4, hz⟩ := hrel
    by_cases hin : i < n
    · obtain ⟨b, off, rfl, hb, hcell⟩ := hh i (by rw [ints_length, htl]; exact hin)
      rw [ints_get] at hcell
      have hb1 := bit_any s i w1 (by omega) (by omega)
      have hei := either_any z (M.row t i) w1 hz4 (hrb i)
      have hnx : Hid (M.downTo t s (i + 1) = if s.testBit i then z ||| M.row t i else z) := (by rw [hz.out]; rfl : M.downTo t s (i + 1) = if s.testBit i then z ||| M.row t i else z)
      have hl1 := hlt (i + 1)
      rw [hnx.out] at hl1
      obtain ⟨y, hy⟩ : ∃ y, M.row t i = y := ⟨_, rfl⟩
      rw [hy] at hcell hei hnx hl1
      obtain ⟨o, ho⟩ : ∃ o, z ||| y = o := ⟨_, rfl⟩
      rw [ho] at hei hnx hl1
      obtain ⟨bb, hbb⟩ : ∃ bb, s.testBit i = bb := ⟨_, rfl⟩
      rw [hbb] at hb1 hnx hl1
      clear hy ho hbb hh
      cases bb with
      | false =>
        go_wp2_with fail
        refine hb1.mono ?_
        rintro e w5 ⟨rfl, rfl⟩
        go_wp2_with fail
        go_round
        case rel => exact ⟨i + 1, z, by go_num, rfl, by omega, hz4, (by rw [hnx.out]; rfl : z = M.downTo t s (i + 1))⟩
        case measure => simp [intOf]; omega
      | true =>
        have hl2 : o < 4096 := hl1
        go_wp2_with fail
        refine hb1.mono ?_
        rintro e w5 ⟨rfl, rfl⟩
        go_wp2_with fail
        refine hei.mono ?_
        rintro e w5 ⟨rfl, rfl⟩
        go_wp2_with fail
        go_round
        case rel => exact ⟨i + 1, o, by go_num, rfl, by omega, hl2, (by rw [hnx.out]; rfl : o = M.downTo t s (i + 1))⟩
        case measure => simp [intOf]; omega
    · obtain rfl : i = n := by omega
      go_wp2_with fail
      go_ret
      exact ⟨(by rw [HV.out, hend.out, ← hz.out]; rfl), hB⟩

set_option maxHeartbeats 1000000 in
theorem rdowns_any (m : List Nat) (p : Option Addr) (n cap : Nat) (w : World) (hl : m.length = n) (hm : M.Ok m) (hn : n ≤ 12) (hc : Has (ints m) p w) :
    Calls Tryd.prog 10 #[.slice p n cap] w fun e w' => e = .returned (.int .i64 (M.sides (M.clo m) : Nat)) ∧ Below w.heap.size w w' := by
  have hpw := pow_lt n hn
  have hcl : (M.clo m).length = n := by rw [M.clo_length, hl]
  have hend : Hid (M.sides (M.clo m) = M.cb (2 ^ n) (M.side (M.clo m))) := (by unfold M.sides; rw [hcl] : M.sides (M.clo m) = M.cb (2 ^ n) (M.side (M.clo m)))
  obtain ⟨q, hq⟩ : ∃ q : Nat, 2 ^ n = q := ⟨_, rfl⟩
  have HQ : Hid (2 ^ n = q) := hq
  rw [hq] at hpw hend
  clear hq
  go_enter Tryd.func10, Tryd.ntmps10
  go_wp2_with fail
  refine (closed_any m p n cap w hl hm hn hc).mono ?_
  rintro e w1 ⟨p1, c1, rfl, hh, hB⟩
  go_wp2_with fail
  go_loop [4, 5] (fun o v => ∃ i c : Nat, v = .int .i64 i ∧ o = .int .i64 c ∧ i ≤ q ∧ c ≤ i ∧ Hid (c = M.cb i (M.side (M.clo m)))) (fun _ v => q - (intOf v).toNat)
  case atStart => exact ⟨0, 0, rfl, rfl, Nat.zero_le _, Nat.le_refl _, (rfl : 0 = M.cb 0 (M.side (M.clo m)))⟩
  case round =>
    obtain ⟨i, c, rfl, rfl, hi, hci, hcd⟩ := hrel
    have hpow := pow2_any n q w1 hn HQ
    by_cases hiq : i < q
    · have h3 := rside_any (M.clo m) i p1 n c1 w1 hcl hn (M.clo_ok hm) (by rw [HQ.out]; exact hiq) hh
      have hstep : Hid (M.cb (i + 1) (M.side (M.clo m)) = c + (if M.side (M.clo m) i then 1 else 0)) := (by rw [hcd.out]; simp only [M.cb] : M.cb (i + 1) (M.side (M.clo m)) = c + (if M.side (M.clo m) i then 1 else 0))
      obtain ⟨sd, hsd⟩ : ∃ sd, M.side (M.clo m) i = sd := ⟨_, rfl⟩
      rw [hsd] at h3 hstep
      clear hsd
      cases sd with
      | true =>
        go_wp2_with fail
        refine hpow.mono ?_
        rintro e w5 ⟨rfl, rfl⟩
        go_wp2_with fail
        refine h3.mono ?_
        rintro e w5 ⟨rfl, rfl⟩
        go_wp2_with fail
        go_round
        case rel => exact ⟨i + 1, c + 1, by go_num, by go_num, by omega, by omega, (by rw [hstep.out]; rfl : c + 1 = M.cb (i + 1) (M.side (M.clo m)))⟩
        case measure => simp [intOf]; omega
      | false =>
        go_wp2_with fail
        refine hpow.mono ?_
        rintro e w5 ⟨rfl, rfl⟩
        go_wp2_with fail
        refine h3.mono ?_
        rintro e w5 ⟨rfl, rfl⟩
        go_wp2_with fail
        go_round
        case rel => exact ⟨i + 1, c, by go_num, rfl, by omega, by omega, (by rw [hstep.out]; rfl : c = M.cb (i + 1) (M.side (M.clo m)))⟩
        case measure => simp [intOf]; omega
    · obtain rfl : i = q := by omega
      go_wp2_with fail
      refine hpow.mono ?_
      rintro e w5 ⟨rfl, rfl⟩
      go_wp2_with fail
      go_ret
      exact ⟨(by rw [hend.out, ← hcd.out]; rfl), hB⟩

set_option maxHeartbeats 1000000 in
theorem rlast_any (m : List Nat) (s : Nat) (p : Option Addr) (n cap : Nat) (w : World) (hl : m.length = n) (hm : M.Ok m) (hn : n ≤ 12) (hs : s < 2 ^ n) (hc : Has (ints m) p w) :
    Calls Tryd.prog 15 #[.slice p n cap, .int .i64 (s : Nat)] w fun e w' => e = .returned (.int .i64 (M.lastS (M.clo m) s : Nat)) ∧ Below w.heap.size w w' := by
  have hpw := pow_lt n hn
  have hcl : (M.clo m).length = n := by rw [M.clo_length, hl]
  have hrb : ∀ k, M.row (M.clo m) k < 4096 := fun k => by have := M.clo_ok hm k; rw [hcl] at this; omega
  have hend : Hid (M.lastS (M.clo m) s = M.cnt01 n (M.lastM (M.clo m) s)) := (by unfold M.lastS; rw [hcl] : M.lastS (M.clo m) s = M.cnt01 n (M.lastM (M.clo m) s))
  have hs4 : s < 4096 := by omega
  clear hpw hs
  go_enter Tryd.func15, Tryd.ntmps15
  go_wp2_with fail
  refine (closed_any m p n cap w hl hm hn hc).mono ?_
  rintro e w1 ⟨p1, c1, rfl, hh, hB⟩
  obtain ⟨v, hv⟩ : ∃ v, M.lastS (M.clo m) s = v := ⟨_, rfl⟩
  have HV : Hid (M.lastS (M.clo m) s = v) := hv
  rw [hv] at hend
  clear hv
  obtain ⟨t, ht⟩ : ∃ t, M.clo m = t := ⟨_, rfl⟩
  rw [ht] at hrb hend hh hcl
  clear ht
  go_wp2_with fail
  go_loop [6, 7] (fun o v => ∃ i z : Nat, v = .int .i64 i ∧ o = .int .i64 z ∧ i ≤ n ∧ z < 4096 ∧ Hid (z = M.cnt01 i (M.lastM t s))) (fun _ v => n - (intOf v).toNat)
  case atStart => exact ⟨0, 0, rfl, rfl, Nat.zero_le _, by omega, (rfl : 0 = M.cnt01 0 (M.lastM t s))⟩
  case round =>
    obtain ⟨i, z, rfl, rfl, hi, hz4, hz⟩ := hrel
    by_cases hin : i < n
    · obtain ⟨b, off, rfl, hb, hcell⟩ := hh i (by rw [ints_length, hcl]; exact hin)
      rw [ints_get] at hcell
      have hb1 := bit_any s i w1 (by omega) (by omega)
      have hbo := both_any (M.row t i) s w1 (hrb i) hs4
      obtain ⟨pw, hpw⟩ : ∃ pw, 2 ^ i = pw := ⟨_, rfl⟩
      have HP : Hid (2 ^ i = pw) := hpw
      have hp2 := pow2_any i pw w1 (by omega) HP
      have hyes : Hid (M.lastM t s i = true → z + pw = M.cnt01 (i + 1) (M.lastM t s)) := fun h => by
        simp only [M.cnt01]; rw [← hz.out, if_pos h, ← hpw]
        exact add_pow_or z i (by rw [hz.out, M.cnt01_bit]; simp)
      have hno : Hid (M.lastM t s i = false → z = M.cnt01 (i + 1) (M.lastM t s)) := fun h => by
        simp only [M.cnt01]; rw [← hz.out, h]; simp
      have hle : Hid (M.cnt01 (i + 1) (M.lastM t s) < 4096) := (by
        have h1 := cnt01_lt (i + 1) (M.lastM t s)
        have h2 := pow_lt (i + 1) (by omega)
        omega : M.cnt01 (i + 1) (M.lastM t s) < 4096)
      have hdf : Hid (M.lastM t s i = (s.testBit i && (M.row t i &&& s == 0))) := (rfl : M.lastM t s i = (s.testBit i && (M.row t i &&& s == 0)))
      have hpb : pw ≤ 4096 := by rw [← hpw]; exact pow_lt i (by omega)
      obtain ⟨y, hy⟩ : ∃ y, M.row t i = y := ⟨_, rfl⟩
      rw [hy] at hcell hbo hdf
      obtain ⟨o, ho⟩ : ∃ o, y &&& s = o := ⟨_, rfl⟩
      rw [ho] at hbo hdf
      obtain ⟨bb, hbb⟩ : ∃ bb, s.testBit i = bb := ⟨_, rfl⟩
      rw [hbb] at hb1 hdf
      clear hy ho hbb hh hpw
      cases bb with
      | false =>
        have hnx := hno.out (by rw [hdf.out]; rfl)
        have HN : Hid (z = M.cnt01 (i + 1) (M.lastM t s)) := hnx
        clear hnx
        go_wp2_with fail
        refine hb1.mono ?_
        rintro e w5 ⟨rfl, rfl⟩
        go_wp2_with fail
        go_round
        case rel => exact ⟨i + 1, z, by go_num, rfl, by omega, hz4, HN⟩
        case measure => simp [intOf]; omega
      | true =>
        by_cases ho0 : o = 0
        · have HN : Hid (z + pw = M.cnt01 (i + 1) (M.lastM t s)) := hyes.out (by rw [hdf.out, ho0]; rfl)
          have hlt : z + pw < 4096 := by rw [HN.out]; exact hle.out
          have e4 : ((o : Int) == 0) = true := by simp; omega
          clear ho0
          go_wp2_with fail
          refine hb1.mono ?_
          rintro e w5 ⟨rfl, rfl⟩
          go_wp2_with fail
          refine hbo.mono ?_
          rintro e w5 ⟨rfl, rfl⟩
          go_wp2_with fail
          refine hp2.mono ?_
          rintro e w5 ⟨rfl, rfl⟩
          go_wp2_with fail
          go_round
          case rel => exact ⟨i + 1, z + pw, by go_num, by go_num, by omega, hlt, HN⟩
          case measure => simp [intOf]; omega
        · have HN : Hid (z = M.cnt01 (i + 1) (M.lastM t s)) := hno.out (by rw [hdf.out]; simp [ho0])
          have e4 : ((o : Int) == 0) = false := by simp; omega
          clear ho0
          go_wp2_with fail
          refine hb1.mono ?_
          rintro e w5 ⟨rfl, rfl⟩
          go_wp2_with fail
          refine hbo.mono ?_
          rintro e w5 ⟨rfl, rfl⟩
          go_wp2_with fail
          go_round
          case rel => exact ⟨i + 1, z, by go_num, rfl, by omega, hz4, HN⟩
          case measure => simp [intOf]; omega
    · obtain rfl : i = n := by omega
      go_wp2_with fail
      go_ret
      exact ⟨(by rw [HV.out, hend.out, ← hz.out]; rfl), hB⟩
end Go.Proofs.YtejnjokjkinpkaaDoor
