/- JUST A RING FORBIDS IT (law SchedRing), the walk. -/
import Derived.Test.YtkkccafobfdjbaaDoorSca
import Derived.Test.YtkkccafobfdjbaaDoorSc5
import Derived.Test.YtkkccafobfdjbaaDoorRefClo
import Derived.Test.YtkkccafobfdjbaaDoorAppAny
import Derived.BigQuiet
import Derived.Deep.AppendLies
namespace Go.Proofs.YtkkccafobfdjbaaDoor
open Go.RowKit

theorem ordd_length {s : List M.SAct} {r : List Nat} (hk : M.AOk s) (hl : r.length = 5) (hn : r.Nodup) (hr : ∀ x, x ∈ r → x < 5) : (M.ordd s r).length = s.length := by
  have : (M.ordd s r).Perm (List.range s.length) := (List.perm_ext_iff_of_nodup (M.ordd_nodup hn) List.nodup_range).2 (fun x => by
    rw [M.mem_ordd, List.mem_range]
    exact ⟨fun h => h.1, fun h => ⟨h, row_all5 hl hn hr (hk.tx x)⟩⟩)
  rw [this.length_eq, List.length_range]
theorem ordd_lt {s : List M.SAct} {r : List Nat} {k : Nat} (hk : k < (M.ordd s r).length) : M.row (M.ordd s r) k < s.length := (M.mem_ordd.1 (M.row_memS hk)).1
theorem inRow_aok {s : List M.SAct} {l : List Nat} (hk : M.AOk s) (hl : l.length ≤ 24) : M.AOk (M.inRow s l) := by
  refine aok_of (by unfold M.inRow; rw [List.length_map]; exact hl) (fun a ha => ?_)
  obtain ⟨i, _, rfl⟩ := List.mem_map.1 ha
  exact ⟨hk.tx i, hk.it i, hk.wr i⟩
theorem inRow_take {s : List M.SAct} {l : List Nat} {k : Nat} (hk : k < l.length) : M.inRow s (l.take (k + 1)) = M.inRow s (l.take k) ++ [M.sat s (M.row l k)] := by
  unfold M.inRow
  rw [List.take_add_one, List.getElem?_eq_getElem hk, List.map_append, show M.row l k = l[k] by unfold M.row; rw [List.getElem?_eq_getElem hk]; rfl]
  rfl
theorem serial_any (s : List M.SAct) (p : Option Addr) (n cap : Nat) (w : World) (he : Env w) (hl : s.length = n) (hk : M.AOk s) (hcap : n ≤ cap) (hc : HasAc (az s) p w) :
    Calls Tryd.prog 16 #[.slice p n cap] w fun e w' => ∃ v, e = .returned (.tuple #[.bool (!ringB (M.edR s)), v, .nilIface]) ∧ Below w.heap.size w w' := by
  cases h : ringB (M.edR s) with
  | true => exact (serial_ring s p n cap w he hl hk hcap hc (ringB_iff.1 h)).mono (fun e w' hh => ⟨_, hh.1, hh.2⟩)
  | false => exact (serial_ok s p n cap w he hl hk hcap hc (fun hr => by rw [ringB_iff.2 hr] at h; cases h)).mono (fun e w' ⟨A, h1, _, _, h2⟩ => ⟨_, h1, h2⟩)
/-- does one of the first t stand behind itself? -/
def rgB (c : List Nat) (t : Nat) : Bool := (List.range t).any fun i => (M.row c i).testBit i
theorem rgB_succ (c : List Nat) (t : Nat) : rgB c (t + 1) = (rgB c t || (M.row c t).testBit t) := by
  unfold rgB
  rw [List.range_succ, List.any_append]
  simp
theorem rgB_all (s : List M.SAct) : rgB (M.clo (M.edR s)) 5 = ringB (M.edR s) := by
  unfold rgB ringB
  rw [M.edR_len]
set_option maxRecDepth 100000 in
set_option maxHeartbeats 8000000 in
theorem xr_walk (zs : List Az) (p : Option Addr) (n cap : Nat) (rs : List Int) (q : Option Addr) (m cap2 : Nat) (w : World) (he : Env w) (hl : zs.length = n) (hmax : n ≤ maxLen) (hcap : n ≤ cap) (hc : HasAc zs p w) (hlr : rs.length = m) (hmr : m ≤ maxLen) (hcr : HasI rs q w) (_ : ∀ k : Nat, rs[k]?.getD 0 < 9223372036854775808) :
    Calls Tryd.prog 5 #[.slice p n cap, .slice q m cap2] w fun e w' => e = .returned (.bool true) ∧ Below w.heap.size w w' := by
  obtain ⟨i0, hi0, hz0, hz1, hz2⟩ := infoAct_parts infoAct
  go_enter Tryd.func5, Tryd.ntmps5
  go_wp2_with fail
  refine (schedFact_ok _ he).mono ?_
  rintro e w1 ⟨rfl, hB1⟩
  have hc1 := hc.later hB1
  have hr1 := hcr.later hB1
  have he1 := he.later hB1
  by_cases h0 : acd zs = 0
  · obtain ⟨s, rfl, hk⟩ := acd_get h0
    have H0 : Hid (acd (az s) = 0) := h0
    rw [az_len] at hl
    have hn24 : n ≤ 24 := hl ▸ hk.len
    clear h0
    go_wp2_with fail
    refine (serial_any s p n cap w1 he1 hl hk hcap hc1).mono ?_
    rintro e w2 ⟨v, rfl, hB2⟩
    have hc2 := hc1.later hB2
    have hr2 := hr1.later hB2
    have he2 := he1.later hB2
    have hC2 := bel_on hB1 hB2
    have HRA : Hid (rgB (M.clo (M.edR s)) 5 = ringB (M.edR s)) := rgB_all s
    obtain ⟨b, hb⟩ : ∃ b, ringB (M.edR s) = b := ⟨_, rfl⟩
    rw [hb] at HRA ⊢
    clear hb hc hcr he hc1 hr1 he1 hB1 hB2
    go_wp2_with fail
    refine (edges_ok s p n cap w2 hl hk hcap hc2).mono ?_
    rintro e w3 ⟨A, rfl, hrow, hA, hB3⟩
    have hc3 := hc2.later hB3
    have hr3 := hr2.later hB3
    have he3 := he2.later hB3
    have hC3 := bel_on hC2 hB3
    clear hc2 hr2 he2 hC2 hB3
    go_wp2_with fail
    go_loop [11] (fun v => ∃ t : Nat, v = .int .i64 t ∧ t ≤ 5) (fun v => 5 - (intOf v).toNat)
    case atStart => exact ⟨0, rfl, Nat.zero_le _⟩
    case round =>
      obtain ⟨t, rfl, ht⟩ := hrel
      by_cases ht5 : t < 5
      · have hti : (t : Int) < 5 := by omega
        have hcl := hrow.cell (k := t) (by rw [M.edR_len]; exact ht5)
        have hlt := M.edR_ok s t
        rw [M.edR_len] at hlt
        have hAl := hrow.lt
        obtain ⟨x, hx⟩ : ∃ x, M.row (M.edR s) t = x := ⟨_, rfl⟩
        rw [hx] at hcl hlt
        have hx31 : decide ((31 : Int) < (x : Int)) = false := decide_eq_false (by omega)
        have hx31' : decide (31 < x) = false := decide_eq_false (by omega)
        have hx0 : decide ((x : Int) < 0) = false := decide_eq_false (by omega)
        clear hx hlt
        go_wp2_with fail
        go_round
        case rel => exact ⟨t + 1, by go_num, by omega⟩
        case measure => simp [intOf]; omega
      · obtain rfl : t = 5 := by omega
        have hclo := closed_any (M.edR s) (some ⟨A, 0, none⟩) 5 5 w3 (M.edR_len s) (M.edR_ok s) (by omega) hrow.has
        clear ht ht5
        go_wp2_with fail
        refine hclo.mono ?_
        rintro e w4 ⟨pc, cc, rfl, hcl, hB4⟩
        have hc4 := hc3.later hB4
        have hr4 := hr3.later hB4
        have he4 := he3.later hB4
        have hC4 := bel_on hC3 hB4
        clear hclo hc3 hr3 he3 hC3 hB4 hrow
        have hct : ∀ i, M.row (M.clo (M.edR s)) i < 65536 := fun i => by have := M.clo_ok (M.edR_ok s) i; rw [M.clo_length, M.edR_len] at this; omega
        have hcln : (M.clo (M.edR s)).length = 5 := by rw [M.clo_length, M.edR_len]
        obtain ⟨c, hcd⟩ : ∃ c, M.clo (M.edR s) = c := ⟨_, rfl⟩
        rw [hcd] at hcl hct hcln HRA
        clear hcd
        go_wp2_with fail
        go_loop [13, 14] (fun u v => ∃ t : Nat, v = .int .i64 t ∧ t ≤ 5 ∧ u = .bool (rgB c t)) (fun _ v => 5 - (intOf v).toNat)
        case atStart => exact ⟨0, rfl, Nat.zero_le _, rfl⟩
        case round =>
          obtain ⟨t, rfl, ht, rfl⟩ := hrel
          by_cases ht5 : t < 5
          · have hti : (t : Int) < 5 := by omega
            obtain ⟨bc, oc, rfl, hbc, hcc⟩ := hcl t (by rw [ints_length]; omega)
            rw [ints_get] at hcc
            have hbit := bit_any (M.row c t) t w4 (hct t) (by omega)
            have hsucc := rgB_succ c t
            obtain ⟨x, hx⟩ : ∃ x, M.row c t = x := ⟨_, rfl⟩
            rw [hx] at hcc hbit hsucc
            obtain ⟨y, hy⟩ : ∃ y, x.testBit t = y := ⟨_, rfl⟩
            rw [hy] at hbit hsucc
            cases hg : rgB c t with
            | true =>
              rw [hg] at hsucc
              have HS : Hid (rgB c (t + 1) = true) := by show _ = _; rw [hsucc]; rfl
              clear hsucc hg hx hy
              go_wp2_with fail
              go_round
              case rel => exact ⟨t + 1, by go_num, by omega, by rw [HS.out]⟩
              case measure => simp [intOf]; omega
            | false =>
              rw [hg] at hsucc
              have HS : Hid (rgB c (t + 1) = y) := by show _ = _; rw [hsucc]; rfl
              clear hsucc hg hx hy
              go_wp2_with fail
              refine hbit.mono ?_
              rintro e w5 ⟨rfl, rfl⟩
              go_wp2_with fail
              go_round
              case rel => exact ⟨t + 1, by go_num, by omega, by rw [HS.out]⟩
              case measure => simp [intOf]; omega
          · obtain rfl : t = 5 := by omega
            rw [HRA.out]
            clear ht ht5 hcl hct
            by_cases hk0 : kcd rs = 0
            · obtain ⟨r, rfl, hlr5, hnr, hir⟩ := kcd_get hk0
              rw [ints_length] at hlr
              obtain rfl : m = 5 := by omega
              have hord := ordered_ok s r p q n cap cap2 w4 hl hk hc4 hlr5 hnr hir hr4
              have hLlen := ordd_length hk hlr5 hnr hir
              have HSER : Hid (¬ M.Ring (M.edR (M.inRow s (M.ordd s r)))) := M.ordd_serial hnr
              have hLlt := fun k => @ordd_lt s r k
              have hTK := fun k => @inRow_take s (M.ordd s r) k
              have HAOK : Hid (M.AOk (M.inRow s (M.ordd s r))) := inRow_aok hk (by rw [hLlen]; exact hk.len)
              rw [hl] at hLlen hLlt
              clear hk0 hmr hr4
              go_wp2_with fail
              refine hord.mono ?_
              obtain ⟨L, hL⟩ : ∃ L, M.ordd s r = L := ⟨_, rfl⟩
              rw [hL] at hLlen HSER hLlt hTK HAOK ⊢
              rintro e w5 ⟨la, lc, rfl, hI5, hB5⟩
              have hc5 := hc4.later hB5
              have he5 := he4.later hB5
              have hC5 := bel_on hC4 hB5
              rw [hLlen] at hLlt hTK ⊢
              have HLT : Hid (∀ k, k < n → M.row L k < n) := fun k => hLlt k
              have HTK : Hid (∀ k, k < n → M.inRow s (L.take (k + 1)) = M.inRow s (L.take k) ++ [M.sat s (M.row L k)]) := fun k => hTK k
              have HLL : Hid (L.length = n) := hLlen
              clear hord hL hLlt hTK hLlen hc4 he4 hC4 hB5 hnr hir hlr5
              have hbb : (!b == b) = false := by cases b <;> rfl
              have hbb' : ((!b) == b) = false := by cases b <;> rfl
              go_wp2_with fail
              go_loopw [17, 18] (fun pv v wr => ∃ k : Nat, v = .int .i64 k ∧ k ≤ n ∧ Hid (wr.ownsRow w5.heap.size 45 3 pv k (acells (M.inRow s (L.take k)))) ∧ Below w5.heap.size w5 wr) (fun _ v _ => n - (intOf v).toNat)
              case atStart => exact ⟨0, rfl, Nat.zero_le _, World.ownsRow_nil _ _ _ _, Below.refl _ _⟩
              case round =>
                obtain ⟨k, rfl, hkn, hown, hB⟩ := hrel
                by_cases hkl : k < n
                · have hki : (k : Int) < (n : Int) := by omega
                  obtain ⟨bl, ol, rfl, hbl, hcl⟩ := (hI5.later hB) k (by rw [ints_length, HLL.out]; exact hkl)
                  rw [ints_get] at hcl
                  have hxl := HLT.out k hkl
                  have HT := HTK.out k hkl
                  obtain ⟨x, hx⟩ : ∃ x, M.row L k = x := ⟨_, rfl⟩
                  rw [hx] at hcl hxl HT
                  obtain ⟨ba, oa, rfl, hop⟩ := (hc5.later hB) x (by rw [az_len, hl]; exact hxl)
                  rw [aAt_az] at hop
                  obtain ⟨⟨T, I, W⟩, ha⟩ : ∃ a, M.sat s x = a := ⟨_, rfl⟩
                  rw [ha] at hop HT
                  have HTT : Hid (M.inRow s (L.take (k + 1)) = M.inRow s (L.take k) ++ [⟨T, I, W⟩]) := HT
                  obtain ⟨hba, k0, k1, k2⟩ := hop
                  simp only [azN] at k0 k1 k2
                  have hxi : (x : Int) < (n : Int) := by omega
                  have hx1 : decide ((n : Int) ≤ (x : Int)) = false := decide_eq_false (by omega)
                  have hx2 : decide (n ≤ x) = false := decide_eq_false (by omega)
                  have hszr := hB.size
                  clear hx ha HT
                  go_wp2_with (at_builtin; refine wpList_append_own _ rfl _ _ 22 rfl w5.heap.size 45 i0 (.agg #[.int .i64 0, .int .i64 0, .int .i64 0]) 3 24 Tryd.underlying22 hi0 hz0 hz1 hz2 rfl (by decide) _ _ _ rfl (hown.out.alloc _) ⟨wr.heap.size, 0, none⟩ 1 1 [.int .i64 (T : Nat), .int .i64 (I : Nat), .int .i64 (W : Nat)] rfl rfl (World.news_of_block (cs := #[.int .i64 (T : Nat), .int .i64 (I : Nat), .int .i64 (W : Nat)]) (t := 45) (fr := (0, 0)) (heap_alloc_new wr _)) (by simp [Value.oneCell']) (by unfold maxLen; omega) (by omega) (by simp; omega) ?_; intro v' w6 hown' hgrow _)
                  have hB6 : Below w5.heap.size w5 w6 := (bel_al hB _).grown hgrow (by simp; omega) (fun j e => (hown.out.lt j e).1)
                  have ho6 : Hid (w6.ownsRow w5.heap.size 45 3 v' (k + 1) (acells (M.inRow s (L.take (k + 1))))) := by
                    show World.ownsRow _ _ _ _ _ _ _
                    rw [HTT.out, acells_snoc]; exact hown'
                  clear hown' hgrow hown k0 k1 k2
                  go_wp2_with fail
                  go_roundw
                  case rel => exact ⟨k + 1, by go_num, by omega, ho6, hB6⟩
                  case measure => simp [intOf]; omega
                · obtain rfl : k = n := by omega
                  have hall : L.take k = L := List.take_of_length_le (by rw [HLL.out]; exact Nat.le_refl _)
                  rw [hall] at hown
                  obtain ⟨pv, cv, rfl, hcv⟩ := owns_capA hown.out
                  have hrl : (M.inRow s L).length = k := by unfold M.inRow; rw [List.length_map, HLL.out]
                  have hAc := hasAc_of_owns hrl hown.out
                  have hCw := bel_on hC5 hB
                  have hser := serial_ok (M.inRow s L) pv k cv wr (he5.later hB) hrl HAOK.out hcv hAc HSER.out
                  clear hown hAc hB hC5 hI5 hc5 he5 hall
                  go_wp2_with fail
                  refine hser.mono ?_
                  rintro e w7 ⟨A7, rfl, -, -, hB7⟩
                  have HB : Hid (Below w.heap.size w w7) := bel_on hCw hB7
                  clear hser hCw hB7
                  go_wp2_with fail
                  go_ret
                  exact ⟨rfl, HB.out⟩
            · have hord := ordered_bad (az s) rs p q n cap m cap2 w4 (by rw [az_len, hl]) hmax hc4 H0.out hlr hmr hr4 hk0
              rw [terr_ne hk0] at hord
              have hbb : (!b == b) = false := by cases b <;> rfl
              have hbb' : ((!b) == b) = false := by cases b <;> rfl
              clear hk0 hr4 hc4
              go_wp2_with fail
              refine hord.mono ?_
              rintro e w5 ⟨rfl, hB5⟩
              have HB : Hid (Below w.heap.size w w5) := bel_on hC4 hB5
              clear hord hB5 hC4
              go_wp2_with fail
              go_ret
              exact ⟨rfl, HB.out⟩
  · have hser := serial_err zs p n cap w1 hl hmax hc1 h0
    have hedg := fun W (h : HasAc zs p W) => edges_err zs p n cap W hl hmax h h0
    simp only [terr_ne h0] at hser hedg
    clear h0
    go_wp2_with fail
    refine hser.mono ?_
    rintro e w2 ⟨rfl, hB2⟩
    have hc2 := hc1.later hB2
    have hC2 := bel_on hB1 hB2
    clear hser hB1 hB2
    go_wp2_with fail
    refine (hedg w2 hc2).mono ?_
    rintro e w3 ⟨rfl, hB3⟩
    have HB : Hid (Below w.heap.size w w3) := bel_on hC2 hB3
    clear hedg hC2 hB3
    go_wp2_with fail
    go_ret
    exact ⟨rfl, HB.out⟩
end Go.Proofs.YtkkccafobfdjbaaDoor
