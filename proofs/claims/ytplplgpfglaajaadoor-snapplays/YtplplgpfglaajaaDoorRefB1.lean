/- Lists of the document's own banks (package whensteadref2): one with a number set anew (with), one with a way set anew (way), one with a number more (behind); each in memory of the call's own, what lay in memory lies as it lay. -/
import Derived.Test.YtplplgpfglaajaaDoorBk11
import Derived.Test.YtplplgpfglaajaaDoorRefTrc
import Derived.Test.YtplplgpfglaajaaDoorAppAny
namespace Go.Proofs.YtplplgpfglaajaaDoor
open Go.RowKit

/-- The slice's address p leads to n cells that hold f, in a block of G. -/
def FI (G : Nat → Prop) (n : Nat) (f : Nat → Value) (p : Option Addr) (w : World) : Prop := ∀ j, j < n → ∃ b off, p = some ⟨b, off, none⟩ ∧ b < w.heap.size ∧ G b ∧ w.cell? ⟨b, off + j, none⟩ = some (f j)
theorem FI.later {G : Nat → Prop} {n : Nat} {f : Nat → Value} {p : Option Addr} {w w' : World} (h : FI G n f p w) (hb : Below w.heap.size w w') : FI G n f p w' := fun j hj => by
  obtain ⟨b, off, h1, h2, h3, h4⟩ := h j hj
  exact ⟨b, off, h1, by have := hb.size; omega, h3, (hb.cell (p := ⟨b, off + j, none⟩) h2).trans h4⟩
theorem FI.mono {G G' : Nat → Prop} {n : Nat} {f : Nat → Value} {p : Option Addr} {w : World} (h : FI G n f p w) (e : ∀ k, k < w.heap.size → G k → G' k) : FI G' n f p w := fun j hj => by
  obtain ⟨b, off, h1, h2, h3, h4⟩ := h j hj
  exact ⟨b, off, h1, h2, e b h2 h3, h4⟩
theorem FI.frm {G O : Nat → Prop} {n : Nat} {f : Nat → Value} {p : Option Addr} {w w' : World} (h : FI G n f p w) (hf : Frm O w w') (e : ∀ k, G k → ¬ O k) : FI G n f p w' := fun j hj => by
  obtain ⟨b, off, h1, h2, h3, h4⟩ := h j hj
  exact ⟨b, off, h1, by have := hf.size; omega, h3, (hf.cell (p := ⟨b, off + j, none⟩) h2 (e b h3)).trans h4⟩
theorem FI.congr {G : Nat → Prop} {n : Nat} {f g : Nat → Value} {p : Option Addr} {w : World} (h : FI G n f p w) (e : ∀ j, j < n → f j = g j) : FI G n g p w := fun j hj => by
  obtain ⟨b, off, h1, h2, h3, h4⟩ := h j hj
  exact ⟨b, off, h1, h2, h3, by rw [h4, e j hj]⟩
/-- at one address -/
theorem FI.at_ {G : Nat → Prop} {n : Nat} {f : Nat → Value} {p : Option Addr} {w : World} (h : FI G n f p w) (hn : 0 < n) : ∃ b off, p = some ⟨b, off, none⟩ ∧ b < w.heap.size ∧ G b ∧ ∀ j, j < n → w.cell? ⟨b, off + j, none⟩ = some (f j) := by
  obtain ⟨b, off, h1, h2, h3, _⟩ := h 0 hn
  refine ⟨b, off, h1, h2, h3, fun j hj => ?_⟩
  obtain ⟨b', off', e1, _, _, e4⟩ := h j hj
  rw [h1] at e1
  cases e1
  exact e4
theorem FI.hasI {G : Nat → Prop} {n : Nat} {f : Nat → Value} {p : Option Addr} {w : World} {l : List Int} (h : FI G n f p w) (hl : l.length = n) (e : ∀ j, j < n → f j = .int .i64 (l[j]?.getD 0)) : HasI l p w := fun j hj => by
  obtain ⟨b, off, h1, h2, _, h4⟩ := h j (by omega)
  exact ⟨b, off, h1, h2, by rw [h4, e j (by omega)]⟩
/-- cells as a list -/
def fcl (f : Nat → Value) (n : Nat) : List Value := (List.range n).map f
theorem fcl_length (f : Nat → Value) (n : Nat) : (fcl f n).length = n := by simp [fcl]
theorem fcl_at (f : Nat → Value) {n j : Nat} (h : j < n) : (fcl f n)[j]? = some (f j) := by simp [fcl, h]
theorem fcl_inv {f : Nat → Value} {n j : Nat} {u : Value} (h : (fcl f n)[j]? = some u) : j < n ∧ u = f j := by
  have hj : j < n := by have := (List.getElem?_eq_some_iff.1 h).1; rwa [fcl_length] at this
  rw [fcl_at f hj] at h
  exact ⟨hj, (Option.some.inj h).symm⟩
theorem fcl_set (f : Nat → Value) (n i : Nat) (u : Value) : (fcl f n).set i u = fcl (M.upd1 f i u) n := by
  apply List.ext_getElem?
  intro j
  rw [List.getElem?_set]
  by_cases hj : j < n
  · rw [fcl_at _ hj, fcl_at _ hj, fcl_length]
    by_cases e : i = j
    · subst e; rw [if_pos rfl, if_pos hj, M.upd1_same]
    · rw [if_neg e, M.upd1_other _ _ (Ne.symm e)]
  · rw [List.getElem?_eq_none (l := fcl (M.upd1 f i u) n) (by rw [fcl_length]; omega), List.getElem?_eq_none (l := fcl f n) (by rw [fcl_length]; omega), fcl_length]
    split
    · rw [if_neg (by omega)]
    · rfl
theorem fcl_one {f : Nat → Value} {n : Nat} (h : ∀ j, j < n → (f j).oneCell' = true) : ∀ u ∈ fcl f n, u.oneCell' = true := fun u hu => by
  obtain ⟨j, hj, rfl⟩ := List.mem_map.1 hu
  exact h j (List.mem_range.1 hj)
theorem owns_FI {w : World} {base n c : Nat} {t : TypeId} {p : Option Addr} {f : Nat → Value} (h : w.ownsRow base t 1 (.slice p n c) n (fcl f n)) : FI (fun k => base ≤ k) n f p w := by
  rcases h.2 with ⟨e, rfl⟩ | ⟨g, cap, cur, e, hb, hg, h1, h2, h3, h4⟩
  · exact fun j hj => by omega
  · cases e
    refine fun j hj => ⟨g, 0, rfl, (Array.getElem?_eq_some_iff.1 hg).1, hb, ?_⟩
    rw [Nat.zero_add, h.cellAt j (by omega), fcl_at f hj]
theorem owns_cap {w : World} {base n c : Nat} {t : TypeId} {p : Option Addr} {xs : List Value} (h : w.ownsRow base t 1 (.slice p n c) n xs) : n ≤ c ∧ c ≤ maxLen := by
  rcases h.2 with ⟨e, rfl⟩ | ⟨g, cap, cur, e, hb, hg, h1, h2, h3, h4⟩
  · cases e; exact ⟨Nat.le_refl _, Nat.zero_le _⟩
  · cases e; exact ⟨h1, h2⟩
set_option maxHeartbeats 1000000 in
theorem with_ok {G : Nat → Prop} (f : Nat → Int) (n i : Nat) (z : Int) (p : Option Addr) (c : Nat) (w : World) (hn : n ≤ 30) (hi : i < n) (hf : FI G n (fun j => .int .i64 (f j)) p w) :
    Calls Tryd.prog 18 #[.slice p n c, .int .i64 i, .int .i64 z] w fun e w' => ∃ p' c', e = .returned (.slice p' n c') ∧ n ≤ c' ∧ c' ≤ maxLen ∧ FI (fun k => w.heap.size ≤ k) n (fun j => .int .i64 (M.upd1 f i z j)) p' w' ∧ Below w.heap.size w w' := by
  obtain ⟨i0, hi0, hz0, hz1, hz2⟩ := info_parts infoIn
  obtain ⟨b, off, rfl, hb, _, hc⟩ := hf.at_ (by omega)
  have HC : Hid (∀ j, j < n → w.cell? ⟨b, off + j, none⟩ = some (.int .i64 (f j))) := hc
  have hii : (i : Int) < n := by omega
  clear hf hc
  go_enter Tryd.func18, Tryd.ntmps18
  go_wp2_with (at_builtin; refine wpList_append_lies _ rfl _ _ 22 rfl w.heap.size 3 i0 (.int .i64 0) 1 8 Tryd.underlying22 hi0 hz0 hz1 hz2 rfl (by decide) (.slice none 0 0) 0 [] rfl (World.ownsRow_nil _ _ _ _) ⟨b, off, none⟩ n c (fcl (fun j => .int .i64 (f j)) n) rfl (by rw [fcl_length, Nat.mul_one]) (fun j u hu => by obtain ⟨h1, rfl⟩ := fcl_inv hu; rw [addr_add]; exact HC.out j h1) (fcl_one (fun _ _ => rfl)) (by omega) (by unfold maxLen; omega) (by omega) (Nat.le_refl _) w.heap.size rfl ?_)
  intro g cap w1 own gr at1 lt1
  have hg : g = w.heap.size := by
    rcases at1 with e | e
    · cases e
    · exact e
  have hcg := own.cellAt i (by omega)
  rw [fcl_at _ hi] at hcg
  have hfg := own.frozenAt i
  obtain ⟨st1, st2⟩ := own.stored i (.int .i64 z)
  rw [fcl_set] at st1
  have FIN : Hid (FI (fun k => w.heap.size ≤ k) n (fun j => .int .i64 (M.upd1 f i z j)) (some ⟨g, 0, none⟩) (w1.setCell ⟨g, i, none⟩ (.int .i64 z))) := (owns_FI st1).congr (fun j _ => by
    by_cases e : j = i
    · subst e; rw [M.upd1_same, M.upd1_same]
    · rw [M.upd1_other _ _ e, M.upd1_other _ _ e])
  obtain ⟨k1, k2⟩ := owns_cap own
  have FB : Hid (Below w.heap.size w (w1.setCell ⟨g, i, none⟩ (.int .i64 z))) := ((Below.refl _ w).grown gr (Nat.le_refl _) (fun k e => by cases e)).setCell (p := ⟨g, i, none⟩) (by show w.heap.size ≤ g; omega) _
  clear own gr at1 st1 st2 hg HC
  go_wp2_with fail
  go_ret
  exact ⟨_, cap, rfl, k1, k2, FIN.out, FB.out⟩
set_option maxRecDepth 100000 in
set_option maxHeartbeats 1000000 in
theorem behind_ok {G : Nat → Prop} (l : List Int) (x : Int) (n : Nat) (p : Option Addr) (c : Nat) (w : World) (hl : l.length = n) (hn : n ≤ 100) (hnil : p = none → n = 0 ∧ c = 0) (hf : FI G n (fun j => .int .i64 (l[j]?.getD 0)) p w) :
    Calls Tryd.prog 20 #[.slice p n c, .int .i64 x] w fun e w' => ∃ g c', e = .returned (.slice (some ⟨g, 0, none⟩) (n + 1) c') ∧ n + 1 ≤ c' ∧ c' ≤ maxLen ∧ FI (fun k => w.heap.size ≤ k) (n + 1) (fun j => .int .i64 ((l ++ [x])[j]?.getD 0)) (some ⟨g, 0, none⟩) w' ∧ Below w.heap.size w w' := by
  obtain ⟨i0, hi0, hz0, hz1, hz2⟩ := info_parts infoIn
  have HC : Hid (∀ ad, p = some ad → ∀ j u, (zc l)[j]? = some u → w.cell? (ad.add j) = some u) := by
    intro ad e j u hu
    have hj : j < l.length := by have := (List.getElem?_eq_some_iff.1 hu).1; rwa [zc_length] at this
    rw [zc_at hj] at hu
    obtain ⟨b, off, e2, _, _, h4⟩ := hf j (by omega)
    rw [e] at e2
    cases e2
    rw [addr_add, h4, hu]
  have HN : Hid (p = none → n = 0 ∧ c = 0) := hnil
  clear hf hnil
  go_enter Tryd.func20, Tryd.ntmps20
  go_wp2_with (at_builtin; refine wpList_append_ownAny _ rfl _ _ 22 rfl w.heap.size 3 i0 (.int .i64 0) 1 8 Tryd.underlying22 hi0 hz0 hz1 hz2 rfl (by decide) (.slice none 0 0) 0 [] rfl (World.ownsRow_nil _ _ _ _) p n c (zc l) rfl (by rw [zc_length, Nat.mul_one, hl]) HN.out HC.out (zc_one l) (by unfold maxLen; omega) (by omega) (Nat.le_refl _) ?_)
  intro v1 w1 own gr
  obtain ⟨q1, c1, rfl⟩ := owns_slice own
  have hB1 : Below w.heap.size w w1 := (Below.refl _ w).grown gr (Nat.le_refl _) (fun k e => by cases e)
  have hs1 := hB1.size
  have OWN : Hid (w1.ownsRow w.heap.size 3 1 (.slice q1 n c1) n (zc l)) := own
  clear gr own HC HN
  go_wp2_with (at_builtin; refine wpList_append_lies _ rfl _ _ 22 rfl w.heap.size 3 i0 (.int .i64 0) 1 8 Tryd.underlying22 hi0 hz0 hz1 hz2 rfl (by decide) (.slice q1 n c1) n (zc l) rfl (OWN.out.alloc _) ⟨w1.heap.size, 0, none⟩ 1 1 [.int .i64 x] rfl rfl (World.news_of_block (cs := #[.int .i64 x]) (t := 3) (fr := (0, 0)) (heap_alloc_new w1 _)) (by simp [Value.oneCell']) (by omega) (by unfold maxLen; omega) (by omega) (Nat.le_trans hs1 (by simp)) (w1.heap.size + 1) (by simp) ?_)
  intro g cap w2 own2 gr2 _ _
  rw [← zc_snoc] at own2
  have e2 : zc (l ++ [x]) = fcl (fun j => .int .i64 ((l ++ [x])[j]?.getD 0)) (n + 1) := by
    apply List.ext_getElem?
    intro j
    by_cases hj : j < n + 1
    · rw [fcl_at _ hj, zc_at (by simp; omega)]
    · rw [List.getElem?_eq_none (by rw [zc_length]; simp; omega), List.getElem?_eq_none (by rw [fcl_length]; omega)]
  rw [e2] at own2
  obtain ⟨k1, k2⟩ := owns_cap own2
  have FIN : Hid (FI (fun k => w.heap.size ≤ k) (n + 1) (fun j => .int .i64 ((l ++ [x])[j]?.getD 0)) (some ⟨g, 0, none⟩) w2) := owns_FI own2
  have FB : Hid (Below w.heap.size w w2) := (hB1.alloc hs1 _).grown gr2 (Nat.le_trans hs1 (by simp)) (fun k e => (OWN.out.lt k e).1)
  clear own2 gr2 OWN hB1 e2
  go_wp2_with fail
  go_ret
  exact ⟨g, cap, rfl, k1, k2, FIN.out, FB.out⟩
theorem sl_one {v : Value} (h : ∃ a l c, v = .slice a l c) : v.oneCell' = true := by
  obtain ⟨a, l, c, rfl⟩ := h
  rfl
theorem fcl_parts (f : Nat → Value) (n i : Nat) (u : Value) (hi : i < n) : fcl f i ++ [u] ++ fcl (fun j => f (i + 1 + j)) (n - (i + 1)) = fcl (M.upd1 f i u) n := by
  apply List.ext_getElem?
  intro j
  have hl : (fcl f i ++ [u]).length = i + 1 := by simp [fcl]
  by_cases h1 : j < i
  · rw [List.getElem?_append_left (by omega), List.getElem?_append_left (by rw [fcl_length]; exact h1), fcl_at _ h1, fcl_at _ (by omega), M.upd1_other _ _ (by omega)]
  · by_cases h2 : j = i
    · subst h2
      rw [List.getElem?_append_left (by omega), List.getElem?_append_right (by rw [fcl_length]; omega), fcl_at _ hi, M.upd1_same, fcl_length, Nat.sub_self]
      rfl
    · rw [List.getElem?_append_right (by omega), hl]
      by_cases h3 : j < n
      · rw [fcl_at _ (by omega), fcl_at _ h3, M.upd1_other _ _ h2, show i + 1 + (j - (i + 1)) = j by omega]
      · rw [List.getElem?_eq_none (by rw [fcl_length]; omega), List.getElem?_eq_none (by rw [fcl_length]; omega)]
set_option maxRecDepth 100000 in
set_option maxHeartbeats 2000000 in
theorem rway_ok {G : Nat → Prop} (f : Nat → Value) (n i : Nat) (u : Value) (p : Option Addr) (c : Nat) (w : World) (hn : n ≤ 30) (hi : i < n) (hcap : n ≤ c) (hmax : c ≤ maxLen) (h1 : ∀ j, j < n → ∃ a l c, f j = .slice a l c) (hu : ∃ a l c, u = .slice a l c) (hf : FI G n f p w) :
    Calls Tryd.prog 19 #[.slice p n c, .int .i64 i, u] w fun e w' => ∃ p' c', e = .returned (.slice p' n c') ∧ n ≤ c' ∧ c' ≤ maxLen ∧ FI (fun k => w.heap.size ≤ k) n (M.upd1 f i u) p' w' ∧ Below w.heap.size w w' := by
  obtain ⟨i1, hi1, hy0, hy1, hy2⟩ := info_parts infoRw
  obtain ⟨b, off, rfl, hb, _, hc⟩ := hf.at_ (by omega)
  have H1 : Hid (∀ j, j < n → ∃ a l c, f j = .slice a l c) := h1
  have HC : Hid (∀ j, j < n → w.cell? ⟨b, off + j, none⟩ = some (f j)) := hc
  have HU : Hid (u.oneCell' = true) := sl_one hu
  obtain ⟨ua, ul, uc, rfl⟩ := hu
  unfold maxLen at hmax
  have q1 : i ≤ c := by omega
  have q2 : (i : Int) ≤ (c : Int) := by omega
  have q3 : (0 : Int) ≤ (i : Int) + 1 := by omega
  have q4 : (i : Int) + 1 ≤ (n : Int) := by omega
  have q5 : ((i : Int) + 1).toNat = i + 1 := by omega
  have q6 : i + 1 ≤ n := by omega
  have q7 : n ≤ c := hcap
  obtain ⟨A, hA, HS⟩ : ∃ A : Addr, (if c = i + 1 then some (⟨b, off, none⟩ : Addr) else some ⟨b, off + (i + 1), none⟩) = some A ∧ Hid (∀ w', Below w.heap.size w w' → ∀ j v, (fcl (fun j => f (i + 1 + j)) (n - (i + 1)))[j]? = some v → w'.cell? (A.add j) = some v) := by
    by_cases h : c = i + 1
    · refine ⟨⟨b, off, none⟩, by simp [h], fun w' _ j v hv => ?_⟩
      obtain ⟨hj, _⟩ := fcl_inv hv
      omega
    · refine ⟨⟨b, off + (i + 1), none⟩, by simp [h], fun w' hB j v hv => ?_⟩
      obtain ⟨hj, rfl⟩ := fcl_inv hv
      rw [addr_add, show off + (i + 1) + j = off + (i + 1 + j) by omega]
      exact (hB.cell (p := ⟨b, off + (i + 1 + j), none⟩) hb).trans (HC.out _ (by omega))
  clear hf hc h1
  go_enter Tryd.func19, Tryd.ntmps19
  go_wp2_with (at_builtin; refine wpList_append_own _ rfl _ _ 24 rfl w.heap.size 22 i1 (.slice none 0 0) 1 24 Tryd.underlying24 hi1 hy0 hy1 hy2 rfl (by decide) (.slice none 0 0) 0 [] rfl (World.ownsRow_nil _ _ _ _) ⟨b, off, none⟩ i c (fcl f i) rfl (by rw [fcl_length, Nat.mul_one]) (fun j v hv => by obtain ⟨k1, rfl⟩ := fcl_inv hv; rw [addr_add]; exact HC.out j (by omega)) (fcl_one (fun j hj => sl_one (H1.out j (by omega)))) (by unfold maxLen; omega) (by omega) (Nat.le_refl _) ?_)
  intro v1 w1 own1 gr1 _
  obtain ⟨a1, c1, rfl⟩ := owns_slice own1
  have hB1 : Below w.heap.size w w1 := (Below.refl _ w).grown gr1 (Nat.le_refl _) (fun k e => by cases e)
  have hs1 := hB1.size
  have OWN1 : Hid (w1.ownsRow w.heap.size 22 1 (.slice a1 i c1) i (fcl f i)) := own1
  clear gr1 own1
  go_wp2_with (at_builtin; refine wpList_append_lies _ rfl _ _ 24 rfl w.heap.size 22 i1 (.slice none 0 0) 1 24 Tryd.underlying24 hi1 hy0 hy1 hy2 rfl (by decide) (.slice a1 i c1) i (fcl f i) rfl (OWN1.out.alloc _) ⟨w1.heap.size, 0, none⟩ 1 1 [.slice ua ul uc] rfl rfl (World.news_of_block (cs := #[.slice ua ul uc]) (t := 22) (fr := (0, 0)) (heap_alloc_new w1 _)) (by simp [Value.oneCell']) (by omega) (by unfold maxLen; omega) (by omega) (Nat.le_trans hs1 (by simp)) (w1.heap.size + 1) (by simp) ?_)
  intro g2 c2 w2 own2 gr2 _ _
  have hB2 : Below w.heap.size w w2 := (hB1.alloc hs1 _).grown gr2 (Nat.le_trans hs1 (by simp)) (fun k e => (OWN1.out.lt k e).1)
  have hs2 := hB2.size
  have OWN2 : Hid (w2.ownsRow w.heap.size 22 1 (.slice (some ⟨g2, 0, none⟩) (i + 1) c2) (i + 1) (fcl f i ++ [.slice ua ul uc])) := own2
  have HB2 : Hid (Below w.heap.size w w2) := hB2
  clear gr2 own2 OWN1 hB1 hB2
  go_wp2_with (at_builtin; refine wpList_append_own _ rfl _ _ 24 rfl w.heap.size 22 i1 (.slice none 0 0) 1 24 Tryd.underlying24 hi1 hy0 hy1 hy2 rfl (by decide) (.slice (some ⟨g2, 0, none⟩) (i + 1) c2) (i + 1) (fcl f i ++ [.slice ua ul uc]) rfl OWN2.out A (n - (i + 1)) (c - (i + 1)) (fcl (fun j => f (i + 1 + j)) (n - (i + 1))) (by simp [Act.eval]) (by rw [fcl_length, Nat.mul_one]) (HS.out w2 HB2.out) (fcl_one (fun j hj => sl_one (H1.out (i + 1 + j) (by omega)))) (by unfold maxLen; omega) (by omega) hs2 ?_)
  intro v3 w3 own3 gr3 _
  have own4 : w3.ownsRow w.heap.size 22 1 v3 n (fcl (M.upd1 f i (.slice ua ul uc)) n) := by rw [← fcl_parts f n i _ hi, List.append_assoc]; exact own3
  clear own3
  have own3 := own4
  clear own4
  obtain ⟨a3, c3, rfl⟩ := owns_slice own3
  obtain ⟨k1, k2⟩ := owns_cap own3
  have FIN : Hid (FI (fun k => w.heap.size ≤ k) n (M.upd1 f i (.slice ua ul uc)) a3 w3) := owns_FI own3
  have FB : Hid (Below w.heap.size w w3) := HB2.out.grown gr3 hs2 (fun k e => (OWN2.out.lt k e).1)
  clear own3 gr3 OWN2 HB2 HS HC H1
  go_wp2_with fail
  go_ret
  exact ⟨a3, c3, rfl, k1, k2, FIN.out, FB.out⟩
end Go.Proofs.YtplplgpfglaajaaDoor
