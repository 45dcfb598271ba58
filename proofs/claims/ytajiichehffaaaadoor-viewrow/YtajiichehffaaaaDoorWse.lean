/- Plain mathematics: the edges of a schedule as rows of bits, gone over pair by pair; the first row of what stands ahead is the least row by trying. No program text is named. -/
import Derived.Test.YtajiichehffaaaaDoorWsc
import Derived.Test.YtajiichehffaaaaDoorWgb
import Derived.Test.YtajiichehffaaaaDoorWys
namespace Go.Proofs.YtajiichehffaaaaDoor.M

/-- must the transactions of two acts stand as these do? -/
def msB (a b : SAct) : Bool := a.tx != b.tx && clash a b
/-- acts in range -/
structure AOk (s : List SAct) : Prop where
  len : s.length ≤ 24
  tx : ∀ j, (sat s j).tx < 5
  it : ∀ j, (sat s j).it < 4
  wr : ∀ j, (sat s j).wr < 2
def eBit (s : List SAct) (t u : Nat) : Bool := t != u && (List.range s.length).any fun j => (List.range j).any fun i => (sat s i).tx == t && (sat s j).tx == u && clash (sat s i) (sat s j)
theorem eBit_iff {s : List SAct} {t u : Nat} : eBit s t u = true ↔ Edge s t u := by
  unfold eBit Edge
  simp only [Bool.and_eq_true, bne_iff_ne, List.any_eq_true, List.mem_range, beq_iff_eq]
  constructor
  · rintro ⟨h, j, hj, i, hi, ⟨h1, h2⟩, h3⟩
    exact ⟨h, i, j, hi, hj, h1, h2, h3⟩
  · rintro ⟨h, i, j, hi, hj, h1, h2, h3⟩
    exact ⟨h, j, hj, i, hi, ⟨h1, h2⟩, h3⟩
/-- the edges as rows of bits -/
def edR (s : List SAct) : List Nat := (List.range 5).map fun t => cnt01 5 (eBit s t)
theorem edR_len (s : List SAct) : (edR s).length = 5 := by simp [edR]
theorem edR_bit (s : List SAct) (t u : Nat) : (row (edR s) t).testBit u = true ↔ t < 5 ∧ u < 5 ∧ Edge s t u := by
  by_cases ht : t < 5
  · have e : row (edR s) t = cnt01 5 (eBit s t) := by simp [row, edR, ht]
    rw [e, cnt01_bit, Bool.and_eq_true, decide_eq_true_eq, eBit_iff]
    exact ⟨fun h => ⟨ht, h⟩, fun h => h.2⟩
  · rw [row_out _ _ (by rw [edR_len]; omega)]
    simp [ht]
theorem edR_ok (s : List SAct) : Ok (edR s) := fun t => by
  rw [edR_len]
  exact Nat.lt_pow_two_of_testBit _ (fun u hu => by
    cases h : (row (edR s) t).testBit u with
    | false => rfl
    | true => have := ((edR_bit s t u).1 h).2.1; omega)
theorem edR_self (s : List SAct) (t : Nat) : (row (edR s) t).testBit t = false := by
  cases h : (row (edR s) t).testBit t with
  | false => rfl
  | true => exact absurd rfl ((edR_bit s t t).1 h).2.2.1
theorem edge_in {s : List SAct} (hs : AOk s) {t u : Nat} (h : Edge s t u) : t < 5 ∧ u < 5 := by
  obtain ⟨_, i, j, _, _, h1, h2, _⟩ := h
  exact ⟨h1 ▸ hs.tx i, h2 ▸ hs.tx j⟩
theorem edR_congr {s t : List SAct} (h : ∀ a b, Edge s a b ↔ Edge t a b) : edR s = edR t := by
  apply ext_rows (by rw [edR_len, edR_len])
  intro i _ j
  rw [Bool.eq_iff_iff, edR_bit, edR_bit, h]
/-! ### pair by pair -/
structure ER (s : List SAct) (Q : Nat → Nat → Prop) (R : List Nat) : Prop where
  len : R.length = 5
  bit : ∀ t u, (row R t).testBit u = true ↔ t ≠ u ∧ ∃ a b, Q a b ∧ a < b ∧ b < s.length ∧ (sat s a).tx = t ∧ (sat s b).tx = u ∧ clash (sat s a) (sat s b) = true
theorem row_zeros (t : Nat) : row (List.replicate 5 0) t = 0 := by
  unfold row
  rw [List.getElem?_replicate]
  split <;> rfl
theorem ER.zero {s : List SAct} {Q : Nat → Nat → Prop} (h : ∀ a b, a < b → ¬ Q a b) : ER s Q (List.replicate 5 0) :=
  ⟨rfl, fun t u => by
    rw [row_zeros, Nat.zero_testBit]
    constructor
    · intro e; cases e
    · rintro ⟨_, a, b, q, hab, _⟩; exact absurd q (h a b hab)⟩
theorem ER.lt {s : List SAct} {Q : Nat → Nat → Prop} {R : List Nat} (h : ER s Q R) (hs : AOk s) (t : Nat) : row R t < 32 :=
  Nat.lt_pow_two_of_testBit (n := 5) _ (fun u hu => by
    cases e : (row R t).testBit u with
    | false => rfl
    | true =>
      obtain ⟨_, a, b, _, _, _, _, h2, _⟩ := (h.bit t u).1 e
      have := hs.tx b
      omega)
theorem ER.hit {s : List SAct} {Q Q' : Nat → Nat → Prop} {R : List Nat} (h : ER s Q R) (hs : AOk s) {a b : Nat} (hab : a < b) (hb : b < s.length) (hm : msB (sat s a) (sat s b) = true) (hQ : ∀ x y, x < y → (Q' x y ↔ Q x y ∨ (x = a ∧ y = b))) : ER s Q' (more R (sat s a).tx (sat s b).tx) := by
  have ha5 : (sat s a).tx < R.length := by rw [h.len]; exact hs.tx a
  unfold msB at hm
  rw [Bool.and_eq_true, bne_iff_ne] at hm
  refine ⟨by rw [more_length, h.len], fun t u => ?_⟩
  rw [more_bit ha5, h.bit]
  constructor
  · rintro (⟨h1, x, y, h2, h3, h4, h5, h6, h7⟩ | ⟨rfl, rfl⟩)
    · exact ⟨h1, x, y, (hQ x y h3).2 (.inl h2), h3, h4, h5, h6, h7⟩
    · exact ⟨hm.1, a, b, (hQ a b hab).2 (.inr ⟨rfl, rfl⟩), hab, hb, rfl, rfl, hm.2⟩
  · rintro ⟨h1, x, y, h2, h3, h4, h5, h6, h7⟩
    rcases (hQ x y h3).1 h2 with q | ⟨rfl, rfl⟩
    · exact .inl ⟨h1, x, y, q, h3, h4, h5, h6, h7⟩
    · exact .inr ⟨h5.symm, h6.symm⟩
theorem ER.miss {s : List SAct} {Q Q' : Nat → Nat → Prop} {R : List Nat} (h : ER s Q R) {a b : Nat} (hm : msB (sat s a) (sat s b) = false) (hQ : ∀ x y, x < y → (Q' x y ↔ Q x y ∨ (x = a ∧ y = b))) : ER s Q' R := by
  refine ⟨h.len, fun t u => ?_⟩
  rw [h.bit]
  constructor
  · rintro ⟨h1, x, y, h2, h3, h4, h5, h6, h7⟩
    exact ⟨h1, x, y, (hQ x y h3).2 (.inl h2), h3, h4, h5, h6, h7⟩
  · rintro ⟨h1, x, y, h2, h3, h4, h5, h6, h7⟩
    rcases (hQ x y h3).1 h2 with q | ⟨rfl, rfl⟩
    · exact ⟨h1, x, y, q, h3, h4, h5, h6, h7⟩
    · exfalso
      have : msB (sat s x) (sat s y) = true := by
        unfold msB
        rw [Bool.and_eq_true, bne_iff_ne]
        exact ⟨by rw [h5, h6]; exact h1, h7⟩
      rw [hm] at this; cases this
theorem ER.congr {s : List SAct} {Q Q' : Nat → Nat → Prop} {R : List Nat} (h : ER s Q R) (hQ : ∀ x y, x < y → y < s.length → (Q' x y ↔ Q x y)) : ER s Q' R := by
  refine ⟨h.len, fun t u => ?_⟩
  rw [h.bit]
  constructor
  · rintro ⟨h1, x, y, h2, h3, h4, h5⟩
    exact ⟨h1, x, y, (hQ x y h3 h4).2 h2, h3, h4, h5⟩
  · rintro ⟨h1, x, y, h2, h3, h4, h5⟩
    exact ⟨h1, x, y, (hQ x y h3 h4).1 h2, h3, h4, h5⟩
theorem ER.all {s : List SAct} {Q : Nat → Nat → Prop} {R : List Nat} (h : ER s Q R) (hs : AOk s) (hQ : ∀ x y, x < y → y < s.length → Q x y) : R = edR s := by
  apply ext_rows (by rw [h.len, edR_len])
  intro i _ j
  rw [Bool.eq_iff_iff, edR_bit, h.bit]
  constructor
  · rintro ⟨h1, x, y, h2, h3, h4, h5, h6, h7⟩
    exact ⟨h5 ▸ hs.tx x, h6 ▸ hs.tx y, h1, x, y, h3, h4, h5, h6, h7⟩
  · rintro ⟨_, _, h1, x, y, h3, h4, h5, h6, h7⟩
    exact ⟨h1, x, y, hQ x y h3 h4, h3, h4, h5, h6, h7⟩
/-! ### the first row is the least by trying -/
theorem lexLe_lxG : ∀ {a b : List Nat}, LexLe a b → LxG a b
  | [], [], _ => trivial
  | x :: r, y :: s, h => by
    simp only [LexLe] at h
    simp only [LxG]
    rcases h with h | h
    · exact .inl h
    · exact .inr ⟨h.1, lexLe_lxG h.2⟩
theorem first_serR {E : List Nat} (hok : Ok E) (hr : ¬ Ring E) : SerR E (firstR (turned E)) ∧ ∀ l, SerR E l → LxG (firstR (turned E)) l := by
  have hd : Dual (clo E) (turned E) := ⟨by rw [clo_length, turned_length], fun i j => by rw [Bool.eq_iff_iff, turned_bit hok, clo_bit]⟩
  have htr : Tr (clo E) := by
    refine ⟨fun i => ?_, fun i j k h1 h2 => ?_⟩
    · cases hb : (row (clo E) i).testBit i with
      | false => rfl
      | true => exact absurd ⟨i, (clo_bit E i i).1 hb⟩ hr
    · exact (clo_bit E i k).2 (clo_trans hok ((clo_bit E i j).1 h1) ((clo_bit E j k).1 h2))
  have hcb : cb (clo E).length (left 0) = (turned E).length := by
    have := stood_left hd htr 0 (Nat.zero_le _)
    have e : stoodN (turned E) 0 = 0 := rfl
    rw [e, Nat.sub_zero] at this
    rw [this, hd.1]
  have hfl : firstR (turned E) = firstL (turned E) (cb (clo E).length (left 0)) 0 := by rw [firstR_eq, hcb]
  have hlin := (goes_lin hd htr (firstL (turned E) (cb (clo E).length (left 0)) 0) 0).2 (first_goes hd htr _ 0 rfl)
  rw [← hfl] at hlin
  refine ⟨⟨hlin.nd, fun x => ?_, fun t u ht hu e => ?_⟩, fun l hl => ?_⟩
  · rw [hlin.mem, clo_length]
    exact ⟨fun k => k.1, fun k => ⟨k, by simp [left]⟩⟩
  · refine hlin.ord t u ((hlin.mem t).2 ⟨by rw [clo_length]; exact ht, by simp [left]⟩) ((hlin.mem u).2 ⟨by rw [clo_length]; exact hu, by simp [left]⟩) ?_
    exact (clo_bit E t u).2 (clo_base e)
  · have key : ∀ i j, Clo E i j → l.idxOf i < l.idxOf j := fun i j hj => by
      have hi := clo_in hj
      exact (clo_least (fun j => j < E.length ∧ l.idxOf i < l.idxOf j) (fun j e => by
        have hj := clo_to hok (clo_base e)
        exact ⟨hj, hl.ord i j hi hj e⟩) (fun j m h1 e => by
        have hm := clo_to hok (clo_base e)
        have := hl.ord j m h1.1 hm e
        exact ⟨hm, by omega⟩) hj).2
    have hL : Lin (clo E).length (lt (clo E)) (left 0) l := by
      refine ⟨hl.nd, fun x => ?_, fun t u _ _ e => ?_⟩
      · rw [hl.mem, clo_length]
        exact ⟨fun k => ⟨k, by simp [left]⟩, fun k => k.1⟩
      · exact key t u ((clo_bit E t u).1 e)
    obtain ⟨h1, h2⟩ := (goes_lin hd htr l 0).1 hL
    rw [hfl]
    exact lexLe_lxG (first_least hd htr _ 0 l rfl h1 h2)
theorem first_gb {E : List Nat} (hok : Ok E) (hE : ∀ t, (row E t).testBit t = false) (hr : ¬ Ring E) : gb E.length (canS E) (fun told i => told ++ [i]) E.length [] = some (firstR (turned E)) := by
  obtain ⟨l, e⟩ := (serial_iff hok hE).2 hr
  obtain ⟨h1, h2⟩ := serial_row hE e
  obtain ⟨h3, h4⟩ := first_serR hok hr
  rw [e]
  have hlen : l.length = (firstR (turned E)).length := by
    rw [firstR_length, turned_length]
    exact (gb_sound e).1
  rw [lxG_anti hlen (h2 _ h3) (h4 _ h1)]
theorem gb_ring {E : List Nat} (hok : Ok E) (hE : ∀ t, (row E t).testBit t = false) (hr : Ring E) : gb E.length (canS E) (fun told i => told ++ [i]) E.length [] = none := by
  cases e : gb E.length (canS E) (fun told i => told ++ [i]) E.length [] with
  | none => rfl
  | some l => exact absurd hr ((serial_iff hok hE).1 ⟨l, e⟩)
/-- the row of a serial schedule keeps all that clash -/
theorem first_keeps {s : List SAct} (hs : AOk s) (hr : ¬ Ring (edR s)) : Keeps s (ordd s (firstR (turned (edR s)))) := by
  obtain ⟨h1, _⟩ := first_serR (edR_ok s) hr
  refine ordd_keeps h1.nd (fun i _ => (h1.mem _).2 (by rw [edR_len]; exact hs.tx i)) (fun t u h => ?_)
  obtain ⟨a, b⟩ := edge_in hs h
  exact h1.ord t u (by rw [edR_len]; exact a) (by rw [edR_len]; exact b) ((edR_bit s t u).2 ⟨a, b, h⟩)
/-- done one behind the other it is serial -/
theorem ordd_serial {s : List SAct} {r : List Nat} (hn : r.Nodup) : ¬ Ring (edR (inRow s (ordd s r))) := fun ⟨i, k⟩ => by
  have key := clo_least (fun j => r.idxOf i < r.idxOf j) (fun j e => ordd_edges hn ((edR_bit _ _ _).1 e).2.2) (fun j m h1 e => by
    have := ordd_edges hn ((edR_bit _ _ _).1 e).2.2
    omega) k
  omega
end Go.Proofs.YtajiichehffaaaaDoor.M
