/- What is wrong with letters, and with words of them, as the number of its error. No walk. -/
import Derived.Test.YtejnjokjkinpkaaDoorWfs
import Derived.Test.YtejnjokjkinpkaaDoorFaces
import Derived.Test.YtejnjokjkinpkaaDoorSin
namespace Go.Proofs.YtejnjokjkinpkaaDoor

/-- What is wrong with letters: the number of its error, 0 if nothing is. -/
def frcode (zs : List Int) : Nat := if 6 < zs.length then 4 else if allSets zs then (if M.frB (nats zs) then 0 else 6) else 1
def allT (ws : List Int) (n : Nat) : Bool := ws.all fun z => thingB z n
/-- What is wrong with a word. -/
def wcode (zs ws : List Int) : Nat := if frcode zs = 0 then (if 24 < ws.length then 4 else if allT ws zs.length then 0 else 1) else frcode zs
/-- Letters with which nothing is wrong. -/
structure FOk (F : List Nat) : Prop where
  len : F.length ≤ 6
  ok : M.Ok F
  fr : M.Fr (M.fr F)
/-- A word with which nothing is wrong. -/
structure WOk (F u : List Nat) : Prop where
  len : u.length ≤ 24
  lt : ∀ x, x ∈ u → x < F.length
theorem FOk.lt {F : List Nat} (h : FOk F) (i : Nat) : M.row F i < 64 := by
  have h1 := h.ok i
  have h2 : 2 ^ F.length ≤ 2 ^ 6 := Nat.pow_le_pow_right (by omega) h.len
  omega
theorem WOk.row {F u : List Nat} (h : WOk F u) {i : Nat} (hi : i < u.length) : M.row u i < F.length := h.lt _ (M.row_mem hi)
theorem frcode_full {zs : List Int} (h : 6 < zs.length) : frcode zs = 4 := by unfold frcode; rw [if_pos h]
theorem frcode_range {zs : List Int} (h : ¬ 6 < zs.length) (h1 : allSets zs = false) : frcode zs = 1 := by unfold frcode; rw [if_neg h, if_neg (by rw [h1]; simp)]
theorem frcode_clash {zs : List Int} (h : ¬ 6 < zs.length) (h1 : allSets zs = true) (h2 : M.frB (nats zs) = false) : frcode zs = 6 := by unfold frcode; rw [if_neg h, if_pos h1, if_neg (by rw [h2]; simp)]
theorem frcode_none {zs : List Int} (h : ¬ 6 < zs.length) (h1 : allSets zs = true) (h2 : M.frB (nats zs) = true) : frcode zs = 0 := by unfold frcode; rw [if_neg h, if_pos h1, if_pos h2]
theorem ints_nats {zs : List Int} (h : allSets zs = true) : zs = ints (nats zs) := by
  apply List.ext_getElem
  · rw [ints_length, nats_length]
  · intro i h1 h2
    have e := (set_nat h i).1
    rw [List.getElem?_eq_getElem h1] at e
    have e2 := ints_get (nats zs) i
    rw [List.getElem?_eq_getElem h2] at e2
    simp only [Option.getD_some] at e e2
    rw [e, e2]
theorem frcode_get {zs : List Int} (h : frcode zs = 0) : ∃ F, zs = ints F ∧ FOk F := by
  unfold frcode at h
  by_cases h1 : 6 < zs.length
  · rw [if_pos h1] at h; omega
  · rw [if_neg h1] at h
    by_cases h2 : allSets zs = true
    · rw [if_pos h2] at h
      by_cases h3 : M.frB (nats zs) = true
      · exact ⟨nats zs, ints_nats h2, by rw [nats_length]; omega, nats_ok h2, M.fr_Fr ((M.frB_iff (nats_ok h2)).1 h3)⟩
      · rw [if_neg h3] at h; omega
    · rw [if_neg h2] at h; omega
theorem frcode_ints {F : List Nat} (h : FOk F) : frcode (ints F) = 0 :=
  frcode_none (by rw [ints_length]; have := h.len; omega) (allSets_ints h.ok) (by
    rw [nats_ints]
    exact (M.frB_iff h.ok).2 fun a _ => ⟨h.fr.self a, fun b e => by rw [h.fr.sym]; exact e⟩)
theorem allT_iff {ws : List Int} {n : Nat} : allT ws n = true ↔ ∀ k, k < ws.length → thingB (ws[k]?.getD 0) n = true := by
  unfold allT
  rw [List.all_eq_true]
  constructor
  · intro h k hk
    have := h ws[k] (List.getElem_mem hk)
    simpa [hk] using this
  · intro h z hz
    obtain ⟨k, hk, rfl⟩ := List.getElem_of_mem hz
    have := h k hk
    simpa [hk] using this
theorem allT_not {ws : List Int} {n k : Nat} (hk : k < ws.length) (h : thingB (ws[k]?.getD 0) n = false) : allT ws n = false := by
  cases e : allT ws n with
  | false => rfl
  | true => rw [allT_iff.1 e k hk] at h; cases h
theorem ints_things {ws : List Int} {n : Nat} (h : allT ws n = true) : ws = ints (nats ws) ∧ ∀ x, x ∈ nats ws → x < n := by
  have hz : ∀ z, z ∈ ws → 0 ≤ z ∧ z < n := fun z hz => by
    unfold allT at h
    rw [List.all_eq_true] at h
    have := h z hz
    unfold thingB at this
    exact of_decide_eq_true this
  constructor
  · apply List.ext_getElem
    · rw [ints_length, nats_length]
    · intro i h1 h2
      have := (hz _ (List.getElem_mem h1)).1
      simp [ints, nats]
      omega
  · intro x hx
    unfold nats at hx
    rw [List.mem_map] at hx
    obtain ⟨z, h1, rfl⟩ := hx
    have := hz z h1
    omega
theorem wcode_get {zs ws : List Int} (h : wcode zs ws = 0) : ∃ F u, zs = ints F ∧ ws = ints u ∧ FOk F ∧ WOk F u := by
  unfold wcode at h
  by_cases h0 : frcode zs = 0
  · rw [if_pos h0] at h
    obtain ⟨F, rfl, hF⟩ := frcode_get h0
    by_cases h1 : 24 < ws.length
    · rw [if_pos h1] at h; omega
    · rw [if_neg h1] at h
      by_cases h2 : allT ws (ints F).length = true
      · rw [ints_length] at h2
        obtain ⟨e1, e2⟩ := ints_things h2
        exact ⟨F, nats ws, rfl, e1, hF, by rw [nats_length]; omega, e2⟩
      · rw [if_neg h2] at h; omega
  · rw [if_neg h0] at h; exact absurd h h0
theorem wcode_ints {F u : List Nat} (hF : FOk F) (hu : WOk F u) : wcode (ints F) (ints u) = 0 := by
  unfold wcode
  rw [if_pos (frcode_ints hF), if_neg (by rw [ints_length]; have := hu.len; omega), if_pos]
  rw [allT_iff]
  intro k hk
  rw [ints_length] at hk
  rw [ints_get, ints_length]
  exact thingB_nat (hu.row hk)
theorem wcode_letters {zs ws : List Int} (h : frcode zs ≠ 0) : wcode zs ws = frcode zs := by unfold wcode; rw [if_neg h]
theorem wcode_full {zs ws : List Int} (h : frcode zs = 0) (h1 : 24 < ws.length) : wcode zs ws = 4 := by unfold wcode; rw [if_pos h, if_pos h1]
theorem wcode_range {zs ws : List Int} (h : frcode zs = 0) (h1 : ¬ 24 < ws.length) (h2 : allT ws zs.length = false) : wcode zs ws = 1 := by unfold wcode; rw [if_pos h, if_neg h1, if_neg (by rw [h2]; simp)]
theorem wcode_none {zs ws : List Int} (h : frcode zs = 0) (h1 : ¬ 24 < ws.length) (h2 : allT ws zs.length = true) : wcode zs ws = 0 := by unfold wcode; rw [if_pos h, if_neg h1, if_pos h2]
/-- What is wrong with two words: with the first one, then with the other one. -/
def scode (zs vs ws : List Int) : Nat := if wcode zs vs = 0 then wcode zs ws else wcode zs vs
theorem ints_inj {a b : List Nat} (h : ints a = ints b) : a = b := by
  have := congrArg nats h
  rwa [nats_ints, nats_ints] at this
theorem scode_get {zs vs ws : List Int} (h : scode zs vs ws = 0) : ∃ F v u, zs = ints F ∧ vs = ints v ∧ ws = ints u ∧ FOk F ∧ WOk F v ∧ WOk F u := by
  unfold scode at h
  by_cases h0 : wcode zs vs = 0
  · rw [if_pos h0] at h
    obtain ⟨F, v, rfl, rfl, hF, hv⟩ := wcode_get h0
    obtain ⟨F', u, e, rfl, _, hu⟩ := wcode_get h
    obtain rfl := ints_inj e
    exact ⟨F, v, u, rfl, rfl, rfl, hF, hv, hu⟩
  · rw [if_neg h0] at h; exact absurd h h0
theorem scode_ints {F v u : List Nat} (hF : FOk F) (hv : WOk F v) (hu : WOk F u) : scode (ints F) (ints v) (ints u) = 0 := by
  unfold scode; rw [if_pos (wcode_ints hF hv), wcode_ints hF hu]
end Go.Proofs.YtejnjokjkinpkaaDoor
