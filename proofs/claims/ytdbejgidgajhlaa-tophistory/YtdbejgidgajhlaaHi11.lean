/- The least good row of a history (package hist, least, Atomic, Weak); what lay in memory lies as it lay. -/
import Derived.Test.YtdbejgidgajhlaaHi10
import Derived.Laws.EntriesVeiled
namespace Go.Proofs.Ytdbejgidgajhlaa
open Go.RowKit

theorem find_all (all : Bool) (h : List M.HOp) (p : Option Addr) (n cap S base : Nat) (hl : h.length = n) (hk : HOk h) : ∀ k, FindSpec all h p n cap S base k
  | 0 => find_zero all h p n cap S base
  | k + 1 => find_step all h p n cap S base k hl hk (find_all all h p n cap S base hl hk k)
set_option maxRecDepth 100000 in
set_option maxHeartbeats 2000000 in
theorem least_err (all : Bool) (zs : List Oz) (p : Option Addr) (n cap c : Nat) (w : World) (hl : zs.length = n) (hmax : n ≤ maxLen) (hcap : n ≤ cap) (hc : HasO zs p w) (h0 : hcd zs = c) (hne : c ≠ 0) :
    Calls Try.prog 10 #[.slice p n cap, bfV all] w fun e w' => e = .returned (.tuple #[.bool false, .slice none 0 0, terr c]) ∧ Below w.heap.size w w' := by
  have hch := hcheck_ok zs p n cap w hl hmax hcap hc
  rw [h0, terr_ne hne] at hch
  rw [terr_ne hne]
  clear hne h0 hc
  go_enter Try.func10, Try.ntmps10
  go_wp2_with fail
  refine hch.mono ?_
  rintro e w2 ⟨rfl, hB2⟩
  clear hch
  go_wp2_with fail
  exact bodyPost_ret (by simp [results, Try.results10, go_sem]) rfl ⟨rfl, hB2⟩
set_option maxRecDepth 100000 in
set_option maxHeartbeats 4000000 in
theorem least_ok (all : Bool) (h : List M.HOp) (p : Option Addr) (n cap : Nat) (w : World) (hl : h.length = n) (hk : HOk h) (h0 : hcd (hz h) = 0) (hcap : n ≤ cap) (hc : HasO (hz h) p w) :
    Calls Try.prog 10 #[.slice p n cap, bfV all] w fun e w' => ∃ v, e = .returned (.tuple #[.bool (M.best all h n 0 (fun _ => 0)).isSome, v, .nilIface]) ∧
      (∀ l, M.best all h n 0 (fun _ => 0) = some l → ∃ q cq, v = .slice q n cq ∧ HasI (ints l) q w') ∧ (M.best all h n 0 (fun _ => 0) = none → v = .slice none 0 0) ∧ Below w.heap.size w w' := by
  have hn10 := hk.len
  have hch := hcheck_ok (hz h) p n cap w (by rw [hz_len]; exact hl) (by unfold maxLen; omega) hcap hc
  rw [h0, terr_zero] at hch
  have hcb := hc.b
  have hmk := run_make_omap
  clear hc h0
  go_enter Try.func10, Try.ntmps10
  go_wp2_with fail
  refine hch.mono ?_
  rintro e w2 ⟨rfl, hB2⟩
  obtain ⟨w3, hw3⟩ : ∃ w3, w2.alloc (.map #[] 0) = w3 := ⟨_, rfl⟩
  have s3 : w3.heap.size = w2.heap.size + 1 := by subst hw3; simp
  obtain ⟨w4, hw4⟩ : ∃ w4, w3.alloc (.cells #[.slice p n cap, bfV all, .slice none 0 0, .map (some w2.heap.size)] 46) = w4 := ⟨_, rfl⟩
  have hB3 : Below w2.heap.size w2 w3 := hw3 ▸ bel_al (Below.refl _ _) _
  have hB4 : Below w3.heap.size w3 w4 := hw4 ▸ bel_al (Below.refl _ _) _
  have hC4 : Below w.heap.size w w4 := bel_on (bel_on hB2 hB3) hB4
  have hOm : Om (fun _ => none) 0 w2.heap.size w4 := by
    have : Om (fun _ => none) 0 w2.heap.size w3 := hw3 ▸ om_made w2 0
    exact this.at_ (hB4.block _ (by omega))
  have hSV : SV (fun b => w.heap.size ≤ b) (w2.heap.size + 1) (.slice p n cap) (bfV all) [] (fun _ => []) 0 w4 := by
    refine ⟨.slice none 0 0, w2.heap.size, fun _ => none, ?_, ⟨rfl, .inl ⟨rfl, rfl⟩⟩, hOm, (fun d B h => by cases h), (fun _ _ => rfl), (fun d e B h => by cases h), (fun d B h => by cases h), ?_, ?_, (fun g h => by cases h), (fun d B h => by cases h)⟩
    · have := Blk.new w3 #[.slice p n cap, bfV all, .slice none 0 0, .map (some w2.heap.size)] 46
      rw [hw4, s3] at this
      exact this
    · have := hB2.size
      show w.heap.size ≤ w2.heap.size + 1
      omega
    · exact hB2.size
  have hcnt : M.cnt n 0 + n = n := by rw [M.cnt_none]; omega
  have hfind := find_all all h p n cap (w2.heap.size + 1) w.heap.size hl hk n (fun b => w.heap.size ≤ b) 0 0 0 0 [] (fun _ => []) 0 w4 hSV (fun _ h => h) (hcb.later hC4 (Nat.le_refl _)) (fun b hb => Nat.le_trans hC4.size hb) (by simp) (by omega) hcnt (by omega) (by omega) (by omega)
    (fun e l hl => by cases hl) (by have := tryT_le (k := n) (by omega); omega)
  rw [show M.vf [0, 0, 0] = fun _ => 0 from M.vf_zero 3] at hfind
  rw [show opsV 0 = .agg #[.bool false, .bool false, .bool false, .bool false, .bool false, .bool false, .bool false, .bool false, .bool false, .bool false] from rfl, show vaV 0 0 0 = .agg #[.int .i64 0, .int .i64 0, .int .i64 0] from rfl] at hfind
  have HC4 : Hid (Below w.heap.size w w4) := hC4
  obtain ⟨f, hf⟩ : ∃ f, bfV all = .func (.func f) #[] #[] := by cases all <;> exact ⟨_, rfl⟩
  have HF : Hid (bfV all = .func (.func f) #[] #[]) := hf
  rw [hf] at hw4
  rw [hf]
  clear hch hB2 hB3 hB4 hC4 hOm hSV hcnt hcb hf
  obtain ⟨R, hR⟩ : ∃ R, M.best all h n 0 (fun _ => 0) = R := ⟨_, rfl⟩
  have HR : Hid (M.best all h n 0 (fun _ => 0) = R) := hR
  rw [hR] at hfind
  clear hR
  cases R with
  | none =>
    go_wp2_with fail
    refine hfind.mono ?_
    rintro e w5 ⟨rfl, ⟨L', hS5, -⟩, hF5⟩
    have HB5 : Hid (Below w.heap.size w w5) := HC4.out.trans (hF5.below HC4.out.size (fun k hk ho => by omega))
    clear hS5 hF5 hfind
    go_wp2_with fail
    exact bodyPost_ret (v := .tuple #[.bool false, .slice none 0 0, .nilIface]) (by simp [results, Try.results10, go_sem]) rfl ⟨.slice none 0 0, by rw [HR.out]; rfl, (fun l e => by rw [HR.out] at e; cases e), (fun _ => rfl), HB5.out⟩
  | some l =>
    go_wp2_with fail
    refine hfind.mono ?_
    rintro e w5 ⟨rfl, ⟨L', hS5, -⟩, hF5⟩
    have HB5 : Hid (Below w.heap.size w w5) := HC4.out.trans (hF5.below HC4.out.size (fun k hk ho => by omega))
    obtain ⟨v, Mb, ib, h5⟩ := hS5
    have h5' : Sr (fun b => w.heap.size ≤ b) (w2.heap.size + 1) (.slice p n cap) (bfV all) l L' (0 + tryT n) v Mb ib w5 := by simpa [M.told] using h5
    have hrow := h5'.row
    have q2 := h5'.blk.cell 2
    have hS5 := h5'.blk.lt
    have hll : l.length = n := (M.best_sound HR.out).1
    obtain ⟨pv, cv, rfl⟩ := owns_slice hrow
    rw [hll] at hrow q2
    have HI : Hid (HasI (ints l) pv w5) := hasI_of_owns hll (owns_base hrow (Nat.zero_le _))
    clear h5 h5' hrow hF5 hfind
    go_wp2_with fail
    go_big_quiet (fail)
    go_wp2_with fail
    refine bodyPost_ret (v := .tuple #[.bool true, .slice pv n cv, .nilIface]) (by simp [results, Try.results10, go_sem]) rfl ⟨.slice pv n cv, by rw [HR.out]; rfl, fun l2 e => ?_, (fun e => by rw [HR.out] at e; cases e), bel_drN HB5.out _⟩
    rw [HR.out] at e
    cases e
    exact ⟨_, _, rfl, HI.out.later (bel_drN (Below.refl _ _) _)⟩
/-- the answers of Atomic and Weak -/
def AnsOk (all : Bool) (h : List M.HOp) (n : Nat) (e : Ending) (w w' : World) : Prop := ∃ v, e = .returned (.tuple #[.bool (M.best all h n 0 (fun _ => 0)).isSome, v, .nilIface]) ∧
      (∀ l, M.best all h n 0 (fun _ => 0) = some l → ∃ q cq, v = .slice q n cq ∧ HasI (ints l) q w') ∧ (M.best all h n 0 (fun _ => 0) = none → v = .slice none 0 0) ∧ Below w.heap.size w w'
set_option maxRecDepth 100000 in
theorem atomic_err (zs : List Oz) (p : Option Addr) (n cap c : Nat) (w : World) (hl : zs.length = n) (hmax : n ≤ maxLen) (hcap : n ≤ cap) (hc : HasO zs p w) (h0 : hcd zs = c) (hne : c ≠ 0) :
    Calls Try.prog 6 #[.slice p n cap] w fun e w' => e = .returned (.tuple #[.bool false, .slice none 0 0, terr c]) ∧ Below w.heap.size w w' := by
  have hf := least_err true zs p n cap c w hl hmax hcap hc h0 hne
  clear hne
  go_enter Try.func6, Try.ntmps6
  go_wp2_with fail
  refine hf.mono ?_
  rintro e w2 ⟨rfl, hB2⟩
  go_wp2_with fail
  exact bodyPost_ret (by simp [results, Try.results6, go_sem]) rfl ⟨rfl, hB2⟩
set_option maxRecDepth 100000 in
theorem weak_err (zs : List Oz) (p : Option Addr) (n cap c : Nat) (w : World) (hl : zs.length = n) (hmax : n ≤ maxLen) (hcap : n ≤ cap) (hc : HasO zs p w) (h0 : hcd zs = c) (hne : c ≠ 0) :
    Calls Try.prog 7 #[.slice p n cap] w fun e w' => e = .returned (.tuple #[.bool false, .slice none 0 0, terr c]) ∧ Below w.heap.size w w' := by
  have hf := least_err false zs p n cap c w hl hmax hcap hc h0 hne
  clear hne
  go_enter Try.func7, Try.ntmps7
  go_wp2_with fail
  refine hf.mono ?_
  rintro e w2 ⟨rfl, hB2⟩
  go_wp2_with fail
  exact bodyPost_ret (by simp [results, Try.results7, go_sem]) rfl ⟨rfl, hB2⟩
set_option maxRecDepth 100000 in
theorem atomic_ok (h : List M.HOp) (p : Option Addr) (n cap : Nat) (w : World) (hl : h.length = n) (hk : HOk h) (h0 : hcd (hz h) = 0) (hcap : n ≤ cap) (hc : HasO (hz h) p w) :
    Calls Try.prog 6 #[.slice p n cap] w fun e w' => AnsOk true h n e w w' := by
  have hf := least_ok true h p n cap w hl hk h0 hcap hc
  go_enter Try.func6, Try.ntmps6
  go_wp2_with fail
  refine hf.mono ?_
  rintro e w2 ⟨v, rfl, h1⟩
  have H1 : Hid _ := h1
  clear h1 hf
  go_wp2_with fail
  exact bodyPost_ret (by simp [results, Try.results6, go_sem]) rfl ⟨v, rfl, H1.out⟩
set_option maxRecDepth 100000 in
theorem weak_ok (h : List M.HOp) (p : Option Addr) (n cap : Nat) (w : World) (hl : h.length = n) (hk : HOk h) (h0 : hcd (hz h) = 0) (hcap : n ≤ cap) (hc : HasO (hz h) p w) :
    Calls Try.prog 7 #[.slice p n cap] w fun e w' => AnsOk false h n e w w' := by
  have hf := least_ok false h p n cap w hl hk h0 hcap hc
  go_enter Try.func7, Try.ntmps7
  go_wp2_with fail
  refine hf.mono ?_
  rintro e w2 ⟨v, rfl, h1⟩
  have H1 : Hid _ := h1
  clear h1 hf
  go_wp2_with fail
  exact bodyPost_ret (by simp [results, Try.results7, go_sem]) rfl ⟨v, rfl, H1.out⟩
end Go.Proofs.Ytdbejgidgajhlaa
