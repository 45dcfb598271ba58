/- A bank in memory (package snap): its own block, that of its processes, and the rows of its ways; what a store does to it. No walk. -/
import Derived.Test.YtplplgpfglaajaaDoorFrm
import Derived.Test.YtplplgpfglaajaaDoorSns
namespace Go.Proofs.YtplplgpfglaajaaDoor
open Go.RowKit
namespace M
/-- a thing is sent -/
def sendB (b : Bk) (p q : Nat) (x : Int) : Bk := { b with wy := upd2 b.wy p q (b.wy p q ++ [x]) }
/-- a process notes; its marks are sent to those below k -/
def noteK (b : Bk) (p k : Nat) : Bk := { b with be := true, no := upd1 b.no p (b.mo p), wy := fun a c => if a = p ∧ c ≠ p ∧ c < k then b.wy a c ++ [-1] else b.wy a c }
theorem noteK_end (n : Nat) (b : Bk) (p : Nat) : noteK b p n = noteB n b p := rfl
theorem noteK_self (b : Bk) (p : Nat) : noteK b p (p + 1) = noteK b p p := by
  unfold noteK
  congr 1
  funext a c
  by_cases h : a = p ∧ c ≠ p ∧ c < p
  · rw [if_pos h, if_pos ⟨h.1, h.2.1, by omega⟩]
  · rw [if_neg h, if_neg (fun x => h ⟨x.1, x.2.1, by omega⟩)]
theorem noteK_wy (b : Bk) (p k a c : Nat) : (noteK b p k).wy a c = if a = p ∧ c ≠ p ∧ c < k then b.wy a c ++ [-1] else b.wy a c := rfl
theorem noteK_send (b : Bk) {p k : Nat} (h : k ≠ p) : sendB (noteK b p k) p k (-1) = noteK b p (k + 1) := by
  have H : upd2 (noteK b p k).wy p k ((noteK b p k).wy p k ++ [-1]) = (noteK b p (k + 1)).wy := by
    funext a c
    by_cases e : a = p ∧ c = k
    · obtain ⟨rfl, rfl⟩ := e
      rw [upd2_same, noteK_wy, noteK_wy, if_neg (fun x => absurd x.2.2 (Nat.lt_irrefl _)), if_pos ⟨rfl, h, Nat.lt_succ_self _⟩]
    · rw [upd2_other _ _ e, noteK_wy, noteK_wy]
      by_cases h1 : a = p ∧ c ≠ p ∧ c < k
      · rw [if_pos h1, if_pos ⟨h1.1, h1.2.1, by omega⟩]
      · have h2 : ¬ (a = p ∧ c ≠ p ∧ c < k + 1) := fun x => by
          have h3 : ¬ c = k := fun y => e ⟨x.1, y⟩
          exact h1 ⟨x.1, x.2.1, by omega⟩
        rw [if_neg h1, if_neg h2]
  unfold sendB
  rw [H]
  rfl
end M
/-- Cell k of a bank's block: the processes; then of each way, by to and from, what waits, whether a mark came, what was noted. -/
def bkF (pv : Value) (v : Nat → Nat → Value) (b : M.Bk) (k : Nat) : Value :=
  if k = 0 then pv else if (k - 1) % 3 = 0 then v ((k - 1) / 15) ((k - 1) / 3 % 5) else if (k - 1) % 3 = 1 then .bool (b.he ((k - 1) / 15) ((k - 1) / 3 % 5)) else .int .i64 (b.ca ((k - 1) / 15) ((k - 1) / 3 % 5))
/-- Cell k of the block of processes: of each its money, whether it noted, and what it had then. -/
def prF (b : M.Bk) (k : Nat) : Value :=
  if k % 3 = 0 then .int .i64 (b.mo (k / 3)) else if k % 3 = 1 then .bool (decide (0 ≤ b.no (k / 3))) else .int .i64 (if 0 ≤ b.no (k / 3) then b.no (k / 3) else 0)
/-- A bank of n processes. -/
structure BVr (w : World) (S Pb : Nat) (v : Nat → Nat → Value) (n : Nat) (b : M.Bk) : Prop where
  blk : w.rowIs S 58 76 (bkF (.slice (some ⟨Pb, 0, none⟩) n n) v b)
  prs : w.rowIs Pb 52 (n * 3) (prF b)
  way : ∀ q p, q < 5 → p < 5 → w.ownsRow 0 3 1 (v q p) (b.wy p q).length (zc (b.wy p q))
  inj : ∀ q p q' p' g, q < 5 → p < 5 → q' < 5 → p' < 5 → (v q p).ownBlock = some g → (v q' p').ownBlock = some g → q = q' ∧ p = p'
/-- The blocks of a bank. -/
structure Foot (O : Nat → Prop) (S Pb : Nat) (v : Nat → Nat → Value) : Prop where
  s : O S
  p : O Pb
  v : ∀ q p g, q < 5 → p < 5 → (v q p).ownBlock = some g → O g
/-- A bank of n processes, all of whose blocks are in O. -/
def BV (O : Nat → Prop) (S n : Nat) (b : M.Bk) (w : World) : Prop := ∃ Pb v, BVr w S Pb v n b ∧ Foot O S Pb v
section
variable {w : World} {S Pb : Nat} {v : Nat → Nat → Value} {n : Nat} {b : M.Bk}
theorem bkF_ways (pv : Value) (v : Nat → Nat → Value) (b : M.Bk) {q p : Nat} (hp : p < 5) : bkF pv v b (1 + q * 15 + p * 3) = v q p := by
  unfold bkF
  rw [if_neg (by omega), if_pos (by omega), show (1 + q * 15 + p * 3 - 1) / 15 = q by omega, show (1 + q * 15 + p * 3 - 1) / 3 % 5 = p by omega]
theorem bkF_mark (pv : Value) (v : Nat → Nat → Value) (b : M.Bk) {q p : Nat} (hp : p < 5) : bkF pv v b (1 + q * 15 + p * 3 + 1) = .bool (b.he q p) := by
  unfold bkF
  rw [if_neg (by omega), if_neg (by omega), if_pos (by omega), show (1 + q * 15 + p * 3 + 1 - 1) / 15 = q by omega, show (1 + q * 15 + p * 3 + 1 - 1) / 3 % 5 = p by omega]
theorem bkF_came (pv : Value) (v : Nat → Nat → Value) (b : M.Bk) {q p : Nat} (hp : p < 5) : bkF pv v b (1 + q * 15 + p * 3 + 2) = .int .i64 (b.ca q p) := by
  unfold bkF
  rw [if_neg (by omega), if_neg (by omega), if_neg (by omega), show (1 + q * 15 + p * 3 + 2 - 1) / 15 = q by omega, show (1 + q * 15 + p * 3 + 2 - 1) / 3 % 5 = p by omega]
theorem prF_mo (b : M.Bk) (p : Nat) : prF b (p * 3) = .int .i64 (b.mo p) := by
  unfold prF
  rw [if_pos (by omega), show p * 3 / 3 = p by omega]
theorem prF_no (b : M.Bk) (p : Nat) : prF b (p * 3 + 1) = .bool (decide (0 ≤ b.no p)) := by
  unfold prF
  rw [if_neg (by omega), if_pos (by omega), show (p * 3 + 1) / 3 = p by omega]
theorem prF_had (b : M.Bk) (p : Nat) : prF b (p * 3 + 2) = .int .i64 (if 0 ≤ b.no p then b.no p else 0) := by
  unfold prF
  rw [if_neg (by omega), if_neg (by omega), show (p * 3 + 2) / 3 = p by omega]
theorem BVr.procs (h : BVr w S Pb v n b) : w.cell? ⟨S, 0, none⟩ = some (.slice (some ⟨Pb, 0, none⟩) n n) := h.blk.cell (i := 0) (by omega)
theorem BVr.waits (h : BVr w S Pb v n b) {q p : Nat} (hq : q < 5) (hp : p < 5) : w.cell? ⟨S, 1 + q * 15 + p * 3, none⟩ = some (v q p) := by
  rw [h.blk.cell (i := 1 + q * 15 + p * 3) (by omega), bkF_ways _ _ _ hp]
theorem BVr.marked (h : BVr w S Pb v n b) {q p : Nat} (hq : q < 5) (hp : p < 5) : w.cell? ⟨S, 1 + q * 15 + p * 3 + 1, none⟩ = some (.bool (b.he q p)) := by
  rw [h.blk.cell (i := 1 + q * 15 + p * 3 + 1) (by omega), bkF_mark _ _ _ hp]
theorem BVr.came (h : BVr w S Pb v n b) {q p : Nat} (hq : q < 5) (hp : p < 5) : w.cell? ⟨S, 1 + q * 15 + p * 3 + 2, none⟩ = some (.int .i64 (b.ca q p)) := by
  rw [h.blk.cell (i := 1 + q * 15 + p * 3 + 2) (by omega), bkF_came _ _ _ hp]
theorem BVr.mo (h : BVr w S Pb v n b) {p : Nat} (hp : p < n) : w.cell? ⟨Pb, p * 3, none⟩ = some (.int .i64 (b.mo p)) := by
  rw [h.prs.cell (i := p * 3) (by omega), prF_mo]
theorem BVr.no (h : BVr w S Pb v n b) {p : Nat} (hp : p < n) : w.cell? ⟨Pb, p * 3 + 1, none⟩ = some (.bool (decide (0 ≤ b.no p))) := by
  rw [h.prs.cell (i := p * 3 + 1) (by omega), prF_no]
theorem BVr.had (h : BVr w S Pb v n b) {p : Nat} (hp : p < n) : w.cell? ⟨Pb, p * 3 + 2, none⟩ = some (.int .i64 (if 0 ≤ b.no p then b.no p else 0)) := by
  rw [h.prs.cell (i := p * 3 + 2) (by omega), prF_had]
theorem BVr.ltS (h : BVr w S Pb v n b) : S < w.heap.size := h.blk.lt
theorem BVr.ltP (h : BVr w S Pb v n b) : Pb < w.heap.size := h.prs.lt
theorem BVr.ltV (h : BVr w S Pb v n b) {q p g : Nat} (hq : q < 5) (hp : p < 5) (hg : (v q p).ownBlock = some g) : g < w.heap.size := ((h.way q p hq hp).lt g hg).2
theorem BVr.neSP (h : BVr w S Pb v n b) : S ≠ Pb := rowIs_ne h.blk h.prs (by decide)
theorem BVr.neS (h : BVr w S Pb v n b) {q p : Nat} (hq : q < 5) (hp : p < 5) : (v q p).ownBlock ≠ some S := rowIs_owns h.blk (h.way q p hq hp) (by decide)
theorem BVr.neP (h : BVr w S Pb v n b) {q p : Nat} (hq : q < 5) (hp : p < 5) : (v q p).ownBlock ≠ some Pb := rowIs_owns h.prs (h.way q p hq hp) (by decide)
theorem BVr.below {w' : World} (h : BVr w S Pb v n b) (hb : Below w.heap.size w w') : BVr w' S Pb v n b :=
  ⟨h.blk.of_block (hb.block _ h.ltS), h.prs.of_block (hb.block _ h.ltP), fun q p hq hp => owns_below (h.way q p hq hp) hb, h.inj⟩
/-- what is not of the bank's blocks changed -/
theorem BVr.frm {w' : World} {O : Nat → Prop} (h : BVr w S Pb v n b) (hf : Frm O w w') (hO : ∀ k, O k → ¬ (k = S ∨ k = Pb ∨ ∃ q p, q < 5 ∧ p < 5 ∧ (v q p).ownBlock = some k)) : BVr w' S Pb v n b :=
  ⟨h.blk.of_block (hf.block _ h.ltS (fun e => hO _ e (.inl rfl))), h.prs.of_block (hf.block _ h.ltP (fun e => hO _ e (.inr (.inl rfl)))),
   fun q p hq hp => owns_blk (h.way q p hq hp) (fun _ hg => hf.block _ (h.ltV hq hp hg) (fun e => hO _ e (.inr (.inr ⟨q, p, hq, hp, hg⟩)))), h.inj⟩
/-- a store into the processes' block -/
theorem BVr.setP (h : BVr w S Pb v n b) {i : Nat} {u : Value} {b' : M.Bk} (hw : b'.wy = b.wy) (hh : b'.he = b.he) (hc : b'.ca = b.ca) (e : ∀ k, k < n * 3 → (if k = i then u else prF b k) = prF b' k) : BVr (w.setCell ⟨Pb, i, none⟩ u) S Pb v n b' := by
  refine ⟨?_, (h.prs.set i u).congr e, fun q p hq hp => ?_, h.inj⟩
  · refine (h.blk.setOther (a := ⟨Pb, i, none⟩) h.neSP u).congr fun k _ => ?_
    unfold bkF; rw [hh, hc]
  · rw [hw]; exact owns_blk (h.way q p hq hp) (fun g hg => Below.heap_setCell _ _ _ _ (fun x => h.neP hq hp (hg.trans (congrArg some x))))
/-- a store into the bank's block, not of what waits -/
theorem BVr.setS (h : BVr w S Pb v n b) {i : Nat} {u : Value} {b' : M.Bk} (hw : b'.wy = b.wy) (hm : b'.mo = b.mo) (hn : b'.no = b.no) (e : ∀ k, k < 76 → (if k = i then u else bkF (.slice (some ⟨Pb, 0, none⟩) n n) v b k) = bkF (.slice (some ⟨Pb, 0, none⟩) n n) v b' k) : BVr (w.setCell ⟨S, i, none⟩ u) S Pb v n b' := by
  refine ⟨(h.blk.set i u).congr e, ?_, fun q p hq hp => ?_, h.inj⟩
  · refine (h.prs.setOther (a := ⟨S, i, none⟩) (Ne.symm h.neSP) u).congr fun k _ => ?_
    unfold prF; rw [hm, hn]
  · rw [hw]; exact owns_blk (h.way q p hq hp) (fun g hg => Below.heap_setCell _ _ _ _ (fun x => h.neS hq hp (hg.trans (congrArg some x))))
/-- what waits on a way is stored anew: its row lies in the way's own block, or in a new one -/
theorem BVr.setW {w1 : World} (h : BVr w S Pb v n b) {q p : Nat} (hq : q < 5) (hp : p < 5) {u : Value} {l : List Int} (hgr : ∀ k, k < w.heap.size → (v q p).ownBlock ≠ some k → w1.heap[k]? = w.heap[k]?) (hown : w1.ownsRow 0 3 1 u l.length (zc l))
    (hat : ∀ g, u.ownBlock = some g → (v q p).ownBlock = some g ∨ w.heap.size ≤ g) : BVr (w1.setCell ⟨S, 1 + q * 15 + p * 3, none⟩ u) S Pb (M.upd2 v q p u) n { b with wy := M.upd2 b.wy p q l } := by
  have hb1 : w1.rowIs S 58 76 (bkF (.slice (some ⟨Pb, 0, none⟩) n n) v b) := h.blk.of_block (hgr _ h.ltS (h.neS hq hp))
  have hp1 : w1.rowIs Pb 52 (n * 3) (prF b) := h.prs.of_block (hgr _ h.ltP (h.neP hq hp))
  have hu : u.ownBlock ≠ some S := rowIs_owns hb1 hown (by decide)
  refine ⟨(hb1.set _ u).congr fun k hk => ?_, hp1.setOther (Ne.symm h.neSP) u, fun q' p' hq' hp' => ?_, fun q1 p1 q2 p2 g h1 h2 h3 h4 e1 e2 => ?_⟩
  · by_cases e : k = 1 + q * 15 + p * 3
    · subst e; rw [if_pos rfl, bkF_ways _ _ _ hp, M.upd2_same]
    · rw [if_neg e]
      unfold bkF
      by_cases e0 : k = 0
      · rw [if_pos e0, if_pos e0]
      · rw [if_neg e0, if_neg e0]
        by_cases e1 : (k - 1) % 3 = 0
        · rw [if_pos e1, if_pos e1, M.upd2_other _ _ (fun x => e (by omega))]
        · rw [if_neg e1, if_neg e1]
  · by_cases e : q' = q ∧ p' = p
    · obtain ⟨rfl, rfl⟩ := e
      show World.ownsRow _ _ _ _ (M.upd2 v q' p' u q' p') (M.upd2 b.wy p' q' l p' q').length (zc (M.upd2 b.wy p' q' l p' q'))
      rw [M.upd2_same, M.upd2_same]
      exact owns_blk hown (fun g hg => Below.heap_setCell _ _ _ _ (fun x => hu (hg.trans (congrArg some x))))
    · show World.ownsRow _ _ _ _ (M.upd2 v q p u q' p') (M.upd2 b.wy p q l p' q').length (zc (M.upd2 b.wy p q l p' q'))
      rw [M.upd2_other _ _ e, M.upd2_other _ _ (fun x => e ⟨x.2, x.1⟩)]
      refine owns_blk (h.way q' p' hq' hp') (fun g hg => ?_)
      refine (Below.heap_setCell _ _ _ _ (fun x => h.neS hq' hp' (hg.trans (congrArg some x)))).trans (hgr g (h.ltV hq' hp' hg) (fun x => ?_))
      obtain ⟨rfl, rfl⟩ := h.inj q' p' q p g hq' hp' hq hp hg x
      exact e ⟨rfl, rfl⟩
  · by_cases c1 : q1 = q ∧ p1 = p
    · obtain ⟨rfl, rfl⟩ := c1
      by_cases c2 : q2 = q1 ∧ p2 = p1
      · exact ⟨c2.1.symm, c2.2.symm⟩
      · rw [M.upd2_same] at e1
        rw [M.upd2_other _ _ c2] at e2
        rcases hat g e1 with x | x
        · exact h.inj q1 p1 q2 p2 g h1 h2 h3 h4 x e2
        · have := h.ltV h3 h4 e2; omega
    · rw [M.upd2_other _ _ c1] at e1
      by_cases c2 : q2 = q ∧ p2 = p
      · obtain ⟨rfl, rfl⟩ := c2
        rw [M.upd2_same] at e2
        rcases hat g e2 with x | x
        · exact h.inj q1 p1 q2 p2 g h1 h2 h3 h4 e1 x
        · have := h.ltV h1 h2 e1; omega
      · rw [M.upd2_other _ _ c2] at e2
        exact h.inj q1 p1 q2 p2 g h1 h2 h3 h4 e1 e2
end
theorem Foot.set {O : Nat → Prop} {S Pb : Nat} {v : Nat → Nat → Value} (h : Foot O S Pb v) {q p : Nat} {u : Value} (hu : ∀ g, u.ownBlock = some g → O g) : Foot O S Pb (M.upd2 v q p u) :=
  ⟨h.s, h.p, fun q' p' g hq hp e => by
    by_cases c : q' = q ∧ p' = p
    · obtain ⟨rfl, rfl⟩ := c; rw [M.upd2_same] at e; exact hu g e
    · rw [M.upd2_other _ _ c] at e; exact h.v q' p' g hq hp e⟩
theorem BV.below {O : Nat → Prop} {S n : Nat} {b : M.Bk} {w w' : World} (h : BV O S n b w) (hb : Below w.heap.size w w') : BV O S n b w' := by
  obtain ⟨Pb, v, h1, h2⟩ := h
  exact ⟨Pb, v, h1.below hb, h2⟩
theorem BV.mono {O O' : Nat → Prop} {S n : Nat} {b : M.Bk} {w : World} (h : BV O S n b w) (e : ∀ k, k < w.heap.size → O k → O' k) : BV O' S n b w := by
  obtain ⟨Pb, v, h1, h2⟩ := h
  exact ⟨Pb, v, h1, e _ h1.ltS h2.s, e _ h1.ltP h2.p, fun q p g hq hp hg => e _ (h1.ltV hq hp hg) (h2.v q p g hq hp hg)⟩
/-- others than the bank's blocks changed -/
theorem BV.frm {O O' : Nat → Prop} {S n : Nat} {b : M.Bk} {w w' : World} (h : BV O S n b w) (hf : Frm O' w w') (e : ∀ k, O k → ¬ O' k) : BV O S n b w' := by
  obtain ⟨Pb, v, h1, h2⟩ := h
  refine ⟨Pb, v, h1.frm hf (fun k hk x => ?_), h2⟩
  rcases x with rfl | rfl | ⟨q, p, hq, hp, hg⟩
  · exact e _ h2.s hk
  · exact e _ h2.p hk
  · exact e _ (h2.v q p k hq hp hg) hk
theorem BV.lt {O : Nat → Prop} {S n : Nat} {b : M.Bk} {w : World} (h : BV O S n b w) : S < w.heap.size := by
  obtain ⟨Pb, v, h1, h2⟩ := h
  exact h1.ltS
end Go.Proofs.YtplplgpfglaajaaDoor
