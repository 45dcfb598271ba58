/- What Count keeps in memory while it goes over the cuts that are found. No walk. -/
import Derived.Test.YtlhpkpjcfjdgaaaDoorQue3
import Derived.Test.YtlhpkpjcfjdgaaaDoorCqm
namespace Go.Proofs.YtlhpkpjcfjdgaaaDoor
open Go.RowKit Go.Shelf
theorem QV.frame {W W' : World} {Q B base : Nat} {v : Value} {L : List (List Nat)} {R : Nat → Prop} (h : QV W Q B base v L) (hf : Fr W W' R) (hQ : ¬ R Q) (hB : ¬ R B) (hv : ∀ k, v.ownBlock = some k → ¬ R k) : QV W' Q B base v L :=
  ⟨(hf.block Q h.blk.lt hQ).trans h.blk, owns_at h.row (fun g e => hf.block g (h.row.lt g e).2 (hv g e)), h.kn.at_ (hf.block B h.kn.lt hB)⟩
structure M7 (w : World) (P : Nat) (p : Option Addr) (n cap : Nat) (T : List (Int × Int)) (a2 f5 Q : Nat) (W : World) : Prop where
  tb : Blk W w.heap.size #[.int .i64 (P : Nat), .slice p n cap] 24
  ab : RowAt 65 W a2 (M.evl T n)
  fb : Boxed W f5 67 (.pointer (some ⟨Q, 0, none⟩))
  cb : Boxed W (f5 + 1) 67 (.pointer (some ⟨Q, 0, none⟩))
  bel : Below w.heap.size w W
theorem M7.frame {w W W' : World} {P : Nat} {p : Option Addr} {n cap : Nat} {T : List (Int × Int)} {a2 f5 Q : Nat} {R : Nat → Prop} (h : M7 w P p n cap T a2 f5 Q W) (hf : Fr W W' R) (h0 : ∀ k, k ≤ w.heap.size → ¬ R k) (h1 : ¬ R a2) (h2 : ¬ R f5) (h3 : ¬ R (f5 + 1)) : M7 w P p n cap T a2 f5 Q W' :=
  ⟨(hf.block _ h.tb.lt (h0 _ (Nat.le_refl _))).trans h.tb, (hf.block _ h.ab.lt h1).trans h.ab, (hf.block _ h.fb.lt h2).trans h.fb, (hf.block _ h.cb.lt h3).trans h.cb,
    h.bel.trans (hf.below h.bel.size (fun k hk => h0 k (Nat.le_of_lt hk)))⟩
theorem M7.later {w W W' : World} {P : Nat} {p : Option Addr} {n cap : Nat} {T : List (Int × Int)} {a2 f5 Q : Nat} (h : M7 w P p n cap T a2 f5 Q W) (hb : Below W.heap.size W W') : M7 w P p n cap T a2 f5 Q W' :=
  ⟨h.tb.below hb h.tb.lt, h.ab.below hb h.ab.lt, boxed_below h.fb hb h.fb.lt, boxed_below h.cb hb h.cb.lt, bel_on h.bel hb⟩
theorem fr_put (W : World) (k : Nat) (o : Obj) : Fr W (W.putObj k o) (fun j => j = k) :=
  ⟨rfl, rfl, rfl, by simp [World.putObj], fun j _ hj => World.putObj_heap_other hj⟩
theorem QV.ne_box {W : World} {Q B base : Nat} {v : Value} {L : List (List Nat)} (h : QV W Q B base v L) {k : Nat} {t : TypeId} {cs : Array Value} (hk : W.heap[k]? = some (.cells cs t (0, 0))) (ht : t ≠ 65) : v.ownBlock ≠ some k := fun e => by
  obtain ⟨cs', hc⟩ := h.row_cells e
  rw [hk] at hc
  cases hc
  exact ht rfl
theorem QV.ne_loop {W : World} {Q B base : Nat} {v : Value} {L : List (List Nat)} (h : QV W Q B base v L) {k : Nat} {r : Loop} (hk : W.heap[k]? = some (.loop r)) : v.ownBlock ≠ some k := fun e => by
  obtain ⟨cs', hc⟩ := h.row_cells e
  rw [hk] at hc
  cases hc
theorem QV.base_le {W : World} {Q B base : Nat} {v : Value} {L : List (List Nat)} (h : QV W Q B base v L) {k : Nat} (e : v.ownBlock = some k) : base ≤ k := (h.row.lt k e).1
/-- what a queue's Add leaves as it was -/
theorem M7.add {w W W' : World} {P : Nat} {p : Option Addr} {n cap : Nat} {T : List (Int × Int)} {a2 f5 Q B base : Nat} {v : Value} {L : List (List Nat)} (h : M7 w P p n cap T a2 f5 Q W) (hq : QV W Q B base v L) (hf : Fr W W' (fun k => k = Q ∨ k = B ∨ v.ownBlock = some k)) (hw : w.heap.size < base) (ha : a2 < base) (hQ : base ≤ Q) (hB : base ≤ B) (hQ5 : Q < f5) (hB5 : B < f5) : M7 w P p n cap T a2 f5 Q W' := by
  have hne : ∀ k, k < base → ¬ (k = Q ∨ k = B ∨ v.ownBlock = some k) := fun k hk h => by
    rcases h with h | h | h
    · omega
    · omega
    · have := hq.base_le h; omega
  have hnf : ∀ k, f5 ≤ k → v.ownBlock ≠ some k → ¬ (k = Q ∨ k = B ∨ v.ownBlock = some k) := fun k hk h1 h => by
    rcases h with h | h | h
    · omega
    · omega
    · exact h1 h
  exact h.frame hf (fun k hk => hne k (by omega)) (hne _ ha) (hnf _ (Nat.le_refl _) (hq.ne_box h.fb (by decide))) (hnf _ (by omega) (hq.ne_box h.cb (by decide)))
theorem keeps_add {W W' : World} {Q B base N : Nat} {v : Value} {L : List (List Nat)} (hq : QV W Q B base v L) (hf : Fr W W' (fun k => k = Q ∨ k = B ∨ v.ownBlock = some k)) (hQ : Q < N) (hB : B < N) : KeepsFrom N W W' :=
  ⟨hf.size, fun k o hk h0 ho => (hf.block k (Array.getElem?_eq_some_iff.1 h0).1 (fun h => by
    rcases h with h | h | h
    · omega
    · omega
    · obtain ⟨cs, hc⟩ := hq.row_cells h
      rw [h0] at hc
      cases hc
      cases ho)).trans h0⟩
theorem keeps_below {W W' : World} (N : Nat) (hb : Below W.heap.size W W') : KeepsFrom N W W' :=
  ⟨hb.size, fun k _ _ h0 _ => (hb.block k (Array.getElem?_eq_some_iff.1 h0).1).trans h0⟩
theorem KeepsFrom.trans' {N : Nat} {A B C : World} (h : KeepsFrom N A B) (k : KeepsFrom N B C) : KeepsFrom N A C :=
  ⟨Nat.le_trans h.size k.size, fun j o hj h0 ho => k.same j o hj (h.same j o hj h0 ho) ho⟩
/-- how far the cuts are found -/
structure Fnd (P : Nat) (T : List (Int × Int)) (pre L : List (List Nat)) : Prop where
  nod : L.Nodup
  gd : ∀ c, c ∈ L → M.Gd P T c
  z : M.zero5 ∈ L
  pfx : pre <+: L
  cl : ∀ c, c ∈ pre → ∀ q, q < P → M.Gd P T (M.nx c q) → M.nx c q ∈ L
theorem Fnd.add {P : Nat} {T : List (Int × Int)} {pre L : List (List Nat)} {y : List Nat} (h : Fnd P T pre L) (hy : y ∉ L) (hg : M.Gd P T y) : Fnd P T pre (L ++ [y]) := by
  refine ⟨List.nodup_append.2 ⟨h.nod, by simp, fun a ha b hb => ?_⟩, fun c hc => ?_, List.mem_append_left _ h.z, h.pfx.trans (List.prefix_append _ _), fun c hc q hq hgc => List.mem_append_left _ (h.cl c hc q hq hgc)⟩
  · obtain rfl := List.mem_singleton.1 hb
    exact fun e => hy (e ▸ ha)
  · rcases List.mem_append.1 hc with hc | hc
    · exact h.gd c hc
    · obtain rfl := List.mem_singleton.1 hc
      exact hg
end Go.Proofs.YtlhpkpjcfjdgaaaDoor
