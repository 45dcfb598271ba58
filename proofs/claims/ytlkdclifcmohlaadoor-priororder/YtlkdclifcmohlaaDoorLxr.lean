/- JUST A RING FORBIDS IT (law SchedRing), the walk. -/
import Derived.Test.YtlkdclifcmohlaaDoorSca
import Derived.Test.YtlkdclifcmohlaaDoorSc5
import Derived.Test.YtlkdclifcmohlaaDoorRefClo
import Derived.Test.YtlkdclifcmohlaaDoorAppAny
import Derived.BigQuiet
import Derived.Deep.AppendLies
namespace Go.Proofs.YtlkdclifcmohlaaDoor
open Go.RowKit

theorem ordd_length {s : List M.SAct} {r : List Nat} (hk : M.AOk s) (hl : r.length = 5) (hn : r.Nodup) (hr : ∀ x, x ∈ r → x < 5) : (M.ordd s r).length = s.length := by
  have : (M.ordd s r).Perm (List.range s.length) := (List.perm_ext_iff_of_nodup (M.ordd_nodup hn) List.nodup_range).2 (fun x => by
    rw [M.mem_ordd, List.mem_range]
    exact ⟨fun h => h.1, fun h => ⟨h, row_all5 hl hn hr (hk.tx x)⟩⟩)
  rw [this.length_eq, List.length_range]
theorem ordd_lt {s : List M.SAct} {r : List Nat} {k : Nat} (hk : k < (M.ordd s r).length) : M.row (M.ordd s r) k < s.length := (M.mem_ordd.1 (M.row_memS hk)).1
theorem inRow_aok {s : List M.SAct} {l : List Nat} (hk : M.AOk s) (hl : l.length ≤ 24) : M.AOk (M.inRow s l) := by
  refine aok_of (by unfold M.inRow; rw [List.length_map]; exact hl) (fun a ha => ?_)
  obtain ⟨i, _, rfl⟩ := List.mem_map.1 ha
  exact ⟨hk.tx i, hk.it i, hk.wr i⟩
theorem inRow_take {s : List M.SAct} {l : List Nat} {k : Nat} (hk : k < l.length) : M.inRow s (l.take (k + 1)) = M.inRow s (l.take k) ++ [M.sat s (M.row l k)] := by
  unfold M.inRow
  rw [List.take_add_one, List.getElem?_eq_getElem hk, List.map_append, show M.row l k = l[k] by unfold M.row; rw [List.getElem?_eq_getElem hk]; rfl]
  rfl
theorem serial_any (s : List M.SAct) (p : Option Addr) (n cap : Nat) (w : World) (he : Env w) (hl : s.length = n) (hk : M.AOk s) (hcap : n ≤ cap) (hc : HasAc (az s) p w) :
    Calls Tryd.prog 11 #[.slice p n cap] w fun e w' => ∃ v, e = .returned (.tuple #[.bool (!ringB (M.edR s)), v, .nilIface]) ∧ Below w.heap.size w w' := by
  cases h : ringB (M.edR s) with
  | true => exact (serial_ring s p n cap w he hl hk hcap hc (ringB_iff.1 h)).mono (fun e w' hh => ⟨_, hh.1, hh.2⟩)
  | false => exact (serial_ok s p n cap w he hl hk hcap hc (fun hr => by rw [ringB_iff.2 hr] at h; cases h)).mono (fun e w' ⟨A, h1, _, _, h2⟩ => ⟨_, h1, h2⟩)
/-- does one of the first t stand behind itself? -/
def rgB (c : List Nat) (t : Nat) : Bool := (List.range t).any fun i => (M.row c i).testBit i
theorem rgB_succ (c : List Nat) (t : Nat) : rgB c (t + 1) = (rgB c t || (M.row c t).testBit t) := by
  unfold rgB
  rw [List.range_succ, List.any_append]
  simp
theorem rgB_all (s : List M.SAct) : rgB (M.clo (M.edR s)) 5 = ringB (M.edR s) := by
  unfold rgB ringB
  rw [M.edR_len]
end Go.Proofs.YtlkdclifcmohlaaDoor
