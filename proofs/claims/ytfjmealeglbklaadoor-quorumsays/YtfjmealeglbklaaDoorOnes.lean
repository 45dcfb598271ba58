/- How many things a set has (package set, Size; the library's OnesCount), at sets of at most twelve things; memory is left alone. -/
import Derived.Test.YtfjmealeglbklaaDoorBits
import Derived.Test.YtfjmealeglbklaaDoorChn
namespace Go.Proofs.YtfjmealeglbklaaDoor
open Go.RowKit

def oA (s : Nat) : Nat := (s / 2) &&& 6148914691236517205
def oB (s : Nat) : Nat := s &&& 6148914691236517205
def oC (s : Nat) : Nat := ((oA s + oB s) / 4) &&& 3689348814741910323
def oD (s : Nat) : Nat := (oA s + oB s) &&& 3689348814741910323
def oE (s : Nat) : Nat := ((oC s + oD s) / 16 + (oC s + oD s)) &&& 1085102592571150095
def oX (s : Nat) : Nat := oE s + oE s / 256
def oY (s : Nat) : Nat := oX s + oX s / 65536
def oZ (s : Nat) : Nat := oY s + oY s / 4294967296
def oR (s : Nat) : Nat := oZ s &&& 127
def lookO (s : Nat) : Bool := decide (oA s < 8192) && decide (oB s < 8192) && decide (oC s < 8192) && decide (oD s < 8192) && decide (oE s < 8192) && decide (oZ s < 65536) && (oR s == M.pc s)
theorem lookO_all : ((List.range 4096).all lookO) = true := by decide +kernel
theorem lookO_one (s : Nat) (hs : s < 4096) : oA s < 8192 ∧ oB s < 8192 ∧ oC s < 8192 ∧ oD s < 8192 ∧ oE s < 8192 ∧ oZ s < 65536 ∧ oR s = M.pc s := by
  have h := List.all_eq_true.1 lookO_all s (List.mem_range.2 hs)
  unfold lookO at h
  simp only [Bool.and_eq_true, decide_eq_true_eq, beq_iff_eq] at h
  exact ⟨h.1.1.1.1.1.1, h.1.1.1.1.1.2, h.1.1.1.1.2, h.1.1.1.2, h.1.1.2, h.1.2, h.2⟩
set_option maxHeartbeats 1000000 in
theorem ones64_of (s a b c d x r : Nat) (w : World) (ha : a < 8192) (hb : b < 8192) (hc : c < 8192) (hd : d < 8192) (hx : x < 8192)
    (e1 : bits .and .u64 ((s : Int) / 2) 6148914691236517205 = a) (e2 : bits .and .u64 (s : Int) 6148914691236517205 = b)
    (e3 : bits .and .u64 (((a : Int) + b) / 4) 3689348814741910323 = c) (e4 : bits .and .u64 ((a : Int) + b) 3689348814741910323 = d)
    (e5 : bits .and .u64 (((c : Int) + d) / 16 + (c + d)) 1085102592571150095 = x)
    (e6 : bits .and .i64 ((x : Int) + x / 256 + (x + x / 256) / 65536 + (x + x / 256 + (x + x / 256) / 65536) / 4294967296) 127 = r) :
    Calls Tryd.prog 65 #[.int .u64 s] w fun e w' => e = .returned (.int .i64 r) ∧ w = w' := by
  go_enter Tryd.func65, Tryd.ntmps65
  go_wp2
  go_ret
  exact ⟨rfl, rfl⟩
theorem nat_div (s k : Nat) : ((s : Int) / (k : Nat)) = ((s / k : Nat) : Int) := by simp
theorem ones64 (s : Nat) (w : World) (hs : s < 4096) :
    Calls Tryd.prog 65 #[.int .u64 s] w fun e w' => e = .returned (.int .i64 (M.pc s : Nat)) ∧ w = w' := by
  obtain ⟨h1, h2, h3, h4, h5, h6, h7⟩ := lookO_one s hs
  have e1 : bits .and .u64 ((s : Int) / 2) 6148914691236517205 = (oA s : Nat) := u64_and_nat (s / 2) 6148914691236517205 (by omega) (by omega)
  have e2 : bits .and .u64 (s : Int) 6148914691236517205 = (oB s : Nat) := u64_and_nat s 6148914691236517205 (by omega) (by omega)
  have e3 : bits .and .u64 (((oA s : Nat) + (oB s : Nat) : Int) / 4) 3689348814741910323 = (oC s : Nat) := u64_and_nat ((oA s + oB s) / 4) 3689348814741910323 (by omega) (by omega)
  have e4 : bits .and .u64 ((oA s : Nat) + (oB s : Nat) : Int) 3689348814741910323 = (oD s : Nat) := u64_and_nat (oA s + oB s) 3689348814741910323 (by omega) (by omega)
  have e5 : bits .and .u64 (((oC s : Nat) + (oD s : Nat) : Int) / 16 + ((oC s : Nat) + (oD s : Nat))) 1085102592571150095 = (oE s : Nat) := u64_and_nat ((oC s + oD s) / 16 + (oC s + oD s)) 1085102592571150095 (by omega) (by omega)
  have e6 : bits .and .i64 (((oE s : Nat) : Int) + (oE s : Nat) / 256 + ((oE s : Nat) + (oE s : Nat) / 256) / 65536 + ((oE s : Nat) + (oE s : Nat) / 256 + ((oE s : Nat) + (oE s : Nat) / 256) / 65536) / 4294967296) 127 = (M.pc s : Nat) := by
    rw [← h7]
    exact i64_and_nat (oZ s) 127 h6 (by omega)
  generalize oA s = a at *
  generalize oB s = b at *
  generalize oC s = c at *
  generalize oD s = d at *
  generalize oE s = x at *
  generalize M.pc s = r at *
  exact ones64_of s a b c d x r w h1 h2 h3 h4 h5 e1 e2 e3 e4 e5 e6
set_option maxHeartbeats 400000 in
theorem ones (s : Nat) (w : World) (hs : s < 4096) :
    Calls Tryd.prog 58 #[.int .u64 s] w fun e w' => e = .returned (.int .i64 (M.pc s : Nat)) ∧ w = w' := by
  go_enter Tryd.func58, Tryd.ntmps58
  go_wp2_with (go_at_call 65; refine (ones64 s _ hs).mono ?_; rintro e w' ⟨rfl, rfl⟩)
  go_ret
  exact ⟨rfl, rfl⟩
set_option maxHeartbeats 400000 in
theorem size_any (s : Nat) (w : World) (hs : s < 4096) :
    Calls Tryd.prog 50 #[.int .i64 s] w fun e w' => e = .returned (.int .i64 (M.pc s : Nat)) ∧ w = w' := by
  go_enter Tryd.func50, Tryd.ntmps50
  go_wp2_with (go_at_call 58; refine (ones s _ hs).mono ?_; rintro e w' ⟨rfl, rfl⟩)
  go_ret
  exact ⟨rfl, rfl⟩
end Go.Proofs.YtfjmealeglbklaaDoor
