/- nums' least, wrapped, and the reference's; a thread's number. Own work. -/
import Derived.Test.YtdfkmkflcnfchaaHas
namespace Go.Proofs.Ytdfkmkflcnfchaa
open Go.ChangeShapes Go.WideShapes Go.ChangeAt Go.RowKit CellM

theorem tmod_neg {n k : Int} (hk : 0 < k) (h : n.tmod k < 0) : n.tmod k + k = n % k := by
  rw [Int.tmod_eq_emod] at *
  have h1 := Int.emod_nonneg n (show k ≠ 0 by omega)
  split at h
  · omega
  · rename_i hh; rw [if_neg hh]; omega
theorem tmod_pos {n k : Int} (hk : 0 < k) (h : 0 ≤ n.tmod k) : n.tmod k = n % k := by
  rw [Int.tmod_eq_emod] at *
  have h1 := Int.emod_lt_of_pos n hk
  split at h
  · rename_i hh; rw [if_pos hh]; omega
  · rename_i hh; rw [if_neg hh]; omega
theorem tmod_low {n k : Int} (hk : 0 < k) : -k < n.tmod k ∧ n.tmod k < k := by
  rw [Int.tmod_eq_emod]
  have h0 := Int.emod_nonneg n (show k ≠ 0 by omega)
  have h1 := Int.emod_lt_of_pos n hk
  split
  · omega
  · rename_i hh
    have : n % k ≠ 0 := fun e => hh (.inr (Int.dvd_of_emod_eq_zero e))
    omega
theorem cut_any (n m : Int) (w : World) : Calls Try.prog 53 #[.int .i64 n, .int .i64 m] w fun e w' => e = .returned (.int .i64 (cap m n)) ∧ w = w' := by
  unfold cap
  go_enter Try.func53, Try.ntmps53
  go_wp2
  all_goals go_ret
  all_goals exact ⟨ret_int (by omega), rfl⟩
theorem clamp_any (n t : Int) (w : World) : Calls Try.prog 43 #[.int .i64 n, .int .i64 t] w fun e w' => e = .returned (.int .i64 (cap (cap 1099511627776 t) n)) ∧ w = w' := by
  go_enter Try.func43, Try.ntmps43
  go_wp2_with fail
  refine (cut_any _ _ _).mono ?_; rintro e w' ⟨rfl, rfl⟩
  go_wp2_with fail
  refine (cut_any _ _ _).mono ?_; rintro e w' ⟨rfl, rfl⟩
  go_wp2_with fail
  go_ret
  exact ⟨rfl, rfl⟩
theorem wrap_any (n t : Int) (w : World) : Calls Try.prog 48 #[.int .i64 n, .int .i64 t] w fun e w' => e = .returned (.int .i64 (n % (cap 1099511627776 t + 1))) ∧ w = w' := by
  have hc := cap_le 1099511627776 t (by decide)
  go_enter Try.func48, Try.ntmps48
  go_wp2_with fail
  refine (cut_any _ _ _).mono ?_; rintro e w' ⟨rfl, rfl⟩
  have hk : 0 < cap 1099511627776 t + 1 := by omega
  have hm := tmod_low (n := n) hk
  go_wp2_with fail
  all_goals go_ret
  · exact ⟨ret_int (tmod_neg hk ‹_›), rfl⟩
  · exact ⟨ret_int (tmod_pos hk ‹_›), rfl⟩
/-- Into a number under a name. -/
theorem clamp_is (n t z : Int) (hz : cap (cap 1099511627776 t) n = z) (w : World) : Calls Try.prog 43 #[.int .i64 n, .int .i64 t] w fun e w' => e = .returned (.int .i64 z) ∧ w = w' := by
  subst hz; exact clamp_any n t w
theorem wrap_is (n t z : Int) (hz : n % (cap 1099511627776 t + 1) = z) (w : World) : Calls Try.prog 48 #[.int .i64 n, .int .i64 t] w fun e w' => e = .returned (.int .i64 z) ∧ w = w' := by
  subst hz; exact wrap_any n t w

def isT (t : Int) : Bool := decide (0 ≤ t) && decide (t < 8)
theorem isThread_any (t : Int) (w : World) : Calls Try.prog 34 #[.int .i64 t] w fun e w' => e = .returned (.bool (isT t)) ∧ w = w' := by
  unfold isT
  go_enter Try.func34, Try.ntmps34
  go_wp2
  all_goals go_ret
  all_goals exact ⟨ret_bool (by simp; try omega), rfl⟩
end Go.Proofs.Ytdfkmkflcnfchaa
