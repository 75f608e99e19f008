/- The reference's within, Wrap. Own work. -/
import Derived.Test.YtjffgppdjdmmgaaTmod
namespace Go.Proofs.Ytjffgppdjdmmgaa
open Go.ChangeShapes Go.WideShapes Go.ChangeAt Go.RowKit CellM

theorem within_any (n h : Int) (hlh : 0 ≤ h) (w : World) : Calls Try.prog 42 #[.int .i64 n, .int .i64 0, .int .i64 h] w fun e w' => e = .returned (.int .i64 (cap h n)) ∧ w = w' := by
  unfold cap
  go_enter Try.func42, Try.ntmps42
  go_wp2
  all_goals go_ret
  all_goals exact ⟨ret_int (by omega), rfl⟩
theorem wrapR_is (n t z : Int) (hz : n % (cap 1099511627776 t + 1) = z) (w : World) : Calls Try.prog 23 #[.int .i64 n, .int .i64 t] w fun e w' => e = .returned (.int .i64 z) ∧ w = w' := by
  subst hz
  have hc := cap_le 1099511627776 t (by decide)
  go_enter Try.func23, Try.ntmps23
  go_wp2_with fail
  refine (within_any _ _ (by decide) _).mono ?_; rintro e w' ⟨rfl, rfl⟩
  have hk : 0 < cap 1099511627776 t + 1 := by omega
  have hm := tmod_low (n := n) hk
  go_wp2_with fail
  all_goals go_ret
  · exact ⟨ret_int (tmod_neg hk ‹_›), rfl⟩
  · exact ⟨ret_int (tmod_pos hk ‹_›), rfl⟩
end Go.Proofs.Ytjffgppdjdmmgaa
