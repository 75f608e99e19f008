/- The reference's within, Clamp. Own work. -/
import Derived.Test.YtdfkmkflcnfchaaMine8
namespace Go.Proofs.Ytdfkmkflcnfchaa
open Go.ChangeShapes Go.WideShapes Go.ChangeAt Go.RowKit CellM

theorem within_any (n h : Int) (hlh : 0 ≤ h) (w : World) : Calls Try.prog 49 #[.int .i64 n, .int .i64 0, .int .i64 h] w fun e w' => e = .returned (.int .i64 (cap h n)) ∧ w = w' := by
  unfold cap
  go_enter Try.func49, Try.ntmps49
  go_wp2
  all_goals go_ret
  all_goals exact ⟨ret_int (by omega), rfl⟩
theorem clampR_is (n t z : Int) (hz : cap (cap 1099511627776 t) n = z) (w : World) : Calls Try.prog 38 #[.int .i64 n, .int .i64 t] w fun e w' => e = .returned (.int .i64 z) ∧ w = w' := by
  subst hz
  have hc := cap_le 1099511627776 t (by decide)
  go_enter Try.func38, Try.ntmps38
  go_wp2_with fail
  refine (within_any _ _ (by decide) _).mono ?_; rintro e w' ⟨rfl, rfl⟩
  go_wp2_with fail
  refine (within_any _ _ (by omega) _).mono ?_; rintro e w' ⟨rfl, rfl⟩
  go_wp2_with fail
  go_ret
  exact ⟨rfl, rfl⟩
end Go.Proofs.Ytdfkmkflcnfchaa
