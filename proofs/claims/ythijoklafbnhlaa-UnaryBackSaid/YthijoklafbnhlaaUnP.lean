/- unary: cut, greatest, upIsOne, bit, put, isUp. Own work. -/
import Derived.Test.YthijoklafbnhlaaSdW
import Derived.Test.YthijoklafbnhlaaUnT
import Derived.Test.YthijoklafbnhlaaRowT
namespace Go.Proofs.Ythijoklafbnhlaa
open Go.ChangeShapes Go.WideShapes Go.ChangeAt Go.RowKit CellM TapeM

theorem cut_is (n m z : Int) (hz : cap m n = z) (w : World) : Calls Try.prog 30 #[.int .i64 n, .int .i64 m] w fun e w' => e = .returned (.int .i64 z) ∧ w = w' := by
  subst hz
  unfold cap
  go_enter Try.func30, Try.ntmps30
  go_wp2
  all_goals go_ret
  all_goals exact ⟨ret_int (by omega), rfl⟩
theorem greatest_is (n z : Int) (hz : cap 255 n = z) (w : World) : Calls Try.prog 28 #[.int .i64 n] w fun e w' => e = .returned (.int .i64 z) ∧ w = w' := by
  have HZ := Lib.hid hz
  clear hz
  go_enter Try.func28, Try.ntmps28
  go_wp2_with fail
  refine (cut_is _ _ _ HZ.out _).mono ?_; rintro e w' ⟨rfl, rfl⟩
  go_wp2_with fail
  go_ret
  exact ⟨rfl, rfl⟩
theorem upIsOne_is (i : Int) (u : Bool) (hu : (!(i == 0)) = u) (w : World) : Calls Try.prog 45 #[.int .i64 i] w fun e w' => e = .returned (.bool u) ∧ w = w' := by
  have HU := Lib.hid hu
  clear hu
  go_enter Try.func45, Try.ntmps45
  go_wp2_with fail
  go_ret
  rw [← HU.out]
  exact ⟨rfl, rfl⟩
/-- A register's bit i. -/
theorem bitU_is (k b l n rw rr tp : Int) (i : Nat) (hi : i ≤ 255) (h1 : -2199023255552 ≤ b) (h2 : b ≤ 2199023255552) (h3 : -2199023255552 ≤ l) (h4 : l ≤ 2199023255552) (w : World) :
    Calls Try.prog 44 #[.agg #[.int .i64 k, .int .i64 b, .int .i64 l, .int .i64 n, .int .i64 rw, .int .i64 rr, .int .i64 tp], .int .i64 i] w fun e w' => e = .returned (.agg #[.int .i64 2, .int .i64 (b + i), .int .i64 (l + i), .int .i64 n, .int .i64 rw, .int .i64 rr, .int .i64 1]) ∧ Below w.heap.size w w' := by
  go_enter Try.func44, Try.ntmps44
  go_wp2_with fail
  refine bodyPost_ret (v := .agg #[.int .i64 2, .int .i64 (b + i), .int .i64 (l + i), .int .i64 n, .int .i64 rw, .int .i64 rr, .int .i64 1]) (by simp [results, Try.results44, go_sem]) rfl ?_
  refine ⟨rfl, ?_⟩
  go_grown
end Go.Proofs.Ythijoklafbnhlaa
