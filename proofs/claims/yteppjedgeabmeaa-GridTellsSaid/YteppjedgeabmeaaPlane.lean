/- Contracts of plane's plain functions. Own work. -/
import Derived.Test.YteppjedgeabmeaaRows
import Derived.Test.YteppjedgeabmeaaFl
import Derived.WalkKit
import Derived.ProofKit
import Derived.OpenShut
import Derived.WalkLawsBesides
import Derived.BigQuiet
import Derived.Deep.QuietTactic
import Derived.Lib.Hide
import Derived.Outline
namespace Go.Proofs.Yteppjedgeabmeaa
open Go.ChangeShapes Go.WideShapes Go.ChangeAt Go.RowKit Fl

theorem ret_int {k : IntKind} {a b : Int} (h : a = b) : Ending.returned (.int k a) = .returned (.int k b) := by rw [h]
theorem ret_bool {a b : Bool} (h : a = b) : Ending.returned (.bool a) = .returned (.bool b) := by rw [h]
theorem ret_cc {a b a' b' : Nat} (h1 : a' = a) (h2 : b' = b) : Ending.returned (.complex .f64 a b) = .returned (.complex .f64 a' b') := by rw [h1, h2]
/-- A part as near as may be. -/
def cl (n : Int) : Int := min (max n (-1048576)) 1048576
theorem cl_in (n : Int) : -1048576 ≤ cl n ∧ cl n ≤ 1048576 := by unfold cl; omega
theorem cl_id {n : Int} (h : -1048576 ≤ n ∧ n ≤ 1048576) : cl n = n := by unfold cl; omega
theorem cut_is (n : Int) (w : World) : Calls Try.prog 24 #[.int .i64 n] w fun e w' => e = .returned (.int .i64 (cl n)) ∧ w = w' := by
  unfold cl
  go_enter Try.func24, Try.ntmps24
  go_wp2
  all_goals go_ret
  all_goals exact ⟨ret_int (by omega), rfl⟩
theorem at_is (x y : Int) (w : World) : Calls Try.prog 22 #[.int .i64 x, .int .i64 y] w fun e w' => e = .returned (.complex .f64 (floatOfInt .f64 (cl x)) (floatOfInt .f64 (cl y))) ∧ w = w' := by
  go_enter Try.func22, Try.ntmps22
  go_wp2_with fail
  refine (cut_is x _).mono ?_; rintro e w' ⟨rfl, rfl⟩
  go_wp2_with fail
  refine (cut_is y _).mono ?_; rintro e w' ⟨rfl, rfl⟩
  go_wp2
  go_ret
  exact ⟨rfl, rfl⟩
theorem whole_is (a : Nat) (w : World) : Calls Try.prog 25 #[.float .f64 a] w fun e w' => ∃ n b, e = .returned (.tuple #[.int .i64 n, .bool b]) ∧ partO a = (if b = true then some n else none) ∧ w = w' := by
  rcases whole_tests a with ⟨h1, hp⟩ | ⟨h1, h2, hp⟩ | ⟨h1, h2, v, hv, hlo, hhi⟩
  · go_enter Try.func25, Try.ntmps25
    go_wp2
    go_ret2
    exact ⟨0, false, rfl, hp, rfl⟩
  · go_enter Try.func25, Try.ntmps25
    go_wp2
    go_ret2
    exact ⟨0, false, rfl, hp, rfl⟩
  · obtain ⟨n, hn, n0, n1, hk⟩ := to_int hv hlo hhi
    have ht := eql_test (n := n) hv (by omega)
    have hc : ∀ w : World, (convert 22 3 (.float .f64 a)).run Try.prog w = .ok (.int .i64 n) w := fun w => run_convert_float_int w 22 3 .f64 .i64 a n (by rw [Try.underlying22]; rfl) Try.underlying3 hn
    have Hp := Lib.hid (part_of_test hv hk ⟨n0, n1⟩); clear hk hn hv hlo hhi
    generalize hq : decide (n * (sc 0 : Int) = v) = q at ht Hp
    clear hq
    go_enter Try.func25, Try.ntmps25
    go_wp2
    go_ret2
    exact ⟨n, q, rfl, Hp.out, rfl⟩
theorem parts_is (a b : Nat) (w : World) : Calls Try.prog 23 #[.complex .f64 a b] w fun e w' => e = .returned (.tuple #[.int .i64 (ptOf a b).x, .int .i64 (ptOf a b).y, .bool (ptOf a b).ok]) ∧ w = w' := by
  go_enter Try.func23, Try.ntmps23
  go_wp2_with fail
  refine (whole_is a _).mono ?_; rintro e w' ⟨n, q, rfl, hp, rfl⟩
  have Hp := Lib.hid hp; clear hp
  go_wp2_with fail
  refine (whole_is b _).mono ?_; rintro e w' ⟨k, r, rfl, hr, rfl⟩
  have Hr := Lib.hid hr; clear hr
  cases q <;> cases r
  all_goals
    go_wp2
    go_ret3
    unfold ptOf
    rw [Hp.out, Hr.out]
    exact ⟨rfl, rfl⟩
end Go.Proofs.Yteppjedgeabmeaa
