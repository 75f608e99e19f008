/- Contracts of plane's reference: points. Own work. -/
import Derived.Test.YtmbdaaiknjebmaaDoorPlane4
import Derived.Handy
namespace Go.Proofs.YtmbdaaiknjebmaaDoor
open Go.ChangeShapes Go.WideShapes Go.ChangeAt Go.RowKit Fl

def pv (p : Pt) : Value := .agg #[.int .i64 p.x, .int .i64 p.y, .bool p.ok]
theorem withinR_is (n : Int) (w : World) : Calls Tryd.prog 35 #[.int .i64 n] w fun e w' => e = .returned (.int .i64 (cl n)) ∧ w = w' := by
  unfold cl
  go_enter Tryd.func35, Tryd.ntmps35
  go_wp2
  all_goals go_ret
  all_goals exact ⟨ret_int (by omega), rfl⟩
theorem cl_eq (n : Int) : (cl n == n) = isPart n := by
  unfold isPart
  rw [Bool.eq_iff_iff]
  simp only [beq_iff_eq, decide_eq_true_eq]
  unfold cl; omega
theorem ret_bool {a b : Bool} (h : a = b) : Ending.returned (.bool a) = .returned (.bool b) := by rw [h]
theorem right_is (x y : Int) (w : World) : Calls Tryd.prog 33 #[.int .i64 x, .int .i64 y] w fun e w' => e = .returned (.bool (isPart x && isPart y)) ∧ w = w' := by
  have h1 := cl_eq x
  have h2 := cl_eq y
  cases hx : isPart x
  · rw [hx] at h1
    go_enter Tryd.func33, Tryd.ntmps33
    go_wp2_with fail
    refine (withinR_is x _).mono ?_; rintro e w' ⟨rfl, rfl⟩
    go_wp2
    go_ret
    exact ⟨rfl, rfl⟩
  · rw [hx] at h1
    go_enter Tryd.func33, Tryd.ntmps33
    go_wp2_with fail
    refine (withinR_is x _).mono ?_; rintro e w' ⟨rfl, rfl⟩
    go_wp2_with fail
    refine (withinR_is y _).mono ?_; rintro e w' ⟨rfl, rfl⟩
    go_wp2
    go_ret
    exact ⟨ret_bool (by first | rfl | exact h2 | (rw [h2]; rfl)), rfl⟩
theorem atR_is (x y : Int) (w : World) : Calls Tryd.prog 19 #[.int .i64 x, .int .i64 y] w fun e w' => e = .returned (pv ⟨cl x, cl y, true⟩) ∧ Below w.heap.size w w' := by
  go_enter Tryd.func19, Tryd.ntmps19
  go_wp2_with fail
  refine (withinR_is x _).mono ?_; rintro e w' ⟨rfl, rfl⟩
  go_wp2_with fail
  refine (withinR_is y _).mono ?_; rintro e w' ⟨rfl, rfl⟩
  go_wp2
  refine bodyPost_ret (v := pv ⟨cl x, cl y, true⟩) (by simp [results, Tryd.results19, go_sem]; rfl) rfl ⟨rfl, ?_⟩
  go_grown
theorem normR_is (p : Pt) (hp : p.In) (w : World) : Calls Tryd.prog 12 #[pv p] w fun e w' => e = .returned (.int .i64 (normP p)) ∧ Below w.heap.size w w' := by
  obtain ⟨x, y, ok⟩ := p
  have m1 := mul_bound hp.x0 hp.x1 hp.x0 hp.x1
  have m2 := mul_bound hp.y0 hp.y1 hp.y0 hp.y1
  simp only at m1 m2
  unfold pv
  cases ok
  · go_enter Tryd.func12, Tryd.ntmps12
    go_wp2_with fail
    go_ret
    refine ⟨rfl, ?_⟩
    go_grown
  · go_enter Tryd.func12, Tryd.ntmps12
    go_wp2_with fail
    go_ret
    refine ⟨rfl, ?_⟩
    go_grown
/-- What part answers. -/
def PartAns (a : Nat) (e : Ending) : Prop := ∃ n b, e = .returned (.tuple #[.int .i64 n, .bool b]) ∧ partO a = (if b = true then some n else none)
theorem low_sc {lo k v : Int} (h0 : lo * (sc 0 : Int) ≤ v) (h1 : v < (lo + 1) * (sc 0 : Int)) (hk : v = k * sc 0) : lo = k := by
  have hs := sc_pos 0
  rw [hk] at h0 h1
  have := Int.le_of_mul_le_mul_right h0 (by omega)
  have := Int.lt_of_mul_lt_mul_right h1 (by omega)
  omega
theorem partR_is (a : Nat) (w : World) : Calls Tryd.prog 24 #[.float .f64 a] w fun e w' => PartAns a e ∧ w = w' := by
  rcases part_tests a with ⟨h1, hp⟩ | ⟨h1, h2, hp⟩ | ⟨h1, h2, h3, hp⟩ | ⟨h1, h2, h3, v, hv, hlo, hhi⟩
  · go_enter Tryd.func24, Tryd.ntmps24
    go_wp2
    go_ret2
    exact ⟨⟨0, false, rfl, hp⟩, rfl⟩
  · go_enter Tryd.func24, Tryd.ntmps24
    go_wp2
    go_ret2
    exact ⟨⟨0, false, rfl, hp⟩, rfl⟩
  · go_enter Tryd.func24, Tryd.ntmps24
    go_wp2
    go_ret2
    exact ⟨⟨0, false, rfl, hp⟩, rfl⟩
  · have Hlo := Lib.hid hlo
    have Hhi : Hid (v < (1048576 + 1) * (sc 0 : Int)) := Lib.hid (by have := sc_pos 0; omega)
    have Hv := Lib.hid hv
    clear hlo hhi hv
    go_enter Tryd.func24, Tryd.ntmps24
    go_wp2_with fail
    go_loopw [4, 5] (fun x y wr => ∃ lo hi : Int, x = .int .i64 lo ∧ y = .int .i64 hi ∧ -1048576 ≤ lo ∧ lo ≤ hi ∧ hi ≤ 1048576 ∧ Hid (lo * (sc 0 : Int) ≤ v) ∧ Hid (v < (hi + 1) * (sc 0 : Int)) ∧ w = wr) (fun x y _ => (intOf y - intOf x).toNat)
    case atStart => exact ⟨-1048576, 1048576, rfl, rfl, by omega, by omega, by omega, Hlo, Hhi, rfl⟩
    case round =>
      obtain ⟨lo, hi, rfl, rfl, b0, b1, b2, H0, H1, rfl⟩ := hrel
      by_cases hlt : lo < hi
      · obtain ⟨m, hm⟩ : ∃ m, m = lo + (hi - lo + 1) / 2 := ⟨_, rfl⟩
        have hm0 : lo < m := by omega
        have hm1 : m ≤ hi := by omega
        have ht := leq_test (n := m) Hv.out (by omega)
        rw [hm] at ht
        by_cases hle : m * (sc 0 : Int) ≤ v
        · rw [← hm, decide_eq_true hle, hm] at ht
          have Hm := Lib.hid hle; clear hle
          go_wp2_with fail
          refine ⟨⟨m, hi, by rw [hm], rfl, by omega, hm1, b2, Hm, H1, trivial⟩, by simp [intOf]; omega⟩
        · rw [← hm, decide_eq_false hle, hm] at ht
          have Hm : Hid (v < ((m - 1) + 1) * (sc 0 : Int)) := Lib.hid (by rw [Int.sub_add_cancel]; omega)
          clear hle
          go_wp2_with fail
          refine ⟨⟨lo, m - 1, rfl, by rw [hm], b0, by omega, by omega, H0, Hm, trivial⟩, by simp [intOf]; omega⟩
      · obtain rfl : lo = hi := by omega
        have ht := eql_test (n := lo) Hv.out (by omega)
        have hk : ∀ k, v = k * sc 0 → lo = k := fun k hk => low_sc H0.out H1.out hk
        have Hp := Lib.hid (part_of_test Hv.out hk ⟨b0, b2⟩); clear hk
        generalize hq : decide (lo * (sc 0 : Int) = v) = q at ht Hp
        clear hq
        go_wp2
        go_ret2
        exact ⟨⟨lo, q, rfl, Hp.out⟩, rfl⟩
theorem ofR_is (a b : Nat) (w : World) : Calls Tryd.prog 6 #[.float .f64 a, .float .f64 b] w fun e w' => e = .returned (pv (ptOf a b)) ∧ Below w.heap.size w w' := by
  go_enter Tryd.func6, Tryd.ntmps6
  go_wp2_with fail
  refine (partR_is a _).mono ?_; rintro e w' ⟨⟨n, q, rfl, hp⟩, rfl⟩
  have Hp := Lib.hid hp; clear hp
  go_wp2_with fail
  refine (partR_is b _).mono ?_; rintro e w' ⟨⟨k, r, rfl, hr⟩, rfl⟩
  have Hr := Lib.hid hr; clear hr
  cases q
  · go_wp2
    refine bodyPost_ret (v := pv ⟨0, 0, false⟩) (by simp [results, Tryd.results6, go_sem]; rfl) rfl ⟨?_, by go_grown⟩
    unfold ptOf; rw [Hp.out]; rfl
  · cases r
    · go_wp2
      refine bodyPost_ret (v := pv ⟨0, 0, false⟩) (by simp [results, Tryd.results6, go_sem]; rfl) rfl ⟨?_, by go_grown⟩
      unfold ptOf; rw [Hp.out, Hr.out]; rfl
    · go_wp2
      refine bodyPost_ret (v := pv ⟨n, k, true⟩) (by simp [results, Tryd.results6, go_sem]; rfl) rfl ⟨?_, by go_grown⟩
      unfold ptOf; rw [Hp.out, Hr.out]; rfl
/-- A greatest one, as from 0 to m. -/
def cap (m t : Int) : Int := min (max t 0) m
theorem within1_is (n h : Int) (hlh : 0 ≤ h) (w : World) : Calls Tryd.prog 39 #[.int .i64 n, .int .i64 0, .int .i64 h] w fun e w' => e = .returned (.int .i64 (cap h n)) ∧ w = w' := by
  unfold cap
  go_enter Tryd.func39, Tryd.ntmps39
  go_wp2
  all_goals go_ret
  all_goals exact ⟨ret_int (by omega), rfl⟩
theorem wrap_is (n : Int) (w : World) : Calls Tryd.prog 28 #[.int .i64 n, .int .i64 3] w fun e w' => e = .returned (.int .i64 ((n % 4).toNat : Nat)) ∧ w = w' := by
  go_enter Tryd.func28, Tryd.ntmps28
  go_wp2_with fail
  refine (within1_is _ _ (by decide) _).mono ?_; rintro e w' ⟨rfl, rfl⟩
  have hc : cap 1099511627776 3 = 3 := by decide
  have hm : n.tmod 4 = if 0 ≤ n ∨ n % 4 = 0 then n % 4 else n % 4 - 4 := by
    rw [Int.tmod_eq_emod]; split <;> split <;> omega
  rw [hc]
  go_wp2_with fail
  all_goals go_ret
  all_goals exact ⟨ret_int (by omega), rfl⟩
end Go.Proofs.YtmbdaaiknjebmaaDoor
