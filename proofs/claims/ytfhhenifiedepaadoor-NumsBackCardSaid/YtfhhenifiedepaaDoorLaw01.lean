/- The laws of layer 1: their walks. Own work. -/
import Derived.Test.YtfhhenifiedepaaDoorDigits
namespace Go.Proofs.YtfhhenifiedepaaDoor
open Go.ChangeShapes Go.WideShapes Go.ChangeAt Go.RowKit

theorem ret_bool {a b : Bool} (h : a = b) : Ending.returned (.bool a) = .returned (.bool b) := by rw [h]
theorem itoa_m40 : Lib.itoa (-40) = [45, 52, 48] := by
  have := Lib.itoa_neg 40 (by decide)
  rw [Lib.decDigits_two (by decide) (by decide)] at this
  exact this
theorem tab_drewN {w : World} (h : Tab w) (n : Nat) : Tab (w.drewN n) := h

theorem below_drewN (B : Nat) (w : World) (n : Nat) : Below B w (w.drewN n) := ⟨rfl, rfl, rfl, Nat.le_refl _, fun _ _ => rfl⟩

theorem tab_below {w w' : World} (h : Tab w) (hb : Below w.heap.size w w') : Tab w' := Lib.tabBelow_of_tabIs h w' hb
set_option linter.unusedVariables false in
theorem alive_any (w : World) (ht : Tab w) : Calls Tryd.prog 18 #[] w fun e w' => e = .returned (.bool true) ∧ Below w.heap.size w w' := by
  have c1 : cap 4398046511104 9 / (cap 1048576 3 + 1) = 2 := by decide
  have c2 : cap 4398046511104 9 % (cap 1048576 3 + 1) = 1 := by decide
  have c3 : -1 % (cap 1099511627776 3 + 1) = 3 := by decide
  have c4 : packI 2 1 3 = 9 := by decide
  have c5 : levI 5 = 3 := by decide
  have c6 : cap (cap 1099511627776 4) 9 = 4 := by decide
  have c7 := itoa_m40
  have T := Lib.hid ht; clear ht
  go_enter Tryd.func18, Tryd.ntmps18
  go_wp2_with fail
  refine (unpack_any _ _ _).mono ?_; rintro e w' ⟨rfl, n, rfl⟩
  go_wp2_with fail
  refine (wrap_any _ _ _).mono ?_; rintro e w' ⟨rfl, rfl⟩
  go_wp2_with fail
  refine (pack_any _ _ _ _).mono ?_; rintro e w' ⟨rfl, rfl⟩
  go_wp2_with fail
  refine (levels_any _ (by decide) (by decide) _).mono ?_; rintro e w' ⟨rfl, rfl⟩
  go_wp2_with fail
  refine (digits_any _ (by decide) (by decide) _ (tab_drewN T.out _)).mono ?_; rintro e w' ⟨rfl, hb⟩
  go_wp2_with fail
  refine (clamp_any _ _ _).mono ?_; rintro e w' ⟨rfl, rfl⟩
  go_wp2_with fail
  go_ret
  exact ⟨rfl, (below_drewN _ _ _).trans hb⟩

theorem wrap_next (k t : Int) : (k + 1) % (t + 1) = (k % (t + 1) + 1) % (t + 1) := by
  rw [Int.add_emod, Int.add_emod (k % (t + 1)) 1, Int.emod_emod]
theorem wrap_round (k t : Int) : (k + t + 1) % (t + 1) = k % (t + 1) := by
  rw [Int.add_assoc, Int.add_emod_right]
/-- The contracts with the answer under a name. -/
theorem wrap_is (n t a : Int) (h0 : 0 ≤ t) (h1 : t ≤ 1099511627776) (h : n % (t + 1) = a) (w : World) : Calls Tryd.prog 10 #[.int .i64 n, .int .i64 t] w fun e w' => e = .returned (.int .i64 a) ∧ w = w' := by
  have := wrap_any n t w
  rw [cap_in h0 h1, h] at this
  exact this
theorem clamp_is (n t a : Int) (h0 : 0 ≤ t) (h1 : t ≤ 1099511627776) (h : cap t n = a) (w : World) : Calls Tryd.prog 8 #[.int .i64 n, .int .i64 t] w fun e w' => e = .returned (.int .i64 a) ∧ w = w' := by
  have := clamp_any n t w
  rw [cap_in h0 h1, h] at this
  exact this

theorem round_in (n t a : Int) (hn0 : -2147483648 ≤ n) (hn1 : n ≤ 2147483647) (ht0 : 0 ≤ t) (ht1 : t ≤ 65535) (ha : n % (t + 1) = a) (hin0 : 0 ≤ n) (hin1 : n ≤ t) (w : World) (ht : Tab w) :
    Calls Tryd.prog 5 #[.int .i32 n, .int .u16 t] w fun e w' => e = .returned (.bool true) ∧ Below w.heap.size w w' := by
  have b0 : 0 ≤ a := by rw [← ha]; exact Int.emod_nonneg n (show t + 1 ≠ 0 by omega)
  have b1 : a ≤ t := by have := Int.emod_lt_of_pos n (show 0 < t + 1 by omega); omega
  have T := Lib.hid ht; clear ht
  have E := Lib.hid ha; clear ha
  go_enter Tryd.func5, Tryd.ntmps5
  go_wp2_with fail
  refine (wrap_is _ _ a (by omega) (by omega) E.out _).mono ?_; rintro e w' ⟨rfl, rfl⟩
  go_wp2_with fail
  refine (wrap_is _ _ ((a + 1) % (t + 1)) (by omega) (by omega) (by rw [wrap_next, E.out]) _).mono ?_; rintro e w' ⟨rfl, rfl⟩
  go_wp2_with fail
  refine (wrap_is _ _ a (by omega) (by omega) (by rw [wrap_round, E.out]) _).mono ?_; rintro e w' ⟨rfl, rfl⟩
  go_wp2_with fail
  refine (clamp_is _ _ n (by omega) (by omega) (by unfold cap; omega) _).mono ?_; rintro e w' ⟨rfl, rfl⟩
  go_wp2_with fail
  refine (alive_any _ T.out).mono ?_; rintro e w' ⟨rfl, hb⟩
  go_wp2_with fail
  go_ret
  exact ⟨rfl, hb⟩
theorem round_out (n t a c : Int) (hn0 : -2147483648 ≤ n) (hn1 : n ≤ 2147483647) (ht0 : 0 ≤ t) (ht1 : t ≤ 65535) (ha : n % (t + 1) = a) (hc : cap t n = c) (hout : n < 0 ∨ t < n) (w : World) (ht : Tab w) :
    Calls Tryd.prog 5 #[.int .i32 n, .int .u16 t] w fun e w' => e = .returned (.bool true) ∧ Below w.heap.size w w' := by
  have b0 : 0 ≤ a := by rw [← ha]; exact Int.emod_nonneg n (show t + 1 ≠ 0 by omega)
  have b1 : a ≤ t := by have := Int.emod_lt_of_pos n (show 0 < t + 1 by omega); omega
  have d0 : 0 ≤ c := by rw [← hc]; exact (cap_le t n ht0).1
  have d1 : c ≤ t := by rw [← hc]; exact (cap_le t n ht0).2
  have T := Lib.hid ht; clear ht
  have E := Lib.hid ha; clear ha
  have F := Lib.hid hc; clear hc
  have d2 : (c == n) = false := by have := F.out; unfold cap at this; simp; omega
  rcases hout with hlt | hgt
  all_goals
    go_enter Tryd.func5, Tryd.ntmps5
    go_wp2_with fail
    refine (wrap_is _ _ a (by omega) (by omega) E.out _).mono ?_; rintro e w' ⟨rfl, rfl⟩
    go_wp2_with fail
    refine (wrap_is _ _ ((a + 1) % (t + 1)) (by omega) (by omega) (by rw [wrap_next, E.out]) _).mono ?_; rintro e w' ⟨rfl, rfl⟩
    go_wp2_with fail
    refine (wrap_is _ _ a (by omega) (by omega) (by rw [wrap_round, E.out]) _).mono ?_; rintro e w' ⟨rfl, rfl⟩
    go_wp2_with fail
    refine (clamp_is _ _ c (by omega) (by omega) F.out _).mono ?_; rintro e w' ⟨rfl, rfl⟩
    go_wp2_with fail
    refine (alive_any _ T.out).mono ?_; rintro e w' ⟨rfl, hb⟩
    go_wp2_with fail
    go_ret
    first
      | exact ⟨rfl, hb⟩
      | exact ⟨ret_bool (by simp; omega), hb⟩
theorem round_walk (n t : Int) (hn0 : -2147483648 ≤ n) (hn1 : n ≤ 2147483647) (ht0 : 0 ≤ t) (ht1 : t ≤ 65535) (w : World) (ht : Tab w) :
    Calls Tryd.prog 5 #[.int .i32 n, .int .u16 t] w fun e w' => e = .returned (.bool true) ∧ Below w.heap.size w w' := by
  by_cases h : 0 ≤ n ∧ n ≤ t
  · exact round_in n t _ hn0 hn1 ht0 ht1 rfl h.1 h.2 w ht
  · exact round_out n t _ _ hn0 hn1 ht0 ht1 rfl rfl (by omega) w ht

theorem tells_walk (n m t : Int) (hn0 : -9223372036854775808 ≤ n) (hn1 : n ≤ 9223372036854775807) (w : World) (ht : Tab w) :
    Calls Tryd.prog 3 #[.int .i64 n, .int .i64 m, .int .i64 t] w fun e w' => e = .returned (.bool true) ∧ Below w.heap.size w w' := by
  have T := Lib.hid ht; clear ht
  go_enter Tryd.func3, Tryd.ntmps3
  go_wp2_with fail
  refine (unpack_any _ _ _).mono ?_; rintro e w' ⟨rfl, k1, rfl⟩
  go_wp2_with fail
  refine (unpackR_any _ _ _).mono ?_; rintro e w' ⟨rfl, k2, rfl⟩
  go_wp2_with fail
  refine (clamp_any _ _ _).mono ?_; rintro e w' ⟨rfl, rfl⟩
  go_wp2_with fail
  refine (clampR_any _ _ _).mono ?_; rintro e w' ⟨rfl, rfl⟩
  go_wp2_with fail
  refine (wrap_any _ _ _).mono ?_; rintro e w' ⟨rfl, rfl⟩
  go_wp2_with fail
  refine (wrapR_any _ _ _).mono ?_; rintro e w' ⟨rfl, rfl⟩
  go_wp2_with fail
  refine (pack_any _ _ _ _).mono ?_; rintro e w' ⟨rfl, rfl⟩
  go_wp2_with fail
  refine (packR_any _ _ _ _).mono ?_; rintro e w' ⟨rfl, rfl⟩
  go_wp2_with fail
  refine (levels_any _ hn0 hn1 _).mono ?_; rintro e w' ⟨rfl, rfl⟩
  go_wp2_with fail
  refine (levelsR_any _ hn0 hn1 _).mono ?_; rintro e w' ⟨rfl, rfl⟩
  go_wp2_with fail
  refine (digits_any _ hn0 hn1 _ (tab_drewN T.out _)).mono ?_; rintro e w' ⟨rfl, hb⟩
  go_wp2_with fail
  refine (digitsR_any _ hn0 hn1 _).mono ?_; rintro e w' ⟨rfl, rfl⟩
  go_wp2_with fail
  refine (alive_any _ (tab_below (tab_drewN T.out _) hb)).mono ?_; rintro e w' ⟨rfl, hb'⟩
  go_wp2_with fail
  go_ret
  exact ⟨rfl, ((below_drewN _ _ _).trans hb).trans (hb'.mono hb.size)⟩

theorem pack_is (a b t x : Int) (a0 : 0 ≤ a) (a1 : a ≤ 1048576) (b0 : 0 ≤ b) (b1 : b ≤ t) (t1 : t ≤ 65535) (h : a * (t + 1) + b = x) (w : World) :
    Calls Tryd.prog 12 #[.int .i64 a, .int .i64 b, .int .i64 t] w fun e w' => e = .returned (.int .i64 x) ∧ w = w' := by
  have := pack_any a b t w
  unfold packI at this
  rw [cap_in (show 0 ≤ t by omega) (show t ≤ 1048576 by omega), cap_in b0 b1, cap_in a0 a1, h] at this
  exact this
theorem unpack_is (a b t x : Int) (a0 : 0 ≤ a) (a1 : a ≤ 1000000) (b0 : 0 ≤ b) (b1 : b ≤ t) (t1 : t ≤ 65535) (h : a * (t + 1) + b = x) (w : World) :
    Calls Tryd.prog 6 #[.int .i64 x, .int .i64 t] w fun e w' => e = .returned (.tuple #[.int .i64 a, .int .i64 b]) ∧ ∃ n, w' = w.drewN n := by
  have hx0 : 0 ≤ a * (t + 1) := Int.mul_nonneg a0 (by omega)
  have hx1 := Int.mul_le_mul a1 (show t + 1 ≤ 65536 by omega) (by omega) (by omega)
  have := unpack_any x t w
  rw [cap_in (show 0 ≤ t by omega) (show t ≤ 1048576 by omega), cap_in (show 0 ≤ x by omega) (show x ≤ 4398046511104 by omega)] at this
  have e1 : x / (t + 1) = a := by rw [← h, Int.add_comm, Int.add_mul_ediv_right _ _ (by omega), Int.ediv_eq_zero_of_lt b0 (by omega)]; omega
  have e2 : x % (t + 1) = b := by rw [← h, Int.add_comm, Int.add_mul_emod_self_right]; exact Int.emod_eq_of_lt b0 (by omega)
  rw [e1, e2] at this
  exact this
theorem pack_lt {a b c d t : Int} (t0 : 0 ≤ t) (h : a < c) (b1 : b ≤ t) (d0 : 0 ≤ d) : a * (t + 1) + b < c * (t + 1) + d := by
  have := Int.mul_le_mul_of_nonneg_right (show a + 1 ≤ c by omega) (show 0 ≤ t + 1 by omega)
  rw [Int.add_mul] at this
  omega
/- What is known of the two that were packed: one of five. -/
set_option maxHeartbeats 2000000 in
theorem back_walk (hi lo hj lp t : Int) (a0 : 0 ≤ hi) (a1 : hi ≤ 4294967295) (b0 : 0 ≤ lo) (b1 : lo ≤ 4294967295) (c0 : 0 ≤ hj) (c1 : hj ≤ 4294967295) (d0 : 0 ≤ lp) (d1 : lp ≤ 4294967295)
    (t0 : 0 ≤ t) (t1 : t ≤ 65535) (w : World) (ht : Tab w) :
    Calls Tryd.prog 4 #[.agg #[.int .u32 hi, .int .u32 lo, .int .u32 hj, .int .u32 lp, .int .u16 t]] w fun e w' => e = .returned (.bool true) ∧ Below w.heap.size w w' := by
  have T := Lib.hid ht; clear ht
  have m0 := Int.emod_nonneg lo (show t + 1 ≠ 0 by omega)
  have m1 := Int.emod_lt_of_pos lo (show 0 < t + 1 by omega)
  have n0 := Int.emod_nonneg lp (show t + 1 ≠ 0 by omega)
  have n1 := Int.emod_lt_of_pos lp (show 0 < t + 1 by omega)
  obtain ⟨x, hx⟩ : ∃ x, hi % 1000000 * (t + 1) + lo % (t + 1) = x := ⟨_, rfl⟩
  obtain ⟨y, hy⟩ : ∃ y, hj % 1000000 * (t + 1) + lp % (t + 1) = y := ⟨_, rfl⟩
  have key : (hi % 1000000 < hj % 1000000 ∧ x < y) ∨ (hj % 1000000 < hi % 1000000 ∧ y < x) ∨ (hi % 1000000 = hj % 1000000 ∧ lo % (t + 1) < lp % (t + 1) ∧ x < y)
      ∨ (hi % 1000000 = hj % 1000000 ∧ lp % (t + 1) < lo % (t + 1) ∧ y < x) ∨ (hi % 1000000 = hj % 1000000 ∧ lo % (t + 1) = lp % (t + 1) ∧ x = y) := by
    rcases Int.lt_trichotomy (hi % 1000000) (hj % 1000000) with h | h | h
    · exact .inl ⟨h, by rw [← hx, ← hy]; exact pack_lt t0 h (by omega) (by omega)⟩
    · rw [h] at hx
      refine .inr (.inr ?_)
      generalize hj % 1000000 * (t + 1) = z at hx hy
      omega
    · exact .inr (.inl ⟨h, by rw [← hx, ← hy]; exact pack_lt t0 h (by omega) (by omega)⟩)
  have X := Lib.hid hx; clear hx
  have Y := Lib.hid hy; clear hy
  have beqT : ∀ {a b : Int}, a = b → (a == b) = true := fun h => by rw [h]; simp
  have beqF : ∀ {a b : Int}, a ≠ b → (a == b) = false := fun h => by simp [h]
  have five : (hi % 1000000 < hj % 1000000 ∧ x < y ∧ (hi % 1000000 == hj % 1000000) = false ∧ (x == y) = false) ∨ (hj % 1000000 < hi % 1000000 ∧ y < x ∧ (hi % 1000000 == hj % 1000000) = false ∧ (x == y) = false)
      ∨ ((hi % 1000000 == hj % 1000000) = true ∧ ¬ hi % 1000000 < hj % 1000000 ∧ lo % (t + 1) < lp % (t + 1) ∧ x < y ∧ (lo % (t + 1) == lp % (t + 1)) = false ∧ (x == y) = false)
      ∨ ((hi % 1000000 == hj % 1000000) = true ∧ decide (hi % 1000000 < hj % 1000000) = false ∧ decide (lo % (t + 1) < lp % (t + 1)) = false ∧ decide (x < y) = false ∧ (lo % (t + 1) == lp % (t + 1)) = false ∧ (x == y) = false)
      ∨ ((hi % 1000000 == hj % 1000000) = true ∧ decide (hi % 1000000 < hj % 1000000) = false ∧ (lo % (t + 1) == lp % (t + 1)) = true ∧ decide (lo % (t + 1) < lp % (t + 1)) = false ∧ (x == y) = true ∧ decide (x < y) = false) := by
    rcases key with ⟨h1, h2⟩ | ⟨h1, h2⟩ | ⟨h1, h3, h2⟩ | ⟨h1, h3, h2⟩ | ⟨h1, h3, h2⟩
    · exact .inl ⟨h1, h2, beqF (by omega), beqF (by omega)⟩
    · exact .inr (.inl ⟨h1, h2, beqF (by omega), beqF (by omega)⟩)
    · exact .inr (.inr (.inl ⟨beqT h1, by omega, h3, h2, beqF (by omega), beqF (by omega)⟩))
    · exact .inr (.inr (.inr (.inl ⟨beqT h1, decide_eq_false (by omega), decide_eq_false (by omega), decide_eq_false (by omega), beqF (by omega), beqF (by omega)⟩)))
    · exact .inr (.inr (.inr (.inr ⟨beqT h1, decide_eq_false (by omega), beqT h3, decide_eq_false (by omega), beqT h2, decide_eq_false (by omega)⟩)))
  clear key beqT beqF
  rcases five with ⟨h1, h2, h3, h4⟩ | ⟨h1, h2, h3, h4⟩ | ⟨h1, h2, h3, h4, h5, h6⟩ | ⟨h1, h2, h3, h4, h5, h6⟩ | ⟨h1, h2, h3, h4, h5, h6⟩
  all_goals
    go_enter Tryd.func4, Tryd.ntmps4
    go_wp2_with fail
    go_quiet (fail)
    go_wp2_with fail
    go_quiet (fail)
    go_wp2_with fail
    go_quiet (fail)
    go_wp2_with fail
    refine (pack_is _ _ _ x (by omega) (by omega) (by omega) (by omega) (by omega) X.out _).mono ?_; rintro e w' ⟨rfl, rfl⟩
    go_wp2_with fail
    refine (pack_is _ _ _ y (by omega) (by omega) (by omega) (by omega) (by omega) Y.out _).mono ?_; rintro e w' ⟨rfl, rfl⟩
    go_wp2_with fail
    refine (unpack_is _ _ _ x (by omega) (by omega) (by omega) (by omega) (by omega) X.out _).mono ?_; rintro e w' ⟨rfl, n, rfl⟩
    go_wp2_with fail
    refine (alive_any _ (tab_drewN (Lib.tabIs_alloc T.out _) _)).mono ?_; rintro e w' ⟨rfl, hb⟩
    go_wp2_with fail
    go_ret
    exact ⟨rfl, (((Below.refl _ _).alloc (Nat.le_refl _) _).trans (below_drewN _ _ _)).trans (hb.mono (by simp))⟩
end Go.Proofs.YtfhhenifiedepaaDoor
