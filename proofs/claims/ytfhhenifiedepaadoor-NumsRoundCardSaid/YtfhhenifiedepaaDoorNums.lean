/- Contracts of nums and of its reference: what each function answers. Own work. -/
import Derived.Test.YtfhhenifiedepaaDoorRows
import Derived.Test.YtfhhenifiedepaaDoorShelf
import Derived.WalkKit
import Derived.ProofKit
import Derived.OpenShut
import Derived.WalkLawsBesides
import Derived.BigQuiet
import Derived.Deep.QuietTactic
import Derived.Lib.Hide
import Derived.Outline
namespace Go.Proofs.YtfhhenifiedepaaDoor
open Go.ChangeShapes Go.WideShapes Go.ChangeAt Go.RowKit

theorem ret_int {k : IntKind} {a b : Int} (h : a = b) : Ending.returned (.int k a) = .returned (.int k b) := by rw [h]
theorem ret_int2 {k l : IntKind} {a b c d : Int} (h : a = b) (g : c = d) : Ending.returned (.tuple #[.int k a, .int l c]) = .returned (.tuple #[.int k b, .int l d]) := by rw [h, g]

theorem tmod_neg {n k : Int} (hk : 0 < k) (h : n.tmod k < 0) : n.tmod k + k = n % k := by
  rw [Int.tmod_eq_emod] at *
  have h1 := Int.emod_nonneg n (show k ≠ 0 by omega)
  split at h
  · omega
  · rename_i hh; rw [if_neg hh]; omega
theorem tmod_pos {n k : Int} (hk : 0 < k) (h : 0 ≤ n.tmod k) : n.tmod k = n % k := by
  rw [Int.tmod_eq_emod] at *
  have h1 := Int.emod_lt_of_pos n hk
  split at h
  · rename_i hh; rw [if_pos hh]; omega
  · rename_i hh; rw [if_neg hh]; omega
theorem tmod_low {n k : Int} (hk : 0 < k) : -k < n.tmod k ∧ n.tmod k < k := by
  rw [Int.tmod_eq_emod]
  have h0 := Int.emod_nonneg n (show k ≠ 0 by omega)
  have h1 := Int.emod_lt_of_pos n hk
  split
  · omega
  · rename_i hh
    have : n % k ≠ 0 := fun e => hh (.inr (Int.dvd_of_emod_eq_zero e))
    omega

/-- A greatest one, as from 0 to m. -/
def cap (m t : Int) : Int := min (max t 0) m
theorem cap_le (m t : Int) (hm : 0 ≤ m) : 0 ≤ cap m t ∧ cap m t ≤ m := by unfold cap; omega
theorem cap_in {m t : Int} (h0 : 0 ≤ t) (h1 : t ≤ m) : cap m t = t := by unfold cap; omega

theorem cut_any (n m : Int) (w : World) : Calls Tryd.prog 19 #[.int .i64 n, .int .i64 m] w fun e w' => e = .returned (.int .i64 (cap m n)) ∧ w = w' := by
  unfold cap
  go_enter Tryd.func19, Tryd.ntmps19
  go_wp2
  all_goals go_ret
  all_goals exact ⟨ret_int (by omega), rfl⟩

theorem within_any (n h : Int) (hlh : 0 ≤ h) (w : World) : Calls Tryd.prog 20 #[.int .i64 n, .int .i64 0, .int .i64 h] w fun e w' => e = .returned (.int .i64 (cap h n)) ∧ w = w' := by
  unfold cap
  go_enter Tryd.func20, Tryd.ntmps20
  go_wp2
  all_goals go_ret
  all_goals exact ⟨ret_int (by omega), rfl⟩

theorem clamp_any (n t : Int) (w : World) : Calls Tryd.prog 8 #[.int .i64 n, .int .i64 t] w fun e w' => e = .returned (.int .i64 (cap (cap 1099511627776 t) n)) ∧ w = w' := by
  go_enter Tryd.func8, Tryd.ntmps8
  go_wp2_with fail
  refine (cut_any _ _ _).mono ?_; rintro e w' ⟨rfl, rfl⟩
  go_wp2_with fail
  refine (cut_any _ _ _).mono ?_; rintro e w' ⟨rfl, rfl⟩
  go_wp2_with fail
  go_ret
  exact ⟨rfl, rfl⟩
theorem clampR_any (n t : Int) (w : World) : Calls Tryd.prog 9 #[.int .i64 n, .int .i64 t] w fun e w' => e = .returned (.int .i64 (cap (cap 1099511627776 t) n)) ∧ w = w' := by
  have hc := cap_le 1099511627776 t (by decide)
  go_enter Tryd.func9, Tryd.ntmps9
  go_wp2_with fail
  refine (within_any _ _ (by decide) _).mono ?_; rintro e w' ⟨rfl, rfl⟩
  go_wp2_with fail
  refine (within_any _ _ (by omega) _).mono ?_; rintro e w' ⟨rfl, rfl⟩
  go_wp2_with fail
  go_ret
  exact ⟨rfl, rfl⟩

theorem wrap_any (n t : Int) (w : World) : Calls Tryd.prog 10 #[.int .i64 n, .int .i64 t] w fun e w' => e = .returned (.int .i64 (n % (cap 1099511627776 t + 1))) ∧ w = w' := by
  have hc := cap_le 1099511627776 t (by decide)
  go_enter Tryd.func10, Tryd.ntmps10
  go_wp2_with fail
  refine (cut_any _ _ _).mono ?_; rintro e w' ⟨rfl, rfl⟩
  have hk : 0 < cap 1099511627776 t + 1 := by omega
  have hm := tmod_low (n := n) hk
  go_wp2_with fail
  all_goals go_ret
  · exact ⟨ret_int (tmod_neg hk ‹_›), rfl⟩
  · exact ⟨ret_int (tmod_pos hk ‹_›), rfl⟩
theorem wrapR_any (n t : Int) (w : World) : Calls Tryd.prog 11 #[.int .i64 n, .int .i64 t] w fun e w' => e = .returned (.int .i64 (n % (cap 1099511627776 t + 1))) ∧ w = w' := by
  have hc := cap_le 1099511627776 t (by decide)
  go_enter Tryd.func11, Tryd.ntmps11
  go_wp2_with fail
  refine (within_any _ _ (by decide) _).mono ?_; rintro e w' ⟨rfl, rfl⟩
  have hk : 0 < cap 1099511627776 t + 1 := by omega
  have hm := tmod_low (n := n) hk
  go_wp2_with fail
  all_goals go_ret
  · exact ⟨ret_int (tmod_neg hk ‹_›), rfl⟩
  · exact ⟨ret_int (tmod_pos hk ‹_›), rfl⟩

theorem mul_cap {a m : Int} (h0 : 0 ≤ a) (h1 : a ≤ 1048576) (g0 : 0 ≤ m) (g1 : m ≤ 1048576) : 0 ≤ a * (m + 1) ∧ a * (m + 1) ≤ 1099512676352 := by
  refine ⟨Int.mul_nonneg h0 (by omega), ?_⟩
  have := Int.mul_le_mul h1 (show m + 1 ≤ 1048577 by omega) (by omega) (by omega)
  omega

def packI (h l t : Int) : Int := cap 1048576 h * (cap 1048576 t + 1) + cap (cap 1048576 t) l
theorem pack_any (h l t : Int) (w : World) : Calls Tryd.prog 12 #[.int .i64 h, .int .i64 l, .int .i64 t] w fun e w' => e = .returned (.int .i64 (packI h l t)) ∧ w = w' := by
  unfold packI
  have hc := cap_le 1048576 t (by decide)
  have hh := cap_le 1048576 h (by decide)
  go_enter Tryd.func12, Tryd.ntmps12
  go_wp2_with fail
  refine (cut_any _ _ _).mono ?_; rintro e w' ⟨rfl, rfl⟩
  go_wp2_with fail
  refine (cut_any _ _ _).mono ?_; rintro e w' ⟨rfl, rfl⟩
  have hm := mul_cap hh.1 hh.2 hc.1 hc.2
  have hl := cap_le (cap 1048576 t) l hc.1
  go_wp2_with fail
  refine (cut_any _ _ _).mono ?_; rintro e w' ⟨rfl, rfl⟩
  go_wp2_with fail
  go_ret
  exact ⟨rfl, rfl⟩
theorem packR_any (h l t : Int) (w : World) : Calls Tryd.prog 13 #[.int .i64 h, .int .i64 l, .int .i64 t] w fun e w' => e = .returned (.int .i64 (packI h l t)) ∧ w = w' := by
  unfold packI
  have hc := cap_le 1048576 t (by decide)
  have hh := cap_le 1048576 h (by decide)
  go_enter Tryd.func13, Tryd.ntmps13
  go_wp2_with fail
  refine (within_any _ _ (by decide) _).mono ?_; rintro e w' ⟨rfl, rfl⟩
  go_wp2_with fail
  refine (within_any _ _ (by decide) _).mono ?_; rintro e w' ⟨rfl, rfl⟩
  have hm := mul_cap hh.1 hh.2 hc.1 hc.2
  have hl := cap_le (cap 1048576 t) l hc.1
  go_wp2_with fail
  refine (within_any _ _ (by omega) _).mono ?_; rintro e w' ⟨rfl, rfl⟩
  go_wp2_with fail
  go_ret
  exact ⟨rfl, rfl⟩

theorem unpack_any (x t : Int) (w : World) : Calls Tryd.prog 6 #[.int .i64 x, .int .i64 t] w fun e w' => e = .returned (.tuple #[.int .i64 (cap 4398046511104 x / (cap 1048576 t + 1)), .int .i64 (cap 4398046511104 x % (cap 1048576 t + 1))]) ∧ ∃ n, w' = w.drewN n := by
  have hc := cap_le 1048576 t (by decide)
  have hx := cap_le 4398046511104 x (by decide)
  go_enter Tryd.func6, Tryd.ntmps6
  go_wp2_with fail
  refine (cut_any _ _ _).mono ?_; rintro e w' ⟨rfl, rfl⟩
  go_wp2_with fail
  refine (cut_any _ _ _).mono ?_; rintro e w' ⟨rfl, rfl⟩
  go_wp2_with fail
  go_quiet (fail)
  go_wp2_with fail
  go_ret2
  exact ⟨rfl, _, rfl⟩

theorem quo_rest (y m : Int) : y - y / m * m = y % m := by
  have h1 := Int.mul_ediv_add_emod y m
  rw [Int.mul_comm] at h1
  omega
theorem quo_in {y m : Int} (hy : 0 ≤ y) (hm : 0 < m) : 0 ≤ y / m * m ∧ y / m * m ≤ y := by
  have h1 := quo_rest y m
  have h2 := Int.emod_nonneg y (show m ≠ 0 by omega)
  exact ⟨Int.mul_nonneg (Int.ediv_nonneg hy (by omega)) (by omega), by omega⟩
theorem unpackR_any (x t : Int) (w : World) : Calls Tryd.prog 7 #[.int .i64 x, .int .i64 t] w fun e w' => e = .returned (.tuple #[.int .i64 (cap 4398046511104 x / (cap 1048576 t + 1)), .int .i64 (cap 4398046511104 x % (cap 1048576 t + 1))]) ∧ ∃ n, w' = w.drewN n := by
  have hc := cap_le 1048576 t (by decide)
  have hx := cap_le 4398046511104 x (by decide)
  go_enter Tryd.func7, Tryd.ntmps7
  go_wp2_with fail
  refine (within_any _ _ (by decide) _).mono ?_; rintro e w' ⟨rfl, rfl⟩
  go_wp2_with fail
  refine (within_any _ _ (by decide) _).mono ?_; rintro e w' ⟨rfl, rfl⟩
  have hq := quo_in hx.1 (show 0 < cap 1048576 t + 1 by omega)
  go_wp2_with fail
  go_quiet (fail)
  go_wp2_with fail
  go_ret2
  exact ⟨ret_int2 rfl (quo_rest _ _), _, rfl⟩

/-- How often 1 is doubled till it is not below n. -/
def levI (n : Int) : Nat := Lib.bitLen (max n 1 - 1).toNat
theorem lev_unique {n : Int} {k : Nat} (hn : n ≤ 9223372036854775807) (hk : k ≤ 64) (h1 : n ≤ 2 ^ k) (h0 : k = 0 ∨ (2 : Int) ^ (k - 1) < n) : levI n = k := by
  unfold levI
  rcases Nat.eq_zero_or_pos k with rfl | hp
  · have : (max n 1 - 1).toNat = 0 := by simp at h1; omega
    rw [this]; rfl
  · rcases h0 with h0 | h0
    · omega
    have hpos : (0 : Int) < 2 ^ (k - 1) := Int.pow_pos (by decide)
    have e : max n 1 - 1 = n - 1 := by omega
    rw [e]
    obtain ⟨m, hm⟩ : ∃ m : Nat, n = m + 1 := ⟨(n - 1).toNat, by omega⟩
    subst hm
    have e2 : ((m : Int) + 1 - 1).toNat = m := by omega
    rw [e2]
    have a1 : m < 2 ^ k := by have : ((2 ^ k : Nat) : Int) = 2 ^ k := by simp
                              omega
    have a0 : 2 ^ (k - 1) ≤ m := by have : ((2 ^ (k - 1) : Nat) : Int) = 2 ^ (k - 1) := by simp
                                    omega
    have hm0 : m ≠ 0 := by have := Nat.two_pow_pos (k - 1); omega
    have hb := Lib.bitLenAux_bounds 64 m (by omega) hm0
    have hu := Lib.bitLen_le m k hk a1
    unfold Lib.bitLen at *
    rcases Nat.lt_or_ge (Lib.bitLenAux 64 m) k with hl | hl
    · exfalso
      have : 2 ^ Lib.bitLenAux 64 m ≤ 2 ^ (k - 1) := Nat.pow_le_pow_right (by decide) (by omega)
      omega
    · omega

theorem levels_any (n : Int) (h0 : -9223372036854775808 ≤ n) (h1 : n ≤ 9223372036854775807) (w : World) : Calls Tryd.prog 14 #[.int .i64 n] w fun e w' => e = .returned (.int .i64 (levI n)) ∧ w = w' := by
  unfold levI
  go_enter Tryd.func14, Tryd.ntmps14
  go_wp2_with fail
  refine (Tryd.bits_Len _ _ (by omega) (by omega)).mono ?_; rintro e w' ⟨rfl, rfl⟩
  go_wp2_with fail
  go_ret
  exact ⟨ret_int (by rw [show (max n 1 - 1).toNat = (max n 1).toNat - 1 by omega]), rfl⟩

theorem two_pow_le {k : Nat} (hk : k ≤ 63) : (2 : Int) ^ k ≤ 9223372036854775808 := by
  have : (2 : Nat) ^ k ≤ 2 ^ 63 := Nat.pow_le_pow_right (by decide) hk
  have e : ((2 ^ k : Nat) : Int) = 2 ^ k := by simp
  omega
theorem two_pow_pos (k : Nat) : (1 : Int) ≤ 2 ^ k := by
  have : (0 : Int) < 2 ^ k := Int.pow_pos (by decide)
  omega
def P2 (k : Nat) : Int := 2 ^ k
theorem P2_succ (k : Nat) : 2 * P2 k = P2 (k + 1) := by unfold P2; rw [Int.pow_succ]; omega
theorem P2_top {k : Nat} {n : Int} (hn : n ≤ 9223372036854775807) (h : P2 k < n) : k ≤ 62 := by
  unfold P2 at h
  rcases Nat.lt_or_ge 62 k with hk | hk
  · exfalso
    have : (2 : Nat) ^ 63 ≤ 2 ^ k := Nat.pow_le_pow_right (by decide) hk
    have e : ((2 ^ k : Nat) : Int) = 2 ^ k := by simp
    omega
  · exact hk
theorem P2_in {k : Nat} (hk : k ≤ 63) : 1 ≤ P2 k ∧ P2 k ≤ 9223372036854775808 := ⟨two_pow_pos k, two_pow_le hk⟩

theorem levelsR_any (n : Int) (h0 : -9223372036854775808 ≤ n) (h1 : n ≤ 9223372036854775807) (w : World) : Calls Tryd.prog 15 #[.int .i64 n] w fun e w' => e = .returned (.int .i64 (levI n)) ∧ w = w' := by
  go_enter Tryd.func15, Tryd.ntmps15
  go_wp2
  go_loop [3, 4] (fun a b => ∃ k : Nat, k ≤ 63 ∧ (k = 0 ∨ 0 < n ∧ P2 (k - 1) < n) ∧ a = .int .i64 k ∧ b = .int .u64 (P2 k)) (fun a _ => 64 - (intOf a).toNat)
  case atStart => exact ⟨0, by omega, .inl rfl, rfl, rfl⟩
  case round =>
    obtain ⟨k, hk, hk1, rfl, rfl⟩ := hrel
    have hp := P2_in hk
    by_cases hn : 0 < n
    · by_cases hlt : P2 k < n
      · have hk2 := P2_top h1 hlt
        have hp2 := P2_in (k := k + 1) (by omega)
        rw [← P2_succ] at hp2
        go_wp2
        go_round
        case rel => exact ⟨k + 1, by omega, .inr ⟨hn, hlt⟩, by go_num, by rw [P2_succ]⟩
        case measure => simp [intOf]; omega
      · have he : levI n = k := lev_unique h1 (by omega) (by unfold P2 at hlt; omega) (hk1.imp id fun h => h.2)
        have H := Lib.hid he; clear he
        go_wp2
        go_ret
        exact ⟨ret_int (by have := H.out; omega), rfl⟩
    · have he : levI n = 0 := lev_unique h1 (by omega) (by simp; omega) (.inl rfl)
      have hk0 : k = 0 := by omega
      subst hk0
      have H := Lib.hid he; clear he
      go_wp2
      go_ret
      exact ⟨ret_int (by have := H.out; omega), rfl⟩
end Go.Proofs.YtfhhenifiedepaaDoor
