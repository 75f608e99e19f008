/- Rests of divisions. Own work. -/
import Derived.Test.YtjffgppdjdmmgaaHas
namespace Go.Proofs.Ytjffgppdjdmmgaa
open Go.ChangeShapes Go.WideShapes Go.ChangeAt Go.RowKit CellM

theorem tmod_neg {n k : Int} (hk : 0 < k) (h : n.tmod k < 0) : n.tmod k + k = n % k := by
  rw [Int.tmod_eq_emod] at *
  have h1 := Int.emod_nonneg n (show k ≠ 0 by omega)
  split at h
  · omega
  · rename_i hh; rw [if_neg hh]; omega
theorem tmod_pos {n k : Int} (hk : 0 < k) (h : 0 ≤ n.tmod k) : n.tmod k = n % k := by
  rw [Int.tmod_eq_emod] at *
  have h1 := Int.emod_lt_of_pos n hk
  split at h
  · rename_i hh; rw [if_pos hh]; omega
  · rename_i hh; rw [if_neg hh]; omega
theorem tmod_low {n k : Int} (hk : 0 < k) : -k < n.tmod k ∧ n.tmod k < k := by
  rw [Int.tmod_eq_emod]
  have h0 := Int.emod_nonneg n (show k ≠ 0 by omega)
  have h1 := Int.emod_lt_of_pos n hk
  split
  · omega
  · rename_i hh
    have : n % k ≠ 0 := fun e => hh (.inr (Int.dvd_of_emod_eq_zero e))
    omega
end Go.Proofs.Ytjffgppdjdmmgaa
