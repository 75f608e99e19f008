/- Contracts of the reference of stamps: Rows, Fine, Over (which calls itself). Own work. -/
import Derived.Test.YtdkliknnnolngaaDoorStU
namespace Go.Proofs.YtdkliknnnolngaaDoor
open Go.ChangeShapes Go.WideShapes Go.ChangeAt Go.RowKit Cyc

set_option maxHeartbeats 400000 in
theorem rowsR_is (A : Option Addr) (c n : Nat) (L : List (List Int)) (hn : L.length = n) (k : Int) (w : World) (hr : RR w A c L) (z : Bool) (hz : rowsL k L = z) :
    Calls Tryd.prog 14 #[.slice A n c, .int .i64 k] w fun e w' => e = .returned (.bool z) ∧ w = w' := by
  subst hn
  have hm := hr.max
  unfold maxLen at hm
  have R := Lib.hid hr; clear hr
  have Z := Lib.hid hz; clear hz
  go_enter Tryd.func14, Tryd.ntmps14
  go_wp2_with fail
  go_loop [5] (fun i => ∃ j : Nat, j ≤ L.length ∧ i = .int .i64 j ∧ Hid (rowsL k (L.take j) = true)) (fun i => L.length - (intOf i).toNat)
  case atStart => exact ⟨0, by omega, rfl, Lib.hid (by simp [rowsL])⟩
  case round =>
    obtain ⟨j, hj, rfl, hall⟩ := hrel
    by_cases hlt : j < L.length
    · obtain ⟨ad, A', c', rfl, hc, hr'⟩ := R.out.at_ hlt
      have hm' := hr'.max
      unfold maxLen at hm'
      have R' := Lib.hid hr'; clear hr'
      by_cases he : (L[j].length : Int) = k
      · have d1 : ((L[j].length : Int) != k) = false := by simp [he]
        cases hf : fineL L[j]
        · have F : Hid (z = false) := Lib.hid (by rw [← Z.out, rowsL_bad hlt (rowOk_fine he hf)])
          have D := Lib.hid hf; clear hf
          clear he
          go_wp2_with fail
          refine (fineR_is A' c' _ _ rfl _ R'.out false D.out).mono ?_; rintro e w' ⟨rfl, rfl⟩
          go_wp2_with fail
          go_ret
          exact ⟨ret_bool F.out.symm, rfl⟩
        · have hall2 := Lib.hid (rowsL_take hlt hall.out (rowOk_fine he hf))
          have D := Lib.hid hf; clear hf
          clear he
          go_wp2_with fail
          refine (fineR_is A' c' _ _ rfl _ R'.out true D.out).mono ?_; rintro e w' ⟨rfl, rfl⟩
          go_wp2_with fail
          go_round
          case rel => exact ⟨j + 1, by omega, by go_num, hall2⟩
          case measure => simp [intOf]; omega
      · have d1 : ((L[j].length : Int) != k) = true := by simp [he]
        have F : Hid (z = false) := Lib.hid (by rw [← Z.out, rowsL_bad hlt (rowOk_len he)])
        clear he
        go_wp2_with fail
        go_ret
        exact ⟨ret_bool F.out.symm, rfl⟩
    · obtain rfl : j = L.length := by omega
      have F : Hid (z = true) := Lib.hid (by rw [← Z.out, rowsL_all hall.out])
      go_wp2_with fail
      go_ret
      exact ⟨ret_bool F.out.symm, rfl⟩
theorem fineBR_is (A : Option Addr) (c n : Nat) (L : List (List Int)) (hn : L.length = n) (w : World) (hr : RR w A c L) (z : Bool) (hz : fineB L = z) :
    Calls Tryd.prog 11 #[.slice A n c] w fun e w' => e = .returned (.bool z) ∧ w = w' := by
  subst hn
  have hm := hr.max
  unfold maxLen at hm
  have R := Lib.hid hr; clear hr
  by_cases h1 : 1 ≤ L.length
  · by_cases h8 : L.length ≤ 8
    · have d1 : (0 : Int) < L.length := by omega
      have d2 : (L.length : Int) < 9 := by omega
      have hr2 : rowsL ((L.length : Int) - 1) L = z := by rw [← hz]; unfold fineB; rw [decide_eq_true h1, decide_eq_true h8]; rfl
      have Z := Lib.hid hr2; clear hz hr2
      go_enter Tryd.func11, Tryd.ntmps11
      go_wp2_with fail
      refine (rowsR_is A c _ L rfl _ _ R.out z Z.out).mono ?_; rintro e w' ⟨rfl, rfl⟩
      go_wp2_with fail
      go_ret
      exact ⟨rfl, rfl⟩
    · have d1 : (0 : Int) < L.length := by omega
      have d2 : ¬ (L.length : Int) < 9 := by omega
      have F : Hid (z = false) := Lib.hid (by rw [← hz]; unfold fineB; rw [decide_eq_false h8]; simp)
      clear hz
      go_enter Tryd.func11, Tryd.ntmps11
      go_wp2_with fail
      go_ret
      exact ⟨ret_bool F.out.symm, rfl⟩
  · have d1 : ¬ (0 : Int) < L.length := by omega
    have F : Hid (z = false) := Lib.hid (by rw [← hz]; unfold fineB; rw [decide_eq_false h1]; simp)
    clear hz
    go_enter Tryd.func11, Tryd.ntmps11
    go_wp2_with fail
    go_ret
    exact ⟨ret_bool F.out.symm, rfl⟩
end Go.Proofs.YtdkliknnnolngaaDoor
