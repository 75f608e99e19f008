/- Contracts of stamps' quiet calls: has, areRows, Fine, greatest, dominatesAll. Own work. -/
import Derived.Test.YtdkliknnnolngaaDoorLists
import Derived.Test.YtdkliknnnolngaaDoorStamp
namespace Go.Proofs.YtdkliknnnolngaaDoor
open Go.ChangeShapes Go.WideShapes Go.ChangeAt Go.RowKit Cyc

theorem has_is (A : Option Addr) (c n : Nat) (t : Int) (z : Bool) (hz : (decide (0 ≤ t) && decide (t < (n : Int))) = z) (w : World) :
    Calls Tryd.prog 26 #[.slice A n c, .int .i64 t] w fun e w' => e = .returned (.bool z) ∧ w = w' := by
  have Z := Lib.hid hz; clear hz
  by_cases h0 : 0 ≤ t
  · by_cases h1 : t < (n : Int)
    · have F : Hid (z = true) := Lib.hid (by rw [← Z.out, decide_eq_true h0, decide_eq_true h1]; rfl)
      go_enter Tryd.func26, Tryd.ntmps26
      go_wp2_with fail
      go_ret
      exact ⟨ret_bool F.out.symm, rfl⟩
    · have F : Hid (z = false) := Lib.hid (by rw [← Z.out, decide_eq_true h0, decide_eq_false h1]; rfl)
      go_enter Tryd.func26, Tryd.ntmps26
      go_wp2_with fail
      go_ret
      exact ⟨ret_bool F.out.symm, rfl⟩
  · have F : Hid (z = false) := Lib.hid (by rw [← Z.out, decide_eq_false h0]; rfl)
    go_enter Tryd.func26, Tryd.ntmps26
    go_wp2_with fail
    go_ret
    exact ⟨ret_bool F.out.symm, rfl⟩
set_option maxHeartbeats 400000 in
theorem areRows_is (A : Option Addr) (c n : Nat) (L : List (List Int)) (hn : L.length = n) (k : Int) (w : World) (hr : RR w A c L) (z : Bool) (hz : rowsL k L = z) :
    Calls Tryd.prog 25 #[.slice A n c, .int .i64 k] w fun e w' => e = .returned (.bool z) ∧ w = w' := by
  subst hn
  have hm := hr.max
  unfold maxLen at hm
  have R := Lib.hid hr; clear hr
  have Z := Lib.hid hz; clear hz
  go_enter Tryd.func25, Tryd.ntmps25
  go_wp2_with fail
  go_loop [9] (fun i => ∃ j : Nat, j ≤ L.length ∧ i = .int .i64 j ∧ Hid (rowsL k (L.take j) = true)) (fun i => L.length - (intOf i).toNat)
  case atStart => exact ⟨0, by omega, rfl, Lib.hid (by simp [rowsL])⟩
  case round =>
    obtain ⟨j, hj, rfl, hall⟩ := hrel
    by_cases hlt : j < L.length
    · obtain ⟨ad, A', c', rfl, hc, hr'⟩ := R.out.at_ hlt
      have hm' := hr'.max
      unfold maxLen at hm'
      have R' := Lib.hid hr'; clear hr'
      by_cases he : (L[j].length : Int) = k
      · have d1 : ((L[j].length : Int) != k) = false := by simp [he]
        cases hf : fineL L[j]
        · have F : Hid (z = false) := Lib.hid (by rw [← Z.out, rowsL_bad hlt (rowOk_fine he hf)])
          have D := Lib.hid hf; clear hf
          clear he
          go_wp2_with fail
          refine (fine_is A' c' _ _ rfl _ R'.out false D.out).mono ?_; rintro e w' ⟨rfl, rfl⟩
          go_wp2_with fail
          go_ret
          exact ⟨ret_bool F.out.symm, rfl⟩
        · have hall2 := Lib.hid (rowsL_take hlt hall.out (rowOk_fine he hf))
          have D := Lib.hid hf; clear hf
          clear he
          go_wp2_with fail
          refine (fine_is A' c' _ _ rfl _ R'.out true D.out).mono ?_; rintro e w' ⟨rfl, rfl⟩
          go_wp2_with fail
          go_round
          case rel => exact ⟨j + 1, by omega, by go_num, hall2⟩
          case measure => simp [intOf]; omega
      · have d1 : ((L[j].length : Int) != k) = true := by simp [he]
        have F : Hid (z = false) := Lib.hid (by rw [← Z.out, rowsL_bad hlt (rowOk_len he)])
        clear he
        go_wp2_with fail
        go_ret
        exact ⟨ret_bool F.out.symm, rfl⟩
    · obtain rfl : j = L.length := by omega
      have F : Hid (z = true) := Lib.hid (by rw [← Z.out, rowsL_all hall.out])
      go_wp2_with fail
      go_ret
      exact ⟨ret_bool F.out.symm, rfl⟩
theorem fineB_is (A : Option Addr) (c n : Nat) (L : List (List Int)) (hn : L.length = n) (w : World) (hr : RR w A c L) (z : Bool) (hz : fineB L = z) :
    Calls Tryd.prog 10 #[.slice A n c] w fun e w' => e = .returned (.bool z) ∧ w = w' := by
  subst hn
  have hm := hr.max
  unfold maxLen at hm
  have R := Lib.hid hr; clear hr
  by_cases h1 : 1 ≤ L.length
  · by_cases h8 : L.length ≤ 8
    · have d1 : (1 : Int) ≤ L.length := by omega
      have d2 : (L.length : Int) ≤ 8 := by omega
      have hr2 : rowsL ((L.length : Int) - 1) L = z := by rw [← hz]; unfold fineB; rw [decide_eq_true h1, decide_eq_true h8]; rfl
      have Z := Lib.hid hr2; clear hz hr2
      go_enter Tryd.func10, Tryd.ntmps10
      go_wp2_with fail
      refine (areRows_is A c _ L rfl _ _ R.out z Z.out).mono ?_; rintro e w' ⟨rfl, rfl⟩
      go_wp2_with fail
      go_ret
      exact ⟨rfl, rfl⟩
    · have d1 : (1 : Int) ≤ L.length := by omega
      have d2 : ¬ (L.length : Int) ≤ 8 := by omega
      have F : Hid (z = false) := Lib.hid (by rw [← hz]; unfold fineB; rw [decide_eq_false h8]; simp)
      clear hz
      go_enter Tryd.func10, Tryd.ntmps10
      go_wp2_with fail
      go_ret
      exact ⟨ret_bool F.out.symm, rfl⟩
  · have d1 : ¬ (1 : Int) ≤ L.length := by omega
    have F : Hid (z = false) := Lib.hid (by rw [← hz]; unfold fineB; rw [decide_eq_false h1]; simp)
    clear hz
    go_enter Tryd.func10, Tryd.ntmps10
    go_wp2_with fail
    go_ret
    exact ⟨ret_bool F.out.symm, rfl⟩
set_option maxHeartbeats 400000 in
theorem greatest_is (A : Option Addr) (c n : Nat) (L : List (List Int)) (hn : L.length = n) (h0 : 0 < n) (w : World) (ht : Ring w) (hr : RR w A c L) (m : List Int) (hg : great L = m) :
    Calls Tryd.prog 37 #[.slice A n c] w fun e w' => (∃ A' c', e = .returned (.slice A' m.length c') ∧ RI w A' c' m) ∧ w = w' := by
  subst hn
  have hm := hr.max
  unfold maxLen at hm
  have R := Lib.hid hr; clear hr
  have T := Lib.hid ht; clear ht
  have G := Lib.hid hg; clear hg
  obtain ⟨ad, A0, c0, rfl, hc0, hr0⟩ := R.out.at_ h0
  have hc00 : w.cell? ad = some (.slice A0 L[0].length c0) := by simpa [Addr.add] using hc0
  have R0 := Lib.hid hr0; clear hr0
  have S0 := Lib.hid (great_start h0)
  have hpos : (0 : Int) < L.length := by omega
  go_enter Tryd.func37, Tryd.ntmps37
  go_wp2_with fail
  go_loop [3, 11] (fun v i => ∃ (j : Nat) (m' : List Int) (A' : Option Addr) (c' : Nat), j ≤ L.length ∧ v = .slice A' m'.length c' ∧ i = .int .i64 j ∧ Hid (RI w A' c' m') ∧ Hid (bestL m' (L.drop j) = great L)) (fun _ i => L.length - (intOf i).toNat)
  case atStart => exact ⟨0, L[0], A0, c0, by omega, rfl, rfl, R0, S0⟩
  case round =>
    obtain ⟨j, m', A', c', hj, rfl, rfl, HM, HB⟩ := hrel
    by_cases hlt : j < L.length
    · obtain ⟨ad', A1, c1, e, hc1, hr1⟩ := R.out.at_ hlt
      cases e
      have R1 := Lib.hid hr1; clear hr1
      cases hd : domL L[j] m'
      · have S1 : Hid (bestL m' (L.drop (j + 1)) = great L) := Lib.hid (by simpa using best_step hlt HB.out hd)
        have D := Lib.hid hd; clear hd
        go_wp2_with fail
        refine (dom_is A1 A' c1 c' _ _ _ _ rfl rfl _ T.out R1.out HM.out false D.out).mono ?_; rintro e w' ⟨rfl, rfl⟩
        go_wp2_with fail
        go_round
        case rel => exact ⟨j + 1, m', A', c', by omega, rfl, by go_num, HM, S1⟩
        case measure => simp [intOf]; omega
      · have S1 : Hid (bestL L[j] (L.drop (j + 1)) = great L) := Lib.hid (by simpa using best_step hlt HB.out hd)
        have D := Lib.hid hd; clear hd
        go_wp2_with fail
        refine (dom_is A1 A' c1 c' _ _ _ _ rfl rfl _ T.out R1.out HM.out true D.out).mono ?_; rintro e w' ⟨rfl, rfl⟩
        go_wp2_with fail
        go_round
        case rel => exact ⟨j + 1, L[j], A1, c1, by omega, rfl, by go_num, R1, S1⟩
        case measure => simp [intOf]; omega
    · obtain rfl : j = L.length := by omega
      have E : m' = m := (best_end HB.out).trans G.out
      have hR := HM.out
      clear HB HM
      subst E
      go_wp2_with fail
      go_ret
      exact ⟨⟨A', c', rfl, hR⟩, rfl⟩
set_option maxHeartbeats 400000 in
theorem domAll_is (A A' : Option Addr) (c c' n n' : Nat) (r : List Int) (L : List (List Int)) (hn : L.length = n) (hn' : r.length = n') (w : World) (ht : Ring w) (hr : RR w A c L) (hr' : RI w A' c' r) (z : Bool) (hz : domAll r L = z) :
    Calls Tryd.prog 32 #[.slice A' n' c', .slice A n c] w fun e w' => e = .returned (.bool z) ∧ w = w' := by
  subst hn; subst hn'
  have hm := hr.max
  unfold maxLen at hm
  have R := Lib.hid hr; clear hr
  have R' := Lib.hid hr'; clear hr'
  have T := Lib.hid ht; clear ht
  have Z := Lib.hid hz; clear hz
  go_enter Tryd.func32, Tryd.ntmps32
  go_wp2_with fail
  go_loop [9] (fun i => ∃ j : Nat, j ≤ L.length ∧ i = .int .i64 j ∧ Hid (domAll r (L.take j) = true)) (fun i => L.length - (intOf i).toNat)
  case atStart => exact ⟨0, by omega, rfl, Lib.hid (by simp [domAll])⟩
  case round =>
    obtain ⟨j, hj, rfl, hall⟩ := hrel
    by_cases hlt : j < L.length
    · obtain ⟨ad, A1, c1, rfl, hc, hr1⟩ := R.out.at_ hlt
      have R1 := Lib.hid hr1; clear hr1
      cases hd : domL r L[j]
      · have F : Hid (z = false) := Lib.hid (by rw [← Z.out, domAll_bad hlt hd])
        have D := Lib.hid hd; clear hd
        go_wp2_with fail
        refine (dom_is A' A1 c' c1 _ _ _ _ rfl rfl _ T.out R'.out R1.out false D.out).mono ?_; rintro e w' ⟨rfl, rfl⟩
        go_wp2_with fail
        go_ret
        exact ⟨ret_bool F.out.symm, rfl⟩
      · have S1 := Lib.hid (domAll_take hlt hall.out hd)
        have D := Lib.hid hd; clear hd
        go_wp2_with fail
        refine (dom_is A' A1 c' c1 _ _ _ _ rfl rfl _ T.out R'.out R1.out true D.out).mono ?_; rintro e w' ⟨rfl, rfl⟩
        go_wp2_with fail
        go_round
        case rel => exact ⟨j + 1, by omega, by go_num, S1⟩
        case measure => simp [intOf]; omega
    · obtain rfl : j = L.length := by omega
      have F : Hid (z = true) := Lib.hid (by rw [← Z.out, domAll_all hall.out])
      go_wp2_with fail
      go_ret
      exact ⟨ret_bool F.out.symm, rfl⟩
end Go.Proofs.YtdkliknnnolngaaDoor
