/- Contracts of the reference of cycle. Own work. -/
import Derived.Test.YtdkliknnnolngaaDoorCycZ
namespace Go.Proofs.YtdkliknnnolngaaDoor
open Go.ChangeShapes Go.WideShapes Go.ChangeAt Go.RowKit Cyc

theorem within_is (n h z : Int) (hz : min (max n 0) h = z) (w : World) (hlh : 0 ≤ h) : Calls Tryd.prog 24 #[.int .i64 n, .int .i64 0, .int .i64 h] w fun e w' => e = .returned (.int .i64 z) ∧ w = w' := by
  have HZ := Lib.hid hz; clear hz
  go_enter Tryd.func24, Tryd.ntmps24
  go_wp2
  all_goals go_ret
  all_goals exact ⟨ret_int (by have := HZ.out; omega), rfl⟩
theorem clampR_is (n z : Int) (hz : min (max n 0) 8 = z) (w : World) : Calls Tryd.prog 8 #[.int .i64 n, .int .i64 8] w fun e w' => e = .returned (.int .i64 z) ∧ w = w' := by
  have HZ := Lib.hid hz; clear hz
  go_enter Tryd.func8, Tryd.ntmps8
  go_wp2_with fail
  refine (within_is 8 1099511627776 8 rfl _ (by decide)).mono ?_; rintro e w' ⟨rfl, rfl⟩
  go_wp2_with fail
  refine (within_is n 8 z HZ.out _ (by decide)).mono ?_; rintro e w' ⟨rfl, rfl⟩
  go_wp2_with fail
  go_ret
  exact ⟨rfl, rfl⟩
theorem beatsR_is (a b : Int) (z : Bool) (h : beatsD a b = z) (w : World) : Calls Tryd.prog 34 #[.int .i64 a, .int .i64 b] w fun e w' => e = .returned (.bool z) ∧ w = w' := by
  have H := Lib.hid h; clear h
  go_enter Tryd.func34, Tryd.ntmps34
  go_wp2_with fail
  all_goals go_ret
  all_goals exact ⟨ret_bool (by rw [← H.out]; unfold beatsD; rw [Bool.eq_iff_iff]; simp; omega), rfl⟩
theorem nextR_is (d z : Int) (hz : nextD d = z) (w : World) : Calls Tryd.prog 31 #[.int .i64 d] w fun e w' => e = .returned (.int .i64 z) ∧ w = w' := by
  have HZ := Lib.hid hz; clear hz
  go_enter Tryd.func31, Tryd.ntmps31
  go_wp2_with fail
  go_loop [3] (fun i => ∃ k : Nat, k ≤ 3 ∧ i = .int .i64 k ∧ Hid (∀ j : Nat, j < k → beatsD j d = false)) (fun i => 3 - (intOf i).toNat)
  case atStart => exact ⟨0, by omega, rfl, Lib.hid (fun j hj => by omega)⟩
  case round =>
    obtain ⟨k, hk, rfl, hn⟩ := hrel
    by_cases hlt : k < 3
    · have hlt' : (k : Int) < 3 := by omega
      cases hb : beatsD k d
      · have hn2 : Hid (∀ j : Nat, j < k + 1 → beatsD j d = false) := Lib.hid (fun j hj => by
          rcases (show j < k ∨ j = k by omega) with h | rfl
          · exact hn.out j h
          · exact hb)
        have B := Lib.hid hb; clear hb
        go_wp2_with fail
        refine (beatsR_is _ _ false B.out _).mono ?_; rintro e w' ⟨rfl, rfl⟩
        go_wp2_with fail
        go_round
        case rel => exact ⟨k + 1, by omega, by go_num, hn2⟩
        case measure => simp [intOf]; omega
      · have hz : Hid (z = (k : Int)) := Lib.hid (by
          rw [← HZ.out]
          rw [beatsD_iff] at hb
          unfold nextD
          split <;> (try split) <;> omega)
        have B := Lib.hid hb; clear hb
        go_wp2_with fail
        refine (beatsR_is _ _ true B.out _).mono ?_; rintro e w' ⟨rfl, rfl⟩
        go_wp2_with fail
        go_ret
        exact ⟨ret_int hz.out.symm, rfl⟩
    · obtain rfl : k = 3 := by omega
      have hz : Hid (z = 0) := Lib.hid (by
        rw [← HZ.out]
        have h0 := hn.out 0 (by decide)
        have h1 := hn.out 1 (by decide)
        have h2 := hn.out 2 (by decide)
        rw [beatsD_not] at h0 h1 h2
        unfold nextD
        split <;> (try split) <;> omega)
      clear hlt hk
      go_wp2_with fail
      go_ret
      exact ⟨ret_int hz.out.symm, rfl⟩
set_option maxHeartbeats 400000 in
theorem fineR_is (A : Option Addr) (c n : Nat) (l : List Int) (hn : l.length = n) (w : World) (hr : RI w A c l) (z : Bool) (hz : fineL l = z) : Calls Tryd.prog 30 #[.slice A n c] w fun e w' => e = .returned (.bool z) ∧ w = w' := by
  subst hn
  have hm := hr.max
  unfold maxLen at hm
  have R := Lib.hid hr; clear hr
  have Z := Lib.hid hz; clear hz
  go_enter Tryd.func30, Tryd.ntmps30
  go_wp2_with fail
  go_loop [3] (fun i => ∃ k : Nat, k ≤ l.length ∧ i = .int .i64 k ∧ Hid ((l.take k).all isD = true)) (fun i => l.length - (intOf i).toNat)
  case atStart => exact ⟨0, by omega, rfl, Lib.hid (by simp)⟩
  case round =>
    obtain ⟨k, hk, rfl, hall⟩ := hrel
    by_cases hlt : k < l.length
    · obtain ⟨ad, rfl, hc⟩ := R.out.at_ hlt
      cases hd : isD l[k]
      · have F := Lib.hid (fineL_bad hlt hd)
        have hd2 := isD_not.1 hd
        clear hd
        rcases (show l[k] < 0 ∨ (0 ≤ l[k] ∧ 2 < l[k]) by omega) with h1 | ⟨h1, h2⟩
        all_goals
          clear hd2
          go_wp2_with fail
          go_ret
          exact ⟨ret_bool (by rw [← Z.out, F.out]), rfl⟩
      · have hall2 := Lib.hid (all_snoc hlt hall.out hd)
        obtain ⟨h1, h2⟩ := isD_iff.1 hd
        have h3 : l[k] ≤ 2 := by omega
        clear hd
        go_wp2_with fail
        go_round
        case rel => exact ⟨k + 1, by omega, by go_num, hall2⟩
        case measure => simp [intOf]; omega
    · obtain rfl : k = l.length := by omega
      have F := Lib.hid (fineL_short hall.out)
      go_wp2_with fail
      all_goals go_ret
      all_goals exact ⟨ret_bool (by rw [← Z.out, F.out, Bool.eq_iff_iff]; simp; try omega), rfl⟩
end Go.Proofs.YtdkliknnnolngaaDoor
