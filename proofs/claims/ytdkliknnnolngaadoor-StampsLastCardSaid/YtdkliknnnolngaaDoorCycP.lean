/- Contracts of cycle. Own work. -/
import Derived.Test.YtdkliknnnolngaaDoorCyc
import Derived.Test.YtdkliknnnolngaaDoorInts
namespace Go.Proofs.YtdkliknnnolngaaDoor
open Go.ChangeShapes Go.WideShapes Go.ChangeAt Go.RowKit Cyc

/-- The array of the digits that beat others. -/
def Ring (w : World) : Prop := w.cell? ⟨0, 0, none⟩ = some (.int .i64 1) ∧ w.cell? ⟨0, 1, none⟩ = some (.int .i64 2) ∧ w.cell? ⟨0, 2, none⟩ = some (.int .i64 0)
theorem Ring.below {w w' : World} (h : Ring w) (hb : Below w.heap.size w w') : Ring w' :=
  ⟨(hb.cell (cell_lt h.1)).trans h.1, (hb.cell (cell_lt h.2.1)).trans h.2.1, (hb.cell (cell_lt h.2.2)).trans h.2.2⟩
theorem Ring.drewN {w : World} (h : Ring w) (n : Nat) : Ring (w.drewN n) := h

theorem isD_is (d : Int) (b : Bool) (h : isD d = b) (w : World) : Calls Tryd.prog 42 #[.int .i64 d] w fun e w' => e = .returned (.bool b) ∧ w = w' := by
  by_cases h0 : 0 ≤ d
  · by_cases h1 : d < 3
    · obtain rfl : b = true := by rw [← h, isD_iff]; exact ⟨h0, h1⟩
      clear h
      go_enter Tryd.func42, Tryd.ntmps42
      go_wp2_with fail
      go_ret
      exact ⟨rfl, rfl⟩
    · obtain rfl : b = false := by rw [← h, isD_not]; omega
      have h2 : 3 ≤ d := by omega
      clear h
      go_enter Tryd.func42, Tryd.ntmps42
      go_wp2_with fail
      go_ret
      exact ⟨rfl, rfl⟩
  · obtain rfl : b = false := by rw [← h, isD_not]; omega
    have h2 : d < 0 := by omega
    clear h
    go_enter Tryd.func42, Tryd.ntmps42
    go_wp2_with fail
    go_ret
    exact ⟨rfl, rfl⟩
theorem next_is (d z : Int) (hz : nextD d = z) (w : World) (ht : Ring w) : Calls Tryd.prog 39 #[.int .i64 d] w fun e w' => e = .returned (.int .i64 z) ∧ w = w' := by
  obtain ⟨t0, t1, t2⟩ := ht
  rcases (show d = 0 ∨ d = 1 ∨ d = 2 ∨ ¬ (0 ≤ d ∧ d < 3) by omega) with rfl | rfl | rfl | hd
  · obtain rfl : z = 1 := hz.symm
    go_enter Tryd.func39, Tryd.ntmps39
    go_wp2_with fail
    refine (isD_is 0 true rfl _).mono ?_; rintro e w' ⟨rfl, rfl⟩
    go_wp2_with fail
    go_ret
    exact ⟨rfl, rfl⟩
  · obtain rfl : z = 2 := hz.symm
    go_enter Tryd.func39, Tryd.ntmps39
    go_wp2_with fail
    refine (isD_is 1 true rfl _).mono ?_; rintro e w' ⟨rfl, rfl⟩
    go_wp2_with fail
    go_ret
    exact ⟨rfl, rfl⟩
  · obtain rfl : z = 0 := hz.symm
    go_enter Tryd.func39, Tryd.ntmps39
    go_wp2_with fail
    refine (isD_is 2 true rfl _).mono ?_; rintro e w' ⟨rfl, rfl⟩
    go_wp2_with fail
    go_ret
    exact ⟨rfl, rfl⟩
  · obtain rfl : z = 0 := by rw [← hz]; unfold nextD; rw [if_neg (by omega), if_neg (by omega)]
    have H := Lib.hid (isD_not.2 hd)
    clear hd hz
    go_enter Tryd.func39, Tryd.ntmps39
    go_wp2_with fail
    refine (isD_is d false H.out _).mono ?_; rintro e w' ⟨rfl, rfl⟩
    go_wp2_with fail
    go_ret
    exact ⟨rfl, rfl⟩
theorem beats_at (a b x : Int) (z : Bool) (h : (a == x) = z) (hb : b = 0 ∧ x = 1 ∨ b = 1 ∧ x = 2 ∨ b = 2 ∧ x = 0) (w : World) (ht : Ring w) : Calls Tryd.prog 41 #[.int .i64 a, .int .i64 b] w fun e w' => e = .returned (.bool z) ∧ w = w' := by
  obtain ⟨t0, t1, t2⟩ := ht
  have H := Lib.hid h; clear h
  rcases hb with ⟨rfl, rfl⟩ | ⟨rfl, rfl⟩ | ⟨rfl, rfl⟩
  all_goals
    go_enter Tryd.func41, Tryd.ntmps41
    go_wp2_with fail
    refine (isD_is _ true rfl _).mono ?_; rintro e w' ⟨rfl, rfl⟩
    go_wp2_with fail
    go_ret
    exact ⟨ret_bool H.out, rfl⟩
theorem beats_is (a b : Int) (z : Bool) (h : beatsD a b = z) (w : World) (ht : Ring w) : Calls Tryd.prog 41 #[.int .i64 a, .int .i64 b] w fun e w' => e = .returned (.bool z) ∧ w = w' := by
  rcases (show b = 0 ∨ b = 1 ∨ b = 2 ∨ ¬ (0 ≤ b ∧ b < 3) by omega) with rfl | rfl | rfl | hd
  · exact beats_at a 0 1 z (by rw [← h]; unfold beatsD; rw [Bool.eq_iff_iff]; simp) (by omega) w ht
  · exact beats_at a 1 2 z (by rw [← h]; unfold beatsD; rw [Bool.eq_iff_iff]; simp) (by omega) w ht
  · exact beats_at a 2 0 z (by rw [← h]; unfold beatsD; rw [Bool.eq_iff_iff]; simp) (by omega) w ht
  · obtain rfl : z = false := by rw [← h, beatsD_not]; omega
    have H := Lib.hid (isD_not.2 hd)
    clear hd h
    go_enter Tryd.func41, Tryd.ntmps41
    go_wp2_with fail
    refine (isD_is b false H.out _).mono ?_; rintro e w' ⟨rfl, rfl⟩
    go_wp2_with fail
    go_ret
    exact ⟨rfl, rfl⟩
set_option maxHeartbeats 400000 in
theorem fine_is (A : Option Addr) (c n : Nat) (l : List Int) (hn : l.length = n) (w : World) (hr : RI w A c l) (z : Bool) (hz : fineL l = z) : Calls Tryd.prog 35 #[.slice A n c] w fun e w' => e = .returned (.bool z) ∧ w = w' := by
  subst hn
  have hm := hr.max
  unfold maxLen at hm
  have R := Lib.hid hr; clear hr
  by_cases h8 : 8 < l.length
  · obtain rfl : z = false := by rw [← hz, fineL_long h8]
    have h8' : (8 : Int) < l.length := by omega
    clear hz
    go_enter Tryd.func35, Tryd.ntmps35
    go_wp2_with fail
    go_ret
    exact ⟨rfl, rfl⟩
  · have h8' : (l.length : Int) ≤ 8 := by omega
    have Z := Lib.hid hz; clear hz
    go_enter Tryd.func35, Tryd.ntmps35
    go_wp2_with fail
    go_loop [10] (fun i => ∃ k : Nat, k ≤ l.length ∧ i = .int .i64 k ∧ Hid ((l.take k).all isD = true)) (fun i => l.length - (intOf i).toNat)
    case atStart => exact ⟨0, by omega, rfl, Lib.hid (by simp)⟩
    case round =>
      obtain ⟨k, hk, rfl, hall⟩ := hrel
      by_cases hlt : k < l.length
      · obtain ⟨ad, rfl, hc⟩ := R.out.at_ hlt
        cases hd : isD l[k]
        · have F := Lib.hid (fineL_bad hlt hd)
          have D := Lib.hid hd; clear hd
          go_wp2_with fail
          refine (isD_is _ false D.out _).mono ?_; rintro e w' ⟨rfl, rfl⟩
          go_wp2_with fail
          go_ret
          exact ⟨ret_bool (by rw [← Z.out, F.out]), rfl⟩
        · have hall2 := Lib.hid (all_snoc hlt hall.out hd)
          have D := Lib.hid hd; clear hd
          go_wp2_with fail
          refine (isD_is _ true D.out _).mono ?_; rintro e w' ⟨rfl, rfl⟩
          go_wp2_with fail
          go_round
          case rel => exact ⟨k + 1, by omega, by go_num, hall2⟩
          case measure => simp [intOf]; omega
      · obtain rfl : k = l.length := by omega
        have F := Lib.hid (fineL_good (by omega) hall.out)
        go_wp2_with fail
        go_ret
        exact ⟨ret_bool (by rw [← Z.out, F.out]), rfl⟩
set_option maxHeartbeats 400000 in
theorem dom_is (A A' : Option Addr) (c c' n m : Nat) (a b : List Int) (hn : a.length = n) (hm : b.length = m) (w : World) (ht : Ring w) (hr : RI w A c a) (hr' : RI w A' c' b) (z : Bool) (hz : domL a b = z) :
    Calls Tryd.prog 33 #[.slice A n c, .slice A' m c'] w fun e w' => e = .returned (.bool z) ∧ w = w' := by
  subst hn; subst hm
  have h1 := hr.max
  have h2 := hr'.max
  unfold maxLen at h1 h2
  have R := Lib.hid hr; clear hr
  have R' := Lib.hid hr'; clear hr'
  have T := Lib.hid ht; clear ht
  cases hfa : fineL a
  · obtain rfl : z = false := by rw [← hz, domL_no1 hfa]
    have FA := Lib.hid hfa; clear hfa hz
    go_enter Tryd.func33, Tryd.ntmps33
    go_wp2_with fail
    refine (fine_is A c _ a rfl _ R.out false FA.out).mono ?_; rintro e w' ⟨rfl, rfl⟩
    go_wp2_with fail
    go_ret
    exact ⟨rfl, rfl⟩
  · cases hfb : fineL b
    · obtain rfl : z = false := by rw [← hz, domL_no2 hfb]
      have FA := Lib.hid hfa; clear hfa hz
      have FB := Lib.hid hfb; clear hfb
      go_enter Tryd.func33, Tryd.ntmps33
      go_wp2_with fail
      refine (fine_is A c _ a rfl _ R.out true FA.out).mono ?_; rintro e w' ⟨rfl, rfl⟩
      go_wp2_with fail
      refine (fine_is A' c' _ b rfl _ R'.out false FB.out).mono ?_; rintro e w' ⟨rfl, rfl⟩
      go_wp2_with fail
      go_ret
      exact ⟨rfl, rfl⟩
    · by_cases hl : a.length = b.length
      · have hd := domL_of hfa hfb hl
        have hle : a.length ≤ 8 := fineL_len hfa
        rw [hz] at hd
        have d1 : ((a.length : Int) != (b.length : Int)) = false := by simp; omega
        have HL := Lib.hid hl; clear hl
        have FA := Lib.hid hfa; clear hfa hz
        have FB := Lib.hid hfb; clear hfb
        have D := Lib.hid hd; clear hd
        go_enter Tryd.func33, Tryd.ntmps33
        go_wp2_with fail
        refine (fine_is A c _ a rfl _ R.out true FA.out).mono ?_; rintro e w' ⟨rfl, rfl⟩
        go_wp2_with fail
        refine (fine_is A' c' _ b rfl _ R'.out true FB.out).mono ?_; rintro e w' ⟨rfl, rfl⟩
        go_wp2_with fail
        go_loop [24] (fun i => ∃ k : Nat, k ≤ a.length ∧ i = .int .i64 k ∧ Hid (z = domR (a.drop k) (b.drop k))) (fun i => a.length - (intOf i).toNat)
        case atStart => exact ⟨0, by omega, rfl, Lib.hid (by simpa using D.out)⟩
        case round =>
          obtain ⟨k, hk, rfl, hS⟩ := hrel
          by_cases hlt : k < a.length
          · have hlt' : k < b.length := by have := HL.out; omega
            have hstep := domR_drop hlt hlt'
            rw [← hS.out] at hstep
            obtain ⟨ad, rfl, hc⟩ := R.out.at_ hlt
            obtain ⟨ad', rfl, hc'⟩ := R'.out.at_ hlt'
            by_cases he : a[k] = b[k]
            · rw [if_pos he] at hstep
              have S2 := Lib.hid hstep; clear hstep
              have hne : ((a[k] : Int) != b[k]) = false := by simp [he]
              clear he
              go_wp2_with fail
              go_round
              case rel => exact ⟨k + 1, by omega, by go_num, S2⟩
              case measure => simp [intOf]; omega
            · rw [if_neg he] at hstep
              have S2 := Lib.hid hstep; clear hstep
              have hne : ((a[k] : Int) != b[k]) = true := by simp [he]
              clear he
              go_wp2_with fail
              refine (beats_is _ _ z S2.out.symm _ T.out).mono ?_; rintro e w' ⟨rfl, rfl⟩
              go_wp2_with fail
              go_ret
              exact ⟨rfl, rfl⟩
          · obtain rfl : k = a.length := by omega
            have F := Lib.hid (hS.out.trans (domR_end _ _))
            go_wp2_with fail
            go_ret
            exact ⟨ret_bool F.out.symm, rfl⟩
      · obtain rfl : z = false := by rw [← hz, domL_no3 hl]
        have d1 : ((a.length : Int) != (b.length : Int)) = true := by simp; omega
        have FA := Lib.hid hfa; clear hfa hz hl
        have FB := Lib.hid hfb; clear hfb
        go_enter Tryd.func33, Tryd.ntmps33
        go_wp2_with fail
        refine (fine_is A c _ a rfl _ R.out true FA.out).mono ?_; rintro e w' ⟨rfl, rfl⟩
        go_wp2_with fail
        refine (fine_is A' c' _ b rfl _ R'.out true FB.out).mono ?_; rintro e w' ⟨rfl, rfl⟩
        go_wp2_with fail
        go_ret
        exact ⟨rfl, rfl⟩
end Go.Proofs.YtdkliknnnolngaaDoor
