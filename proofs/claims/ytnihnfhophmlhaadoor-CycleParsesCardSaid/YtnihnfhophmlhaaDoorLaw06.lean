/- The laws of layer 6: their walks. Own work. -/
import Derived.Test.YtnihnfhophmlhaaDoorCycR2
namespace Go.Proofs.YtnihnfhophmlhaaDoor
open Go.ChangeShapes Go.WideShapes Go.ChangeAt Go.RowKit Cyc

theorem parse_no (w : World) : Calls Tryd.prog 19 #[.string ⟨#[51]⟩] w fun e w' => ∃ A c, e = .returned (.tuple #[.slice A 0 c, .int .i64 3]) ∧ Below w.heap.size w w' :=
  (parse_is [51] w (by decide)).mono fun _ _ ⟨A, c, h, _, hb⟩ => ⟨A, c, h, hb⟩
theorem parse_yes (w : World) : Calls Tryd.prog 19 #[.string ⟨#[50, 48, 49]⟩] w fun e w' => ∃ A c, e = .returned (.tuple #[.slice A 3 c, .int .i64 0]) ∧ RI w' A c [2, 0, 1] ∧ Below w.heap.size w w' :=
  (parse_is [50, 48, 49] w (by decide)).mono fun _ _ ⟨A, c, h, hr, hb⟩ => ⟨A, c, h, hr, hb⟩
set_option maxHeartbeats 2000000 in
theorem alive_is (w : World) (ht : Ring w) : Calls Tryd.prog 6 #[] w fun e w' => e = .returned (.bool true) ∧ Below w.heap.size w w' := by
  have T0 := Lib.hid ht; clear ht
  go_enter Tryd.func6, Tryd.ntmps6
  go_wp2_with fail
  have R1 := Lib.hid (ri_lit w [0, 1] 2 rfl (by decide) #[.int .i64 0, .int .i64 1] rfl)
  have B1 := Lib.hid (below_alloc w (.cells #[.int .i64 0, .int .i64 1] 3))
  refine (parse_yes _).mono ?_; rintro e w2 ⟨A2, c2, rfl, hr, hb⟩
  have B2 := Lib.hid (B1.out.trans (hb.mono B1.out.size))
  have R1b := Lib.hid (R1.out.below hb)
  have R2 := Lib.hid hr; clear hr hb R1 B1
  go_wp2_with fail
  refine (parse_no _).mono ?_; rintro e w3 ⟨A3, c3, rfl, hb⟩
  have B3 := Lib.hid (B2.out.trans (hb.mono B2.out.size))
  have R1c := Lib.hid (R1b.out.below hb)
  have R2b := Lib.hid (R2.out.below hb); clear hb R1b R2 B2
  go_wp2_with fail
  have lit22 : ∀ w : World, RI (w.alloc (.cells #[.int .i64 2, .int .i64 2] 3)) (some ⟨w.heap.size, 0, none⟩) 2 [2, 2] := fun w => ri_lit w [2, 2] 2 rfl (by decide) _ rfl
  have lit00 : ∀ w : World, RI (w.alloc (.cells #[.int .i64 0, .int .i64 0] 3)) (some ⟨w.heap.size, 0, none⟩) 2 [0, 0] := fun w => ri_lit w [0, 0] 2 rfl (by decide) _ rfl
  have L22 := Lib.hid lit22
  have L00 := Lib.hid lit00
  clear lit22 lit00
  obtain ⟨w4, hw4⟩ : ∃ w4, w3.alloc (.cells #[.int .i64 2, .int .i64 2] 3) = w4 := ⟨_, rfl⟩
  have R4 := L22.out w3
  have b4 := below_alloc w3 (.cells #[.int .i64 2, .int .i64 2] 3)
  rw [hw4] at R4 b4 ⊢
  have B4 := Lib.hid (B3.out.trans (b4.mono B3.out.size))
  have R1d := Lib.hid (R1c.out.below b4)
  have R2c := Lib.hid (R2b.out.below b4)
  have R4' := Lib.hid R4; clear R4 b4 hw4 R1c R2b
  have T4 := Lib.hid (T0.out.below B4.out)
  refine (dom_is _ _ _ _ _ _ [0, 1] [2, 2] rfl rfl _ T4.out R1d.out R4'.out true rfl).mono ?_; rintro e w' ⟨rfl, rfl⟩
  go_wp2_with fail
  obtain ⟨w5, hw5⟩ : ∃ w5, w4.alloc (.cells #[.int .i64 0, .int .i64 0] 3) = w5 := ⟨_, rfl⟩
  have R5 := L00.out w4
  have b5 := below_alloc w4 (.cells #[.int .i64 0, .int .i64 0] 3)
  rw [hw5] at R5 b5 ⊢
  have B5 := Lib.hid (B4.out.trans (b5.mono B4.out.size))
  have R1e := Lib.hid (R1d.out.below b5)
  have R2d := Lib.hid (R2c.out.below b5)
  have R5' := Lib.hid R5; clear R5 b5 hw5 R1d R2c
  have T5 := Lib.hid (T0.out.below B5.out)
  refine (dom_is _ _ _ _ _ _ [0, 1] [0, 0] rfl rfl _ T5.out R1e.out R5'.out true rfl).mono ?_; rintro e w' ⟨rfl, rfl⟩
  go_wp2_with fail
  obtain ⟨w6, hw6⟩ : ∃ w6, w5.alloc (.cells #[.int .i64 2, .int .i64 2] 3) = w6 := ⟨_, rfl⟩
  have R6 := L22.out w5
  have b6 := below_alloc w5 (.cells #[.int .i64 2, .int .i64 2] 3)
  rw [hw6] at R6 b6 ⊢
  have B6 := Lib.hid (B5.out.trans (b6.mono B5.out.size))
  have R1f := Lib.hid (R1e.out.below b6)
  have R2e := Lib.hid (R2d.out.below b6)
  have R6' := Lib.hid R6; clear R6 b6 hw6 R1e R2d
  have T6 := Lib.hid (T0.out.below B6.out)
  refine (dom_is _ _ _ _ _ _ [2, 2] [0, 1] rfl rfl _ T6.out R6'.out R1f.out false rfl).mono ?_; rintro e w' ⟨rfl, rfl⟩
  go_wp2_with fail
  refine (next_is 2 0 rfl _ T6.out).mono ?_; rintro e w' ⟨rfl, rfl⟩
  go_wp2_with fail
  refine (beats_is 1 0 true rfl _ T6.out).mono ?_; rintro e w' ⟨rfl, rfl⟩
  go_wp2_with fail
  refine (text_is _ _ _ [2, 0, 1] rfl _ R2e.out [50, 48, 49] rfl).mono ?_; rintro e w7 ⟨rfl, hb⟩
  have B7 := Lib.hid (B6.out.trans (hb.mono B6.out.size)); clear hb
  go_wp2_with fail
  refine (zeros_is 3 3 rfl _).mono ?_; rintro e w8 ⟨rfl, rfl⟩
  go_wp2_with fail
  refine (text_is none 0 0 [] rfl _ (RI.nil _) [45] rfl).mono ?_; rintro e w9 ⟨rfl, hb⟩
  have B8 := (B7.out.trans ((below_alloc w7 (.cells (zeroCells 3) 3)).mono B7.out.size))
  have B9 := Lib.hid (B8.trans (hb.mono B8.size)); clear hb B8
  go_wp2_with fail
  go_ret
  exact ⟨rfl, B9.out⟩
theorem same_int (a : Int) : (a == a) = true := by simp
theorem same_bool (a : Bool) : (a == a) = true := by simp
set_option maxHeartbeats 2000000 in
theorem tells_walk (A A' : Option Addr) (c c' p q : Nat) (a b : List Int) (ha : a.length = p) (hb : b.length = q) (n m : Int) (w : World) (ht : Ring w) (hr : RI w A c a) (hr' : RI w A' c' b) :
    Calls Tryd.prog 3 #[.slice A p c, .slice A' q c', .int .i64 n, .int .i64 m] w fun e w' => e = .returned (.bool true) ∧ Below w.heap.size w w' := by
  have h1 := hr.max
  have h2 := hr'.max
  rw [ha] at h1
  rw [hb] at h2
  unfold maxLen at h1 h2
  have HA := Lib.hid ha; clear ha
  have HB := Lib.hid hb; clear hb
  have R := Lib.hid hr; clear hr
  have R' := Lib.hid hr'; clear hr'
  have T0 := Lib.hid ht; clear ht
  by_cases hp : 40 < p
  · have hp' : (40 : Int) < p := by omega
    go_enter Tryd.func3, Tryd.ntmps3
    go_wp2_with fail
    refine (alive_is _ T0.out).mono ?_; rintro e w1 ⟨rfl, hb⟩
    go_wp2_with fail
    go_ret
    exact ⟨rfl, hb⟩
  · by_cases hq : 40 < q
    · have hp' : (p : Int) ≤ 40 := by omega
      have hq' : (40 : Int) < q := by omega
      go_enter Tryd.func3, Tryd.ntmps3
      go_wp2_with fail
      refine (alive_is _ T0.out).mono ?_; rintro e w1 ⟨rfl, hb⟩
      go_wp2_with fail
      go_ret
      exact ⟨rfl, hb⟩
    · have hp' : (p : Int) ≤ 40 := by omega
      have hq' : (q : Int) ≤ 40 := by omega
      obtain ⟨k, hk⟩ : ∃ k : Nat, min (max n 0) 8 = (k : Int) := ⟨(min (max n 0) 8).toNat, by omega⟩
      have hk8 : k ≤ 8 := by omega
      have HK := Lib.hid hk; clear hk
      have hkk : ((k : Int) != (k : Int)) = false := by simp
      clear hp hq
      obtain ⟨fa, hfa⟩ : ∃ f, fineL a = f := ⟨_, rfl⟩
      obtain ⟨d, hd⟩ : ∃ f, domL a b = f := ⟨_, rfl⟩
      obtain ⟨T, hT⟩ : ∃ T, textL a = T := ⟨_, rfl⟩
      obtain ⟨z, hz⟩ : ∃ z, nextD n = z := ⟨_, rfl⟩
      obtain ⟨x, hx⟩ : ∃ z, beatsD n m = z := ⟨_, rfl⟩
      have FA := Lib.hid hfa; clear hfa
      have D := Lib.hid hd; clear hd
      have HT := Lib.hid hT; clear hT
      have HZ := Lib.hid hz; clear hz
      have HX := Lib.hid hx; clear hx
      have s1 := same_int z
      have s2 := same_bool x
      have s3 := same_bool fa
      have s4 := same_bool d
      obtain ⟨w1, hw1⟩ : ∃ w1, w.alloc (.cells (zeroCells k) 3) = w1 := ⟨_, rfl⟩
      have b1 := below_alloc w (.cells (zeroCells k) 3)
      have rz := zeros_ri w k hk8
      have hz0 := zeros_is n k HK.out w
      rw [hw1] at b1 rz hz0
      have B1 := Lib.hid b1
      have T1 := Lib.hid (T0.out.below B1.out)
      have R1 := Lib.hid (R.out.below B1.out)
      have R1' := Lib.hid (R'.out.below B1.out)
      have RZ := Lib.hid rz
      have Z0 := Lib.hid hz0
      clear hz0 rz b1 hw1
      rcases Nat.eq_zero_or_pos k with h0 | h0
      · subst h0
        go_enter Tryd.func3, Tryd.ntmps3
        go_wp2_with fail
        refine Z0.out.mono ?_; rintro e w' ⟨rfl, rfl⟩
        go_wp2_with fail
        refine (clampR_is n _ HK.out _).mono ?_; rintro e w' ⟨rfl, rfl⟩
        go_wp2_with fail
        refine (fine_is _ _ _ _ (by simp) _ RZ.out true (fineL_zeros (by omega))).mono ?_; rintro e w' ⟨rfl, rfl⟩
        go_wp2_with fail
        refine (next_is n z HZ.out _ T1.out).mono ?_; rintro e w' ⟨rfl, rfl⟩
        go_wp2_with fail
        refine (nextR_is n z HZ.out _).mono ?_; rintro e w' ⟨rfl, rfl⟩
        go_wp2_with fail
        refine (beats_is n m x HX.out _ T1.out).mono ?_; rintro e w' ⟨rfl, rfl⟩
        go_wp2_with fail
        refine (beatsR_is n m x HX.out _).mono ?_; rintro e w' ⟨rfl, rfl⟩
        go_wp2_with fail
        refine (fine_is _ _ _ a HA.out _ R1.out fa FA.out).mono ?_; rintro e w' ⟨rfl, rfl⟩
        go_wp2_with fail
        refine (fineR_is _ _ _ a HA.out _ R1.out fa FA.out).mono ?_; rintro e w' ⟨rfl, rfl⟩
        go_wp2_with fail
        refine (dom_is _ _ _ _ _ _ a b HA.out HB.out _ T1.out R1.out R1'.out d D.out).mono ?_; rintro e w' ⟨rfl, rfl⟩
        go_wp2_with fail
        refine (domR_is a _ _ _ _ _ _ b HA.out HB.out _ R1.out R1'.out d D.out).mono ?_; rintro e w2 ⟨rfl, nd, rfl⟩
        go_wp2_with fail
        refine (text_is _ _ _ a HA.out _ (R1.out.drewN nd) T HT.out).mono ?_; rintro e w3 ⟨rfl, hb⟩
        have B3 := Lib.hid ((below_drewN B1.out nd).trans (hb.mono B1.out.size))
        have R3 := Lib.hid ((R1.out.drewN nd).below hb)
        have T3 := Lib.hid (T0.out.below B3.out)
        clear hb
        go_wp2_with fail
        refine (textR_is _ _ _ a HA.out _ R3.out T HT.out).mono ?_; rintro e w' ⟨rfl, rfl⟩
        go_wp2_with fail
        refine (alive_is _ T3.out).mono ?_; rintro e w4 ⟨rfl, hb⟩
        go_wp2_with fail
        go_ret
        exact ⟨rfl, B3.out.trans (hb.mono B3.out.size)⟩
      · have hc : w1.cell? ⟨w.heap.size, 0, none⟩ = some (.int .i64 0) := by
          obtain ⟨ad, e, hc⟩ := RZ.out.at_ (k := 0) (by simpa using h0)
          cases e
          simpa [Addr.add] using hc
        have h0' : (0 : Int) < k := by omega
        go_enter Tryd.func3, Tryd.ntmps3
        go_wp2_with fail
        refine Z0.out.mono ?_; rintro e w' ⟨rfl, rfl⟩
        go_wp2_with fail
        refine (clampR_is n _ HK.out _).mono ?_; rintro e w' ⟨rfl, rfl⟩
        go_wp2_with fail
        refine (fine_is _ _ _ _ (by simp) _ RZ.out true (fineL_zeros (by omega))).mono ?_; rintro e w' ⟨rfl, rfl⟩
        go_wp2_with fail
        refine (next_is n z HZ.out _ T1.out).mono ?_; rintro e w' ⟨rfl, rfl⟩
        go_wp2_with fail
        refine (nextR_is n z HZ.out _).mono ?_; rintro e w' ⟨rfl, rfl⟩
        go_wp2_with fail
        refine (beats_is n m x HX.out _ T1.out).mono ?_; rintro e w' ⟨rfl, rfl⟩
        go_wp2_with fail
        refine (beatsR_is n m x HX.out _).mono ?_; rintro e w' ⟨rfl, rfl⟩
        go_wp2_with fail
        refine (fine_is _ _ _ a HA.out _ R1.out fa FA.out).mono ?_; rintro e w' ⟨rfl, rfl⟩
        go_wp2_with fail
        refine (fineR_is _ _ _ a HA.out _ R1.out fa FA.out).mono ?_; rintro e w' ⟨rfl, rfl⟩
        go_wp2_with fail
        refine (dom_is _ _ _ _ _ _ a b HA.out HB.out _ T1.out R1.out R1'.out d D.out).mono ?_; rintro e w' ⟨rfl, rfl⟩
        go_wp2_with fail
        refine (domR_is a _ _ _ _ _ _ b HA.out HB.out _ R1.out R1'.out d D.out).mono ?_; rintro e w2 ⟨rfl, nd, rfl⟩
        go_wp2_with fail
        refine (text_is _ _ _ a HA.out _ (R1.out.drewN nd) T HT.out).mono ?_; rintro e w3 ⟨rfl, hb⟩
        have B3 := Lib.hid ((below_drewN B1.out nd).trans (hb.mono B1.out.size))
        have R3 := Lib.hid ((R1.out.drewN nd).below hb)
        have T3 := Lib.hid (T0.out.below B3.out)
        clear hb
        go_wp2_with fail
        refine (textR_is _ _ _ a HA.out _ R3.out T HT.out).mono ?_; rintro e w' ⟨rfl, rfl⟩
        go_wp2_with fail
        refine (alive_is _ T3.out).mono ?_; rintro e w4 ⟨rfl, hb⟩
        go_wp2_with fail
        go_ret
        exact ⟨rfl, B3.out.trans (hb.mono B3.out.size)⟩
end Go.Proofs.YtnihnfhophmlhaaDoor
