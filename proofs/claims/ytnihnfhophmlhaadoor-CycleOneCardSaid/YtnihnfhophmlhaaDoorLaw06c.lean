/- The laws of layer 6: their walks, three. Own work. -/
import Derived.Test.YtnihnfhophmlhaaDoorLaw06b
namespace Go.Proofs.YtnihnfhophmlhaaDoor
open Go.ChangeShapes Go.WideShapes Go.ChangeAt Go.RowKit Cyc

set_option maxHeartbeats 4000000 in
theorem one_walk (A A' : Option Addr) (c c' p q : Nat) (a b : List Int) (ha : a.length = p) (hb : b.length = q) (w : World) (ht : Ring w) (hr : RI w A c a) (hr' : RI w A' c' b) :
    Calls Tryd.prog 5 #[.slice A p c, .slice A' q c'] w fun e w' => e = .returned (.bool true) ∧ Below w.heap.size w w' := by
  have h1 := hr.max
  have h2 := hr'.max
  rw [ha] at h1
  rw [hb] at h2
  unfold maxLen at h1 h2
  have HA := Lib.hid ha; clear ha
  have HB := Lib.hid hb; clear hb
  have R := Lib.hid hr; clear hr
  have R' := Lib.hid hr'; clear hr'
  have T0 := Lib.hid ht; clear ht
  cases hfa : fineL a
  · have D := Lib.hid (domL_no1 (b := b) hfa)
    have FA := Lib.hid hfa; clear hfa
    go_enter Tryd.func5, Tryd.ntmps5
    go_wp2_with fail
    refine (fine_is _ _ _ a HA.out _ R.out false FA.out).mono ?_; rintro e w' ⟨rfl, rfl⟩
    go_wp2_with fail
    refine (dom_is _ _ _ _ _ _ a b HA.out HB.out _ T0.out R.out R'.out false D.out).mono ?_; rintro e w' ⟨rfl, rfl⟩
    go_wp2_with fail
    refine (alive_is _ T0.out).mono ?_; rintro e w1 ⟨rfl, hb⟩
    go_wp2_with fail
    go_ret
    exact ⟨rfl, hb⟩
  · cases hfb : fineL b
    · have D := Lib.hid (domL_no2 (a := a) hfb)
      have FA := Lib.hid hfa; clear hfa
      have FB := Lib.hid hfb; clear hfb
      go_enter Tryd.func5, Tryd.ntmps5
      go_wp2_with fail
      refine (fine_is _ _ _ a HA.out _ R.out true FA.out).mono ?_; rintro e w' ⟨rfl, rfl⟩
      go_wp2_with fail
      refine (fine_is _ _ _ b HB.out _ R'.out false FB.out).mono ?_; rintro e w' ⟨rfl, rfl⟩
      go_wp2_with fail
      refine (dom_is _ _ _ _ _ _ a b HA.out HB.out _ T0.out R.out R'.out false D.out).mono ?_; rintro e w' ⟨rfl, rfl⟩
      go_wp2_with fail
      refine (alive_is _ T0.out).mono ?_; rintro e w1 ⟨rfl, hb⟩
      go_wp2_with fail
      go_ret
      exact ⟨rfl, hb⟩
    · by_cases hl : p = q
      · have hll : a.length = b.length := by rw [HA.out, HB.out, hl]
        obtain ⟨ho1, ho2⟩ := domL_one hfa hfb hll
        have d1 : ((p : Int) != (q : Int)) = false := by simp; omega
        obtain ⟨x, hx⟩ : ∃ x, domL a b = x := ⟨_, rfl⟩
        obtain ⟨y, hy⟩ : ∃ x, domL b a = x := ⟨_, rfl⟩
        obtain ⟨z, hz⟩ : ∃ x, decide (a = b) = x := ⟨_, rfl⟩
        rw [hx, hy, hz] at ho1
        rw [hx, hy] at ho2
        have FA := Lib.hid hfa; clear hfa
        have FB := Lib.hid hfb; clear hfb
        have HX := Lib.hid hx; clear hx
        have HY := Lib.hid hy; clear hy
        have HZ := Lib.hid hz; clear hz
        have O1 := Lib.hid ho1; clear ho1
        have O2 := Lib.hid ho2; clear ho2
        clear hl hll
        go_enter Tryd.func5, Tryd.ntmps5
        go_wp2_with fail
        refine (fine_is _ _ _ a HA.out _ R.out true FA.out).mono ?_; rintro e w' ⟨rfl, rfl⟩
        go_wp2_with fail
        refine (fine_is _ _ _ b HB.out _ R'.out true FB.out).mono ?_; rintro e w' ⟨rfl, rfl⟩
        go_wp2_with fail
        refine (ints_is _ _ _ _ _ _ a b HA.out HB.out _ R.out R'.out z HZ.out).mono ?_; rintro e w1 ⟨rfl, nd, rfl⟩
        go_wp2_with fail
        refine (dom_is _ _ _ _ _ _ a b HA.out HB.out _ (T0.out.drewN nd) (R.out.drewN nd) (R'.out.drewN nd) x HX.out).mono ?_; rintro e w' ⟨rfl, rfl⟩
        go_wp2_with fail
        refine (dom_is _ _ _ _ _ _ b a HB.out HA.out _ (T0.out.drewN nd) (R'.out.drewN nd) (R.out.drewN nd) y HY.out).mono ?_; rintro e w' ⟨rfl, rfl⟩
        go_wp2_with fail
        go_loopw [8] (fun i wr => ∃ k : Nat, k ≤ 3 ∧ i = .int .i64 k ∧ w.drewN nd = wr) (fun i _ => 3 - (intOf i).toNat)
        case atStart => exact ⟨0, by omega, rfl, rfl⟩
        case round =>
          obtain ⟨k, hk, rfl, rfl⟩ := hrel
          by_cases hlt : k < 3
          · have hlt' : (k : Int) < 3 := by omega
            have b1 := Lib.hid (beats_next (d := k) (by omega) hlt')
            have b2 := Lib.hid (next_three (d := k) (by omega) hlt')
            have hs : ((k : Int) != (k : Int)) = false := by simp
            obtain ⟨k1, hk1⟩ : ∃ x, nextD k = x := ⟨_, rfl⟩
            obtain ⟨k2, hk2⟩ : ∃ x, nextD k1 = x := ⟨_, rfl⟩
            rw [hk1] at b1 b2
            rw [hk2] at b2
            have K1 := Lib.hid hk1; clear hk1
            have K2 := Lib.hid hk2; clear hk2
            go_wp2_with fail
            refine (next_is _ k1 K1.out _ (T0.out.drewN nd)).mono ?_; rintro e w' ⟨rfl, rfl⟩
            go_wp2_with fail
            refine (beats_is _ _ true b1.out _ (T0.out.drewN nd)).mono ?_; rintro e w' ⟨rfl, rfl⟩
            go_wp2_with fail
            refine (next_is _ k1 K1.out _ (T0.out.drewN nd)).mono ?_; rintro e w' ⟨rfl, rfl⟩
            go_wp2_with fail
            refine (next_is _ k2 K2.out _ (T0.out.drewN nd)).mono ?_; rintro e w' ⟨rfl, rfl⟩
            go_wp2_with fail
            refine (next_is _ k b2.out _ (T0.out.drewN nd)).mono ?_; rintro e w' ⟨rfl, rfl⟩
            go_wp2_with fail
            go_roundw
            case rel => exact ⟨k + 1, by omega, by go_num, trivial⟩
            case measure => simp [intOf]; omega
          · obtain rfl : k = 3 := by omega
            clear hlt hk
            have o1 := O1.out
            have o2 := O2.out
            cases x
            all_goals
              cases y
              all_goals
                cases z
                all_goals
                  first
                    | (exfalso; revert o1 o2; decide)
                    | (clear o1 o2
                       go_wp2_with fail
                       refine (alive_is _ (T0.out.drewN nd)).mono ?_; rintro e w1 ⟨rfl, hb⟩
                       go_wp2_with fail
                       go_ret
                       exact ⟨rfl, (below_drewN (Below.refl _ _) nd).trans hb⟩)
      · have D := Lib.hid (domL_no3 (a := a) (b := b) (by rw [HA.out, HB.out]; exact hl))
        have d1 : ((p : Int) != (q : Int)) = true := by simp; omega
        have FA := Lib.hid hfa; clear hfa hl
        have FB := Lib.hid hfb; clear hfb
        go_enter Tryd.func5, Tryd.ntmps5
        go_wp2_with fail
        refine (fine_is _ _ _ a HA.out _ R.out true FA.out).mono ?_; rintro e w' ⟨rfl, rfl⟩
        go_wp2_with fail
        refine (fine_is _ _ _ b HB.out _ R'.out true FB.out).mono ?_; rintro e w' ⟨rfl, rfl⟩
        go_wp2_with fail
        refine (dom_is _ _ _ _ _ _ a b HA.out HB.out _ T0.out R.out R'.out false D.out).mono ?_; rintro e w' ⟨rfl, rfl⟩
        go_wp2_with fail
        refine (alive_is _ T0.out).mono ?_; rintro e w1 ⟨rfl, hb⟩
        go_wp2_with fail
        go_ret
        exact ⟨rfl, hb⟩
end Go.Proofs.YtnihnfhophmlhaaDoor
