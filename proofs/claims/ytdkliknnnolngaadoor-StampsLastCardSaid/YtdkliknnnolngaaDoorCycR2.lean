/- Contracts of the reference of cycle, two: Dominates (which calls itself). Own work. -/
import Derived.Test.YtdkliknnnolngaaDoorCycR
namespace Go.Proofs.YtdkliknnnolngaaDoor
open Go.ChangeShapes Go.WideShapes Go.ChangeAt Go.RowKit Cyc

theorem quiet_add {P : Program} {f : FuncId} {args : Array Value} {w : World} {a n : Nat} {v : Value}
    (h : Calls P f args (w.drewN (a + n)) fun e w' => e = .returned v ∧ ∃ m, w' = (w.drewN (a + n)).drewN m) :
    Calls P f args (w.drewN (a + n)) fun e w'' => e = .returned v ∧ ∃ m, w'' = w.drewN (a + m) :=
  h.mono fun _ _ ⟨he, m, hm⟩ => ⟨he, n + m, by rw [hm, World.drewN_drewN, Nat.add_assoc]⟩
theorem quiet_add_left {P : Program} {f : FuncId} {args : Array Value} {w : World} {a n : Nat} {v : Value}
    (h : Calls P f args (w.drewN (a + n)) fun e w' => e = .returned v ∧ w.drewN (a + n) = w') :
    Calls P f args (w.drewN (a + n)) fun e w'' => e = .returned v ∧ ∃ m, w'' = w.drewN (a + m) :=
  h.mono fun _ _ ⟨he, hm⟩ => ⟨he, n, hm.symm⟩
theorem cut1 {w : World} {A : Option Addr} {c n : Nat} {l : List Int} (h : RI w A c l) (hn : l.length = n) (h1 : 1 ≤ n) :
    ∃ A', (∀ w : World, (Instr.slice 31 (.slice A n c) (some (.int .i64 1)) none none).run Tryd.prog w = .ok (.slice A' (n - 1) (c - 1)) w) ∧ RI w A' (c - 1) (l.drop 1) := by
  subst hn
  refine ⟨if c = 1 then A else A.map (·.add (1 * 1)), fun w => ?_, h.cut h1⟩
  obtain ⟨i0, hi, hz0, hz1, hz2⟩ := info_parts infoInt
  have hu : Tryd.prog.underlying 31 = some (.slice (Tryd.prog.elem 31)) := by kernel_rfl
  have he : Tryd.prog.elem 31 = 3 := by kernel_rfl
  rw [run_slice_l w _ A l.length c hu .i64 1 (by decide) (by omega), he]
  simp [sizeOf, typeInfo, hi, hz1, sliced, Result.andThen]
theorem domL_cons {x y : Int} {a b : List Int} (ha : fineL (x :: a) = true) (hb : fineL (y :: b) = true) (h : a.length = b.length) : domL (x :: a) (y :: b) = if x = y then domL a b else beatsD x y := by
  rw [domL_of ha hb (by simp [h]), domL_of (fineL_tail ha) (fineL_tail hb) h]; rfl
set_option maxHeartbeats 800000 in
theorem domR_is : ∀ (a : List Int) (A A' : Option Addr) (c c' n m : Nat) (b : List Int) (_ : a.length = n) (_ : b.length = m) (w : World) (_ : RI w A c a) (_ : RI w A' c' b) (z : Bool) (_ : domL a b = z),
    Calls Tryd.prog 19 #[.slice A n c, .slice A' m c'] w fun e w' => e = .returned (.bool z) ∧ ∃ k, w' = w.drewN k := by
  intro a
  induction a with
  | nil =>
    intro A A' c c' n m b hn hm w hr hr' z hz
    subst hn; subst hm
    obtain rfl : z = false := by rw [← hz]; unfold domL; simp [domR]
    have h2 := hr'.max
    unfold maxLen at h2
    have R := Lib.hid hr; clear hr
    have R' := Lib.hid hr'; clear hr' hz
    cases hfb : fineL b
    all_goals
      have FB := Lib.hid hfb; clear hfb
      go_enter Tryd.func19, Tryd.ntmps19
      go_wp2_with fail
      refine (fineR_is A c _ [] rfl _ R.out true rfl).mono ?_; rintro e w' ⟨rfl, rfl⟩
      go_wp2_with fail
      refine (fineR_is A' c' _ b rfl _ R'.out _ FB.out).mono ?_; rintro e w' ⟨rfl, rfl⟩
      go_wp2_with fail
      all_goals go_ret
      all_goals exact ⟨rfl, 0, rfl⟩
  | cons x a ih =>
    intro A A' c c' n m b hn hm w hr hr' z hz
    have hx : n = a.length + 1 := by rw [← hn]; rfl
    have h1 := hr.max
    have h2 := hr'.max
    rw [hn] at h1
    rw [hm] at h2
    unfold maxLen at h1 h2
    have R := Lib.hid hr; clear hr
    have R' := Lib.hid hr'; clear hr'
    have HN := Lib.hid hn; clear hn
    have HM := Lib.hid hm; clear hm
    cases hfa : fineL (x :: a)
    · obtain rfl : z = false := by rw [← hz, domL_no1 hfa]
      have FA := Lib.hid hfa; clear hfa hz hx
      go_enter Tryd.func19, Tryd.ntmps19
      go_wp2_with fail
      refine (fineR_is A c _ _ HN.out _ R.out false FA.out).mono ?_; rintro e w' ⟨rfl, rfl⟩
      go_wp2_with fail
      go_ret
      exact ⟨rfl, 0, rfl⟩
    · cases hfb : fineL b
      · obtain rfl : z = false := by rw [← hz, domL_no2 hfb]
        have FA := Lib.hid hfa; clear hfa hz hx
        have FB := Lib.hid hfb; clear hfb
        go_enter Tryd.func19, Tryd.ntmps19
        go_wp2_with fail
        refine (fineR_is A c _ _ HN.out _ R.out true FA.out).mono ?_; rintro e w' ⟨rfl, rfl⟩
        go_wp2_with fail
        refine (fineR_is A' c' _ b HM.out _ R'.out false FB.out).mono ?_; rintro e w' ⟨rfl, rfl⟩
        go_wp2_with fail
        go_ret
        exact ⟨rfl, 0, rfl⟩
      · by_cases hl : n = m
        · obtain ⟨y, b', rfl⟩ : ∃ y b', b = y :: b' := by
            cases b with
            | nil => have := HM.out; simp at this; omega
            | cons y b' => exact ⟨y, b', rfl⟩
          have hm : m = b'.length + 1 := by rw [← HM.out]; rfl
          have hlen : a.length = b'.length := by omega
          have hd := domL_cons hfa hfb hlen
          rw [hz] at hd
          obtain ⟨ad, rfl, hc⟩ := R.out.at_ (k := 0) (by simp)
          obtain ⟨ad', rfl, hc'⟩ := R'.out.at_ (k := 0) (by simp)
          have e1 : ad.add 0 = ad := rfl
          have e2 : ad'.add 0 = ad' := rfl
          rw [e1] at hc
          rw [e2] at hc'
          simp only [List.getElem_cons_zero] at hc hc'
          have d1 : ((n : Int) != (m : Int)) = false := by simp; omega
          have d2 : ((n : Int) == 0) = false := by simp; omega
          have d3 : 1 ≤ n := by omega
          have d4 : 0 < n := by omega
          have d5 : 1 ≤ m := by omega
          have d5' : 0 < m := by omega
          obtain ⟨A1, hs1, hr1⟩ := cut1 R.out HN.out d3
          obtain ⟨A2, hs2, hr2⟩ := cut1 R'.out HM.out d5
          have R1 := Lib.hid hr1; clear hr1
          have R2 := Lib.hid hr2; clear hr2
          have D6 : Hid (a.length = n - 1) := Lib.hid (by omega)
          have D7 : Hid (b'.length = m - 1) := Lib.hid (by omega)
          have IH := Lib.hid ih; clear ih
          clear hl hx hz hlen e1 e2 hm
          have FA := Lib.hid hfa; clear hfa
          have FB := Lib.hid hfb; clear hfb
          by_cases he : x = y
          · rw [if_pos he] at hd
            have D := Lib.hid hd; clear hd
            have HI := Lib.hid (fun k => IH.out A1 A2 (c - 1) (c' - 1) (n - 1) (m - 1) b' D6.out D7.out (w.drewN k) (R1.out.drewN k) (R2.out.drewN k) z D.out.symm)
            have hq : ((x : Int) == y) = true := by simp [he]
            clear he
            go_enter Tryd.func19, Tryd.ntmps19
            go_wp2_with fail
            refine (fineR_is _ c _ _ HN.out _ R.out true FA.out).mono ?_; rintro e w' ⟨rfl, rfl⟩
            go_wp2_with fail
            refine (fineR_is _ c' _ _ HM.out _ R'.out true FB.out).mono ?_; rintro e w' ⟨rfl, rfl⟩
            go_wp2_with fail
            go_quiet (fail)
            go_wp2_with fail
            go_quiet ((go_at_call 19; exact quiet_add (HI.out _)))
            go_wp2_with fail
            go_ret
            exact ⟨rfl, _, World.drewN_drewN _ _ _⟩
          · rw [if_neg he] at hd
            have D := Lib.hid hd; clear hd
            have hq : ((x : Int) == y) = false := by simp [he]
            clear he
            go_enter Tryd.func19, Tryd.ntmps19
            go_wp2_with fail
            refine (fineR_is _ c _ _ HN.out _ R.out true FA.out).mono ?_; rintro e w' ⟨rfl, rfl⟩
            go_wp2_with fail
            refine (fineR_is _ c' _ _ HM.out _ R'.out true FB.out).mono ?_; rintro e w' ⟨rfl, rfl⟩
            go_wp2_with fail
            go_quiet (fail)
            go_wp2_with fail
            go_quiet ((go_at_call 34; exact quiet_add_left (beatsR_is _ _ z D.out.symm _)))
            go_wp2_with fail
            go_ret
            exact ⟨rfl, _, World.drewN_drewN _ _ _⟩
        · obtain rfl : z = false := by rw [← hz, domL_no3 (by have := HN.out; have := HM.out; omega)]
          have d1 : ((n : Int) != (m : Int)) = true := by simp; omega
          have FA := Lib.hid hfa; clear hfa hz hl hx
          have FB := Lib.hid hfb; clear hfb
          go_enter Tryd.func19, Tryd.ntmps19
          go_wp2_with fail
          refine (fineR_is _ c _ _ HN.out _ R.out true FA.out).mono ?_; rintro e w' ⟨rfl, rfl⟩
          go_wp2_with fail
          refine (fineR_is _ c' _ _ HM.out _ R'.out true FB.out).mono ?_; rintro e w' ⟨rfl, rfl⟩
          go_wp2_with fail
          go_ret
          exact ⟨rfl, 0, rfl⟩
end Go.Proofs.YtdkliknnnolngaaDoor
