/- cell's Begin, End, Value, Busy, New. Own work. -/
import Derived.Test.YtdfkmkflcnfchaaBegR
import Derived.Laws.StructEq
namespace Go.Proofs.Ytdfkmkflcnfchaa
open Go.ChangeShapes Go.WideShapes Go.ChangeAt Go.RowKit CellM

theorem value_is (w : World) (cb : Nat) (S : St) (F : Nat → Prop) (H : PAt w cb S F) : Calls Try.prog 30 #[.pointer (some ⟨cb, 0, none⟩)] w fun e w' => e = .returned (.int .i64 S.value) ∧ w = w' := by
  have cv := H.value.1
  go_enter Try.func30, Try.ntmps30
  go_wp2_with fail
  go_ret
  exact ⟨rfl, rfl⟩
/-- A call's whole effect on the cell. -/
structure Now (w w' : World) (cb : Nat) (S : St) (F : Nat → Prop) : Prop where
  at_ : PAt w' cb S (More w F)
  step : Step F w w'
theorem Now.after {w w1 w' : World} {cb : Nat} {S : St} {F : Nat → Prop} (h1 : Step F w w1) (h2 : PAt w' cb S (More w1 F)) (h3 : Step F w1 w') : Now w w' cb S F :=
  ⟨h2.mono (fun b hb => by
    rcases hb with hb | hb
    · exact .inl hb
    · exact .inr (Nat.le_trans h1.kept.size hb)), h1.trans h3⟩
theorem Now.of {w w' : World} {cb : Nat} {S : St} {F : Nat → Prop} (H : PAt w cb S F) (h : Below w.heap.size w w') : Now w w' cb S F := ⟨(H.below h).mono (fun _ hb => .inl hb), .of_below h⟩
theorem Now.drew {w w' : World} {cb : Nat} {S : St} {F : Nat → Prop} (h : Now w w' cb S F) : Now w w'.drew cb S F := ⟨h.at_.below (Below.refl _ _).drew, h.step.trans (.of_below (Below.refl _ _).drew)⟩
def errB (S : St) (t k : Int) : Int := if isT t = false ∨ (k ≠ 1 ∧ k ≠ 2) then 1 else if (S.d t.toNat).k ≠ 0 then 12 else 0
def beg (S : St) (t k v : Int) : St := if errB S t k ≠ 0 then S else if k = 1 then begR S t.toNat else begW S t.toNat (cap S.top v)
theorem isT_iff {t : Int} (h : isT t = true) : 0 ≤ t ∧ t < 8 := by unfold isT at h; simpa using h
theorem isT_not {t : Int} (h : ¬ isT t = true) : isT t = false := by simpa using h
set_option maxHeartbeats 2000000 in
theorem begin_is (w : World) (cb : Nat) (S : St) (F : Nat → Prop) (n : Nat) (t k cl v : Int) (H : PAt w cb S F) (hG : CellM.Good S n) (hn : n ≤ 90000) :
    Calls Try.prog 26 #[.pointer (some ⟨cb, 0, none⟩), .int .i64 t, .agg #[.int .i64 k, .int .i64 cl, .int .i64 v]] w fun e w' => e = .returned (.int .i64 (errB S t k)) ∧ Now w w' cb (beg S t k v) F := by
  have HH := Lib.hid (And.intro H hG)
  by_cases ht : isT t = true
  · obtain ⟨h0, h8⟩ := isT_iff ht
    obtain ⟨j, rfl⟩ := Int.eq_ofNat_of_zero_le h0
    have hj : j < 8 := by omega
    have ct := (H.k hj).1
    have hcb : cb < w.heap.size := H.kind.lt
    have htn : ((j : Int)).toNat = j := by omega
    by_cases hk : k = 1 ∨ k = 2
    · by_cases hi : (S.d j).k = 0
      · have d0 : ((S.d j).k != 0) = false := by simp [hi]
        have he : errB S j k = 0 := by
          unfold errB
          rw [htn, if_neg (by rw [ht]; simp; omega), if_neg (by simp [hi])]
        rcases hk with rfl | rfl
        · have hb : beg S j 1 v = begR S j := by unfold beg; rw [he, htn]; simp
          have e1 := Lib.hid he; have e2 := Lib.hid hb; clear he hb H hG
          go_enter Try.func26, Try.ntmps26
          go_wp2_with fail
          refine (isThread_any _ _).mono ?_; rintro e w' ⟨rfl, rfl⟩
          go_wp2_with fail
          refine (beginRead_is _ cb S F n j (HH.out.1.alloc _) HH.out.2 hj hi).mono ?_; rintro e w' ⟨rfl, hP, hS⟩
          have HN := Lib.hid (Now.after ((Step.refl F w).alloc _) hP hS)
          clear hP hS
          go_wp2_with fail
          go_ret
          exact ⟨ret_int e1.out.symm, by rw [e2.out]; exact HN.out⟩
        · have hb : beg S j 2 v = begW S j (cap S.top v) := by unfold beg; rw [he, htn]; simp
          have hcap : cap (cap 1099511627776 S.top) v = cap S.top v := by rw [cap_in (t := S.top) hG.top.1 hG.top.2]
          have ctop := H.top.1
          have e1 := Lib.hid he; have e2 := Lib.hid hb; have e3 := Lib.hid hcap; clear he hb H hG hcap
          go_enter Try.func26, Try.ntmps26
          go_wp2_with fail
          refine (isThread_any _ _).mono ?_; rintro e w' ⟨rfl, rfl⟩
          go_wp2_with fail
          go_region_with (first
            | (go_at_call 43; refine (clamp_is _ _ _ e3.out _).mono ?_; rintro e w' ⟨rfl, rfl⟩)
            | (go_at_call 42; refine (beginWrite_is _ cb S F n j _ ((HH.out.1.alloc _).below (Below.refl _ _).drew) HH.out.2 hn hj).mono ?_; rintro e w' ⟨rfl, hP, hS⟩))
          all_goals
            have HN := Lib.hid (Now.after (((Step.refl F w).alloc _).trans (.of_below (Below.refl _ _).drew)) hP hS)
            clear hP hS
            go_wp2_with fail
            go_ret
            exact ⟨ret_int e1.out.symm, by rw [e2.out]; exact HN.out⟩
      · have d0 : ((S.d j).k != 0) = true := by simp [hi]
        have he : errB S j k = 12 := by
          unfold errB
          rw [htn, if_neg (by rw [ht]; simp; omega), if_pos hi]
        have hb : beg S j k v = S := by unfold beg; rw [he]; simp
        have e1 := Lib.hid he; have e2 := Lib.hid hb; clear he hb H hG
        rcases hk with rfl | rfl
        all_goals
          go_enter Try.func26, Try.ntmps26
          go_wp2_with fail
          refine (isThread_any _ _).mono ?_; rintro e w' ⟨rfl, rfl⟩
          go_wp2_with fail
          go_ret
          exact ⟨ret_int e1.out.symm, by rw [e2.out]; exact Now.of HH.out.1 ((Below.refl _ _).alloc (Nat.le_refl _) _)⟩
    · have he : errB S j k = 1 := by unfold errB; rw [if_pos (.inr (by omega))]
      have hb : beg S j k v = S := by unfold beg; rw [he]; simp
      have d1 : (k != 1) = true := by simp; omega
      have d2 : (k != 2) = true := by simp; omega
      have e1 := Lib.hid he; have e2 := Lib.hid hb; clear he hb H hG
      go_enter Try.func26, Try.ntmps26
      go_wp2_with fail
      refine (isThread_any _ _).mono ?_; rintro e w' ⟨rfl, rfl⟩
      go_wp2_with fail
      go_ret
      exact ⟨ret_int e1.out.symm, by rw [e2.out]; exact Now.of HH.out.1 ((Below.refl _ _).alloc (Nat.le_refl _) _)⟩
  · have ht' := isT_not ht
    have he : errB S t k = 1 := by unfold errB; rw [if_pos (.inl ht')]
    have hb : beg S t k v = S := by unfold beg; rw [he]; simp
    have e1 := Lib.hid he; have e2 := Lib.hid hb; clear he hb H hG
    go_enter Try.func26, Try.ntmps26
    go_wp2_with fail
    refine (isThread_any _ _).mono ?_; rintro e w' ⟨rfl, rfl⟩
    go_wp2_with fail
    go_ret
    exact ⟨ret_int e1.out.symm, by rw [e2.out]; exact Now.of HH.out.1 ((Below.refl _ _).alloc (Nat.le_refl _) _)⟩
end Go.Proofs.Ytdfkmkflcnfchaa
