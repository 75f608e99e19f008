/- The bank's Begin, End, Value. Own work. -/
import Derived.Test.YtdfkmkflcnfchaaBBegB
import Derived.Test.YtdfkmkflcnfchaaBBegC
namespace Go.Proofs.Ytdfkmkflcnfchaa
open Go.ChangeShapes Go.WideShapes Go.ChangeAt Go.RowKit CellM

theorem beginB_is (w : World) (bb : Nat) (X : Bk) (q m : Nat) (F : Nat → Prop) (t k cl v : Int) (H : BAt w bb X q F) (hG : GoodB X m) (hm : m ≤ 90000) (hq : q < 1000000) :
    Calls Try.prog 9 #[.pointer (some ⟨bb, 0, none⟩), .int .i64 t, .agg #[.int .i64 k, .int .i64 cl, .int .i64 v]] w fun e w' => e = .returned (.int .i64 (errBB X t k cl)) ∧ BNow w w' bb (begBB X t k cl v) (q + 1) F := by
  by_cases hin : inB X cl = true
  · cases hbu : busyB X t with
    | some n => exact beginB_busy w bb X q m F t k cl v H hG hin hbu
    | none =>
      by_cases hus : cl ∈ X.no
      · by_cases hee : errB (X.c cl) t k = 0
        · obtain ⟨htt, _, _⟩ := errB_zero hee
          obtain ⟨g0, g8⟩ := isT_iff htt
          obtain ⟨j, rfl⟩ := Int.eq_ofNat_of_zero_le g0
          exact beginB_used_ok w bb X q m F j k cl v H hG hm hq hin (by omega) hbu hus hee
        · exact beginB_used_err w bb X q m F t k cl v H hG hm hin hbu hus hee
      · by_cases hee : errB (X.c cl) t k = 0
        · obtain ⟨htt, _, _⟩ := errB_zero hee
          obtain ⟨g0, g8⟩ := isT_iff htt
          obtain ⟨j, rfl⟩ := Int.eq_ofNat_of_zero_le g0
          exact beginB_new_ok w bb X q m F j k cl v H hG hm hq hin (by omega) hbu hus hee
        · exact beginB_new_err w bb X q m F t k cl v H hG hm hin hbu hus hee
  · exact beginB_out w bb X q m F t k cl v H hG (by simpa using hin)
theorem valueNil (w : World) : Calls Try.prog 30 #[.pointer none] w fun e w' => e = .returned (.int .i64 0) ∧ w = w' := by
  go_enter Try.func30, Try.ntmps30
  go_wp2_with fail
  go_ret
  exact ⟨rfl, rfl⟩
theorem valueB_is (w : World) (bb : Nat) (X : Bk) (q m : Nat) (F : Nat → Prop) (n : Int) (H : BAt w bb X q F) (hG : GoodB X m) (hn : (Lit.int .i64 n).wf = true) :
    Calls Try.prog 13 #[.pointer (some ⟨bb, 0, none⟩), .int .i64 n] w fun e w' => e = .returned (.int .i64 (X.c n).value) ∧ w = w' := by
  obtain ⟨SA, EA, sh, sc, eh, ec, mb, D, pb, Fc, H⟩ := H
  have c2 := H.fix.m.1
  by_cases hus : n ∈ X.no
  · have hlk := look_in H.mo H.mp hn hus
    have HP := Lib.hid (H.c n hus)
    clear H hG hn hus
    go_enter Try.func13, Try.ntmps13
    go_wp2_with fail
    refine (value_is _ _ _ _ HP.out).mono ?_; rintro e w' ⟨rfl, rfl⟩
    go_wp2_with fail
    go_ret
    exact ⟨rfl, rfl⟩
  · have hlk := look_out H.mo H.mp hn hus
    have HV := Lib.hid (hG.value hus)
    clear H hG hn hus
    go_enter Try.func13, Try.ntmps13
    go_wp2_with fail
    refine (valueNil _).mono ?_; rintro e w' ⟨rfl, rfl⟩
    go_wp2_with fail
    go_ret
    exact ⟨ret_int HV.out.symm, rfl⟩
theorem setD_none (w : World) (bb t : Nat) : setD w bb t none = (w.setCell ⟨bb, 3 + t * 2, none⟩ (.int .i64 0)).setCell ⟨bb, 3 + t * 2 + 1, none⟩ (.bool false) := rfl
set_option maxRecDepth 20000 in
set_option maxHeartbeats 2000000 in
theorem endB_is (w : World) (bb : Nat) (X : Bk) (q m : Nat) (F : Nat → Prop) (t draw : Int) (H : BAt w bb X q F) (hG : GoodB X m) (hm : m ≤ 90000) :
    Calls Try.prog 7 #[.pointer (some ⟨bb, 0, none⟩), .int .i64 t, .int .i64 draw] w fun e w' => e = .returned (.tuple #[.int .i64 (finVB X t draw), .int .i64 (errEB X t)]) ∧ BNow w w' bb (finBB X t) q F := by
  obtain ⟨SA, EA, sh, sc, eh, ec, mb, D, pb, Fc, H⟩ := H
  cases hbu : busyB X t with
  | none =>
    have HE : Hid (errEB X t = 7 ∧ finVB X t draw = 0 ∧ finBB X t = X) := Lib.hid ⟨by unfold errEB; rw [hbu], by unfold finVB; rw [hbu], finBB_none hbu⟩
    have HBU := Lib.hid hbu
    have H' := Lib.hid H
    clear H hG hbu
    go_enter Try.func7, Try.ntmps7
    go_wp2_with fail
    refine (busyP_is H'.out.d t _ HBU.out).mono ?_; rintro e w2 ⟨rfl, q1, hq1⟩
    have hB2 : Below w.heap.size w w2 := by rw [hq1]; exact below_drewN (Below.refl _ _) _
    clear hq1
    unfold busyV
    go_wp2_with fail
    go_ret2
    exact ⟨ret_2 HE.out.2.1.symm HE.out.1.symm, by rw [HE.out.2.2]; exact BNow.of H'.out.at_ hB2⟩
  | some n =>
    have he := hG.errE hbu
    obtain ⟨ht, hd⟩ := busyB_some hbu
    obtain ⟨g0, g8⟩ := isT_iff ht
    obtain ⟨j, rfl⟩ := Int.eq_ofNat_of_zero_le g0
    have htn : ((j : Int)).toNat = j := by omega
    rw [htn] at hd
    have hj : j < 8 := by omega
    have hus := hG.used j n hj hd
    have hin : inB X n = true := hG.in_ n hus
    have hcl : 0 ≤ n ∧ n < sumS X.L := by simpa [inB] using hin
    have hsum := (errS_ok hG.ok).2
    have hwf : (Lit.int .i64 n).wf = true := WalkArith.wf_i64 (by omega)
    have HE : Hid (errEB X j = 0 ∧ finVB X j draw = finV (X.c n) j draw ∧ finBB X j = ⟨X.L, X.no, updZ X.c n (fin (X.c n) j), upd X.d j none⟩) := Lib.hid ⟨by unfold errEB; rw [hbu], by unfold finVB; rw [hbu], by rw [finBB_some hbu, htn]⟩
    have HBU := Lib.hid hbu
    have H' := Lib.hid H
    have HG := Lib.hid (And.intro hG (And.intro he (And.intro hus hwf)))
    clear H hG hbu he hin hd ht htn hus hwf
    go_enter Try.func7, Try.ntmps7
    go_wp2_with fail
    refine (busyP_is H'.out.d (j : Int) _ HBU.out).mono ?_; rintro e w2 ⟨rfl, q1, hq1⟩
    have hB2 : Below w.heap.size w w2 := by rw [hq1]; exact below_drewN (Below.refl _ _) _
    clear hq1
    have h2 := H'.out.below hB2
    obtain ⟨hd1, hd2⟩ := h2.d j hj
    have d1 := hd1.1
    have f1 := hd1.2
    have d2 := hd2.1
    have f2 := hd2.2
    have h3 := h2.setD hj none
    have hst3 : Step F w2 (setD w2 bb j none) := setD_step h2.bF
    have hlk := look_in h3.mo h3.mp HG.out.2.2.2 HG.out.2.2.1
    have c2 := h3.fix.m.1
    have HC := Lib.hid (end_is _ _ _ _ m (j : Int) draw (h3.c n HG.out.2.2.1) (HG.out.1.good n) hm)
    rw [setD_none] at hlk c2 HC
    rw [HG.out.2.1] at HC
    have H3 := Lib.hid (And.intro h3 hst3)
    have HB2 := Lib.hid hB2
    clear hd1 hd2 h2 h3 hst3 hB2
    unfold busyV
    go_wp2_with fail
    refine HC.out.mono ?_; rintro e w4 ⟨rfl, hN⟩
    have HN := Lib.hid hN; clear hN
    go_wp2_with fail
    go_ret2
    refine ⟨ret_2 HE.out.2.1.symm HE.out.1.symm, ?_⟩
    rw [HE.out.2.2]
    have hN2 : Now (setD w2 bb j none) w4 (pb n) (fin (X.c n) j) (Fc n) := HN.out
    have h4 := H3.out.1.cell HG.out.2.2.1 hN2
    have hsz := HB2.out.size
    have hsz3 := H3.out.2.kept.size
    exact ⟨h4.at_.mono (fun b hb => hb.elim .inl (fun h => .inr (by omega))), ((Step.of_below HB2.out).trans H3.out.2 |>.trans' hN2.step (fun b hb => .inl (H'.out.cF n HG.out.2.2.1 b hb)))⟩
end Go.Proofs.Ytdfkmkflcnfchaa
