/- The bank's Begin at a cell at its beginning. Own work. -/
import Derived.Test.YtdfkmkflcnfchaaBBegA
namespace Go.Proofs.Ytdfkmkflcnfchaa
open Go.ChangeShapes Go.WideShapes Go.ChangeAt Go.RowKit CellM

set_option maxRecDepth 20000 in
set_option maxHeartbeats 2000000 in
theorem beginB_new_ok (w : World) (bb : Nat) (X : Bk) (q m : Nat) (F : Nat → Prop) (j : Nat) (k cl v : Int) (H : BAt w bb X q F) (hG : GoodB X m) (hm : m ≤ 90000) (hq : q < 1000000) (hin : inB X cl = true) (hj : j < 8) (hbu : busyB X (j : Int) = none) (hus : cl ∉ X.no) (hee : errB (X.c cl) (j : Int) k = 0) :
    Calls Try.prog 9 #[.pointer (some ⟨bb, 0, none⟩), .int .i64 (j : Int), .agg #[.int .i64 k, .int .i64 cl, .int .i64 v]] w fun e w' => e = .returned (.int .i64 (errBB X (j : Int) k cl)) ∧ BNow w w' bb (begBB X (j : Int) k cl v) (q + 1) F := by
  obtain ⟨SA, EA, sh, sc, eh, ec, mb, D, pb, Fc, H0⟩ := H.tight
  clear H
  have hbb : bb < w.heap.size := H0.fix.s.lt
  have hmb : mb < w.heap.size := H0.mo.lt
  obtain ⟨W1, hW1⟩ : ∃ W1, W1 = w.alloc (.cells #[.int .i64 k, .int .i64 cl, .int .i64 v] 35) := ⟨_, rfl⟩
  have hB1 : Below w.heap.size w W1 := by rw [hW1]; exact (Below.refl _ _).alloc (Nat.le_refl _) _
  have hs1 : W1.heap.size = w.heap.size + 1 := by rw [hW1, alloc_size]
  have H1 := H0.below hB1
  have hX1 : BX w.heap.size k cl v W1 := by rw [hW1]; exact BX.new _ _ _ _ _
  have HW := Lib.hid hW1
  have HAS := Lib.hid (has_is H1.fix hG.ok cl)
  have H1' := Lib.hid H1
  have HG := Lib.hid hG
  clear H0 H1 hG
  have x1 := hX1.c.1
  have hin2 : (decide (0 ≤ cl) && decide (cl < sumS X.L)) = true := hin
  rw [hin2] at HAS
  have hcl : 0 ≤ cl ∧ cl < sumS X.L := by simpa using hin2
  have hsum := (errS_ok HG.out.ok).2
  have hfr : X.c cl = newC X.L cl := HG.out.fresh cl hus
  have he := Lib.hid hee
  have HE : Hid (errBB X (j : Int) k cl = 0) := Lib.hid (by unfold errBB; rw [hin, hbu]; exact hee)
  have HS : Hid (begBB X (j : Int) k cl v = ⟨X.L, addN X.no cl, updZ X.c cl (beg (X.c cl) (j : Int) k v), upd X.d ((j : Int)).toNat (some cl)⟩) := Lib.hid (begBB_ok HE.out)
  have htn : ((j : Int)).toNat = j := by omega
  rw [htn] at HS
  have HBU := Lib.hid hbu
  rw [hfr] at he HS
  have HFR := Lib.hid hfr
  clear hin hin2 hbu hW1 htn hee hfr
  go_enter Try.func9, Try.ntmps9
  go_wp2_with fail
  rw [← HW.out]
  refine HAS.out.mono ?_; rintro e w2 ⟨rfl, q1, hq1⟩
  have hB2 : Below W1.heap.size W1 w2 := by rw [hq1]; exact below_drewN (Below.refl _ _) _
  clear hq1
  have H2 := Lib.hid (H1'.out.below hB2)
  go_wp2_with fail
  refine (busyP_is H2.out.d (j : Int) _ HBU.out).mono ?_; rintro e w3 ⟨rfl, q2, hq2⟩
  have hB3 : Below w2.heap.size w2 w3 := by rw [hq2]; exact below_drewN (Below.refl _ _) _
  clear hq2
  have H3 := Lib.hid (H2.out.below hB3)
  have hB4 : Below w.heap.size w w3 := hB1.trans ((hB2.trans (hB3.mono hB2.size)).mono (by omega))
  have hX3 := (hX1.below hB2).below hB3
  have hs3 : w.heap.size < w3.heap.size := hX3.k.lt
  have x31 := hX3.c.1
  have HB4 := Lib.hid (And.intro hB4 hX3)
  clear hB2 hB3 hB4 hX3 H2
  unfold busyV
  go_wp2_with fail
  refine (cellNew_is H3.out.fix H3.out.mo H3.out.mp HG.out.ok cl hcl.1 hcl.2 hus).mono ?_; rintro e w4 ⟨p, rfl, hP, hB5⟩
  have hX4 := HB4.out.2.below hB5
  have y0 := hX4.k.1
  have y1 := hX4.c.1
  have y2 := hX4.v.1
  have HP := Lib.hid (And.intro hP hB5)
  have HX4 := Lib.hid hX4
  clear hP hB5 hX4
  go_wp2_with fail
  refine (begin_is _ p (newC X.L cl) _ m (j : Int) k cl v HP.out.1 ((newC_good X.L cl).mono (Nat.zero_le _)) hm).mono ?_; rintro e w5 ⟨rfl, hN⟩
  rw [he.out]
  have hs5 := hN.step.below w3.heap.size (fun b hb => hb) HP.out.2.size
  have hB5 : Below w3.heap.size w3 w5 := HP.out.2.trans hs5
  have H5 := H3.out.below hB5
  have hX5 := HB4.out.2.below hB5
  have hst5 : Step (fun b => F b ∧ b < w.heap.size) w w5 := .of_below (HB4.out.1.trans (hB5.mono (by omega)))
  have hG5 : ∀ b, (More w4 (fun b => w3.heap.size ≤ b) b ∧ b < w5.heap.size) → w3.heap.size ≤ b := fun b hb => hb.1.elim (fun h => h) (fun h => Nat.le_trans HP.out.2.size h)
  have hbb3 : bb < w3.heap.size := H3.out.fix.s.lt
  have hmb3 : mb < w3.heap.size := H3.out.mo.lt
  have R := Lib.hid (Ready.of (w0 := w) (F := fun b => F b ∧ b < w.heap.size) (t := j) (bg := w.heap.size) hj (H5.mono (fun b hb => .inl hb)) hq hcl.1 (by omega) hN.at_.tight' (fun b hb => ⟨by have := hG5 b hb; omega, by have := hG5 b hb; omega, fun h => by have := hG5 b hb; have := H3.out.fix.rs.lt (by decide) h; omega, fun h => by have := hG5 b hb; have := H3.out.fix.re.lt (by decide) h; omega⟩) (fun b hb => .inr (by have := hG5 b hb; omega)) (fun b hb => hb.2) (fun i hi _ b hb hc => by have := hG5 b hb; have := H3.out.ct i hi b hc; omega) hst5 hX5 H1'.out.bF H1'.out.mF (by omega))
  clear hN H5 hX5 hst5 hs5 hB5 hG5
  obtain ⟨⟨w6, hrun, ⟨u1, u2, hu1, hu2⟩, hbx6, hst, hat⟩, hbx5, hm5⟩ := R.out
  have a2 := hm5.1
  have b1 := hbx5.c.1
  have d1 := hu1.1
  have g1 := hu1.2
  have d2 := hu2.1
  have g2 := hu2.2
  have c1 := hbx6.c.1
  have FIN := Lib.hid (And.intro hst hat)
  clear hu1 hu2 hbx6 hst hat hbx5 hm5
  go_wp2_with fail
  go_region
  all_goals
    go_wp2_with fail
    go_region
    all_goals
      go_wp2_with fail
      go_ret
      refine ⟨ret_int HE.out.symm, ?_⟩
      rw [HS.out]
      have hat := BAt.below (w' := (setD w6 bb j (some cl)).drew) FIN.out.2 (Below.refl _ _).drew
      exact ⟨hat.mono (fun b hb => hb.elim (fun h => .inl h.1) .inr), (FIN.out.1.trans (.of_below (Below.refl _ _).drew)).mono (fun b hb => hb.1)⟩
set_option maxRecDepth 20000 in
set_option maxHeartbeats 2000000 in
theorem beginB_new_err (w : World) (bb : Nat) (X : Bk) (q m : Nat) (F : Nat → Prop) (t k cl v : Int) (H : BAt w bb X q F) (hG : GoodB X m) (hm : m ≤ 90000) (hin : inB X cl = true) (hbu : busyB X t = none) (hus : cl ∉ X.no) (hee : errB (X.c cl) t k ≠ 0) :
    Calls Try.prog 9 #[.pointer (some ⟨bb, 0, none⟩), .int .i64 t, .agg #[.int .i64 k, .int .i64 cl, .int .i64 v]] w fun e w' => e = .returned (.int .i64 (errBB X t k cl)) ∧ BNow w w' bb (begBB X t k cl v) (q + 1) F := by
  obtain ⟨SA, EA, sh, sc, eh, ec, mb, D, pb, Fc, H0⟩ := H.tight
  clear H
  have hbb : bb < w.heap.size := H0.fix.s.lt
  have hmb : mb < w.heap.size := H0.mo.lt
  obtain ⟨W1, hW1⟩ : ∃ W1, W1 = w.alloc (.cells #[.int .i64 k, .int .i64 cl, .int .i64 v] 35) := ⟨_, rfl⟩
  have hB1 : Below w.heap.size w W1 := by rw [hW1]; exact (Below.refl _ _).alloc (Nat.le_refl _) _
  have hs1 : W1.heap.size = w.heap.size + 1 := by rw [hW1, alloc_size]
  have H1 := H0.below hB1
  have hX1 : BX w.heap.size k cl v W1 := by rw [hW1]; exact BX.new _ _ _ _ _
  have HW := Lib.hid hW1
  have HAS := Lib.hid (has_is H1.fix hG.ok cl)
  have H1' := Lib.hid H1
  have HG := Lib.hid hG
  clear H0 H1 hG
  have x1 := hX1.c.1
  have hin2 : (decide (0 ≤ cl) && decide (cl < sumS X.L)) = true := hin
  rw [hin2] at HAS
  have hcl : 0 ≤ cl ∧ cl < sumS X.L := by simpa using hin2
  have hsum := (errS_ok HG.out.ok).2
  have hfr : X.c cl = newC X.L cl := HG.out.fresh cl hus
  have he := Lib.hid hee
  have HE : Hid (errBB X t k cl = errB (X.c cl) t k) := Lib.hid (by unfold errBB; rw [hin, hbu]; rfl)
  have HS : Hid (begBB X t k cl v = X) := Lib.hid (begBB_bad (by rw [HE.out]; exact hee))
  have dE : (errB (X.c cl) t k != 0) = true := by simp [hee]
  have HBU := Lib.hid hbu
  have HFR := Lib.hid hfr
  rw [hfr] at dE HE
  clear hin hin2 hbu hW1 hee hfr
  go_enter Try.func9, Try.ntmps9
  go_wp2_with fail
  rw [← HW.out]
  refine HAS.out.mono ?_; rintro e w2 ⟨rfl, q1, hq1⟩
  have hB2 : Below W1.heap.size W1 w2 := by rw [hq1]; exact below_drewN (Below.refl _ _) _
  clear hq1
  have H2 := Lib.hid (H1'.out.below hB2)
  go_wp2_with fail
  refine (busyP_is H2.out.d t _ HBU.out).mono ?_; rintro e w3 ⟨rfl, q2, hq2⟩
  have hB3 : Below w2.heap.size w2 w3 := by rw [hq2]; exact below_drewN (Below.refl _ _) _
  clear hq2
  have H3 := Lib.hid (H2.out.below hB3)
  have hB4 : Below w.heap.size w w3 := hB1.trans ((hB2.trans (hB3.mono hB2.size)).mono (by omega))
  have hX3 := (hX1.below hB2).below hB3
  have hs3 : w.heap.size < w3.heap.size := hX3.k.lt
  have x31 := hX3.c.1
  have HB4 := Lib.hid (And.intro hB4 hX3)
  clear hB2 hB3 hB4 hX3 H2
  unfold busyV
  go_wp2_with fail
  refine (cellNew_is H3.out.fix H3.out.mo H3.out.mp HG.out.ok cl hcl.1 hcl.2 hus).mono ?_; rintro e w4 ⟨p, rfl, hP, hB5⟩
  have hX4 := HB4.out.2.below hB5
  have y0 := hX4.k.1
  have y1 := hX4.c.1
  have y2 := hX4.v.1
  have HP := Lib.hid (And.intro hP hB5)
  have HX4 := Lib.hid hX4
  clear hP hB5 hX4
  go_wp2_with fail
  refine (begin_is _ p (newC X.L cl) _ m t k cl v HP.out.1 ((newC_good X.L cl).mono (Nat.zero_le _)) hm).mono ?_; rintro e w5 ⟨rfl, hN⟩
  have hs5 := hN.step.below w3.heap.size (fun b hb => hb) HP.out.2.size
  have hB5 : Below w3.heap.size w3 w5 := HP.out.2.trans hs5
  have H5 := H3.out.below hB5
  have hst5 : Step (fun b => F b ∧ b < w.heap.size) w w5 := .of_below (HB4.out.1.trans (hB5.mono (by omega)))
  have FIN := Lib.hid (And.intro H5 hst5)
  clear hN H5 hst5 hs5 hB5
  go_wp2_with fail
  go_ret
  refine ⟨ret_int HE.out.symm, ?_⟩
  rw [HS.out]
  exact ⟨(FIN.out.1.at_.up (Nat.le_succ q)).mono (fun b hb => .inl hb.1), FIN.out.2.mono (fun b hb => hb.1)⟩
end Go.Proofs.Ytdfkmkflcnfchaa
