/- The chapter's example. Own work. -/
import Derived.Test.YthpdfmjcchcijaaTAlive
import Derived.Test.YthpdfmjcchcijaaTSame
namespace Go.Proofs.Ythpdfmjcchcijaa
open Go.ChangeShapes Go.WideShapes Go.ChangeAt Go.RowKit CellM TapeM

/-- A new literal of k-cell elements. -/
theorem rowK_lit (w : World) (xs : List Value) (k n : Nat) (t : TypeId) (hn : xs.length = n * k) (hm : n ≤ maxLen) (cs : Array Value) (hc : cs = xs.toArray) : RowK (w.alloc (.cells cs t)) k (some ⟨w.heap.size, 0, none⟩) w.heap.size n n xs := by
  subst hc
  have hb := Blk.new w t xs.toArray
  have hg : ∀ j x, xs[j]? = some x → Has (w.alloc (.cells xs.toArray t)) ⟨w.heap.size, j, none⟩ x := fun j x hx => has_new w _ _ j x (by simpa using hx)
  exact ⟨hn, Nat.le_refl _, hm, .inr rfl, hg, fun j hj => ⟨xs[j]'(by omega), hg j _ (List.getElem?_eq_getElem (by omega))⟩⟩
theorem sh1 : shN T1.loc = 3 := by decide
theorem sh2 : shN T2.loc = 1 := by decide
theorem play1_is (w : World) (AA : Option Addr) (hr : RI w AA 1 [7]) :
    Calls Try.prog 19 #[.func (.func 20) #[] #[], .slice none 0 0, .slice AA 1 1] w fun e w' => Plays (.stop T1) (fun _ => .string endS) (.string ⟨#[]⟩) w w' e :=
  playS_is endS (.stop T1) 20 #[] enter20 none 0 0 1 (l := []) (ans := [7]) rfl rfl (by decide) (RI.nil w) hr
    (fun w1 w2 F hb hF hP hb2 => alive1_is (hP.grow hb2))
theorem play2_is (w : World) (Al AA : Option Addr) (hl : RI w Al 1 [5]) (hr : RI w AA 2 [7, 8]) :
    Calls Try.prog 7 #[.func (.func 25) #[] #[], .slice Al 1 1, .slice AA 2 2] w fun e w' => Plays (.go T2 12) (Value.int .i64) (.int .i64 0) w w' e :=
  play_is (.go T2 12) 25 #[] enter25 Al 1 1 2 (l := [5]) (ans := [7, 8]) rfl rfl (by decide) hl hr
    (fun w1 w2 F hb hF hP hb2 => alive2_is (hP.grow hb2))
def o1V (A1 A2 A3 : Option Addr) (c1 c2 c3 : Nat) : Value := .agg #[.bool false, .slice A1 2 c1, .slice A2 1 c2, .slice A3 3 c3]
def o2V (A1 A2 A3 : Option Addr) (c1 c2 c3 : Nat) : Value := .agg #[.bool true, .slice A1 1 c1, .slice A2 0 c2, .slice A3 1 c3]
theorem play1_gives (w : World) (AA : Option Addr) (hr : RI w AA 1 [7]) :
    Calls Try.prog 19 #[.func (.func 20) #[] #[], .slice none 0 0, .slice AA 1 1] w fun e w' => ∃ A1 A2 A3 c1 c2 c3, e = .returned (.tuple #[.string ⟨#[]⟩, .agg #[.bool false, .slice A1 2 c1, .slice A2 1 c2, .slice A3 3 c3]]) ∧ OutAt w' (o1V A1 A2 A3 c1 c2 c3) false T1 ∧ Below w.heap.size w w' := by
  refine (play1_is w AA hr).mono ?_
  rintro e w1 ⟨o1, rfl, hOB, hB1⟩
  have hO1 := hOB.at_
  have hO := hO1
  obtain ⟨A1, A2, A3, h1', h2', c1, c2, c3, rfl, hD1⟩ := hO1
  exact ⟨A1, A2, A3, c1, c2, c3, rfl, hO, hB1⟩
theorem play2_gives (w : World) (Al AA : Option Addr) (hl : RI w Al 1 [5]) (hr : RI w AA 2 [7, 8]) :
    Calls Try.prog 7 #[.func (.func 25) #[] #[], .slice Al 1 1, .slice AA 2 2] w fun e w' => ∃ A1 A2 A3 c1 c2 c3, e = .returned (.tuple #[.int .i64 12, .agg #[.bool true, .slice A1 1 c1, .slice A2 0 c2, .slice A3 1 c3]]) ∧ Below w.heap.size w w' := by
  refine (play2_is w Al AA hl hr).mono ?_
  rintro e w1 ⟨o1, rfl, hOB, hB1⟩
  have hO1 := hOB.at_
  obtain ⟨A1, A2, A3, h1', h2', c1, c2, c3, rfl, hD1⟩ := hO1
  exact ⟨A1, A2, A3, c1, c2, c3, rfl, hB1⟩
set_option maxHeartbeats 8000000 in
theorem alive10_is (w : World) : Calls Try.prog 5 #[] w fun e w' => e = .returned (.bool true) ∧ Below w.heap.size w w' := by
  have H1 := Lib.hid (play1_gives _ _ (ri_lit w [7] 1 rfl (by decide) _ rfl))
  go_enter Try.func5, Try.ntmps5
  go_wp2_with fail
  refine H1.out.mono ?_
  rintro e w1 ⟨A1, A2, A3, c1, c2, c3, rfl, hO1, hB1⟩
  have hb1 := (below_alloc w _).trans (hB1.mono (below_alloc w _).size)
  obtain ⟨V1, hV1⟩ : ∃ V1, V1 = w1.alloc (.cells #[.bool false, .slice A1 2 c1, .slice A2 1 c2, .slice A3 3 c3] 29) := ⟨_, rfl⟩
  have hbV1 : Below w1.heap.size w1 V1 := by rw [hV1]; exact below_alloc _ _
  have ho : ∀ i x, (#[.bool false, .slice A1 2 c1, .slice A2 1 c2, .slice A3 3 c3] : Array Value)[i]? = some x → Has V1 ⟨w1.heap.size, i, none⟩ x := fun i x hx => by rw [hV1]; exact has_new w1 _ _ i x hx
  have hri5 := ri_lit V1 [5] 1 rfl (by decide) #[.int .i64 5] rfl
  have hri78 := ri_lit (V1.alloc (.cells #[.int .i64 5] 3)) [7, 8] 2 rfl (by decide) #[.int .i64 7, .int .i64 8] rfl
  rw [size_alloc'] at hri78
  have H2 := Lib.hid (play2_gives _ _ _ (hri5.below (below_alloc _ _)) hri78)
  have hbV3 : Below V1.heap.size V1 ((V1.alloc (.cells #[.int .i64 5] 3)).alloc (.cells #[.int .i64 7, .int .i64 8] 3)) := ((Below.refl _ _).alloc (Nat.le_refl _) _).alloc (by simp) _
  have HO := Lib.hid (And.intro hO1 (And.intro hb1 (And.intro hbV1 (And.intro ho hbV3))))
  have HV1 := Lib.hid hV1
  clear hO1 hB1 hb1 hV1 hbV1 ho hri5 hri78 hbV3 H1
  go_upto_region 2 with fail
  rw [← HV1.out]
  go_wp2_with fail
  refine H2.out.mono ?_
  rintro e w2 ⟨B1, B2, B3, e1, e2, e3, rfl, hB2⟩
  have hb2 : Below V1.heap.size V1 w2 := HO.out.2.2.2.2.trans (hB2.mono HO.out.2.2.2.2.size)
  obtain ⟨V4, hV4⟩ : ∃ V4, V4 = w2.alloc (.cells #[.bool true, .slice B1 1 e1, .slice B2 0 e2, .slice B3 1 e3] 29) := ⟨_, rfl⟩
  have hbV4 : Below w2.heap.size w2 V4 := by rw [hV4]; exact below_alloc _ _
  have hp : ∀ i x, (#[.bool true, .slice B1 1 e1, .slice B2 0 e2, .slice B3 1 e3] : Array Value)[i]? = some x → Has V4 ⟨w2.heap.size, i, none⟩ x := fun i x hx => by rw [hV4]; exact has_new w2 _ _ i x hx
  have HP := Lib.hid (And.intro hb2 (And.intro hbV4 hp))
  have HV4 := Lib.hid hV4
  clear hB2 hb2 hV4 hbV4 hp H2 HV1
  go_upto_region 4 with fail
  rw [← HV4.out]
  go_wp2_with fail
  refine (writeM_nil _ 1 2).mono ?_
  rintro e w3 ⟨rfl, hb3⟩
  have hb13 : Below w1.heap.size w1 w3 := HO.out.2.2.1.trans (((HP.out.1.trans (HP.out.2.1.mono HP.out.1.size)).trans (hb3.mono (Nat.le_trans HP.out.1.size HP.out.2.1.size))).mono HO.out.2.2.1.size)
  have hb1v : Below V1.heap.size V1 w3 := (HP.out.1.trans (HP.out.2.1.mono HP.out.1.size)).trans (hb3.mono (Nat.le_trans HP.out.1.size HP.out.2.1.size))
  have hbox : ∀ i x, (#[.bool false, .slice A1 2 c1, .slice A2 1 c2, .slice A3 3 c3] : Array Value)[i]? = some x → Has w3 ⟨w1.heap.size, i, none⟩ x := fun i x hx => (HO.out.2.2.2.1 i x hx).below hb1v (HO.out.2.2.2.1 i x hx).lt
  have y0 : w3.cell? ⟨w1.heap.size, 0, none⟩ = some (.bool false) := (hbox 0 _ rfl).1
  have y1 : w3.cell? ⟨w1.heap.size, 1, none⟩ = some (.slice A1 2 c1) := (hbox 1 _ rfl).1
  have y2 : w3.cell? ⟨w1.heap.size, 2, none⟩ = some (.slice A2 1 c2) := (hbox 2 _ rfl).1
  have y3 : w3.cell? ⟨w1.heap.size, 3, none⟩ = some (.slice A3 3 c3) := (hbox 3 _ rfl).1
  have hpx : ∀ i x, (#[.bool true, .slice B1 1 e1, .slice B2 0 e2, .slice B3 1 e3] : Array Value)[i]? = some x → Has w3 ⟨w2.heap.size, i, none⟩ x := fun i x hx => (HP.out.2.2 i x hx).below hb3 (HP.out.2.2 i x hx).lt
  -- the literal outcome
  obtain ⟨X1, hX1⟩ : ∃ X1, X1 = w3.alloc (.cells #[.int .i64 1, .int .i64 3, .int .i64 0, .int .i64 2, .int .i64 4, .int .i64 7] 45) := ⟨_, rfl⟩
  obtain ⟨X2, hX2⟩ : ∃ X2, X2 = X1.alloc (.cells #[.int .i64 1, .int .i64 0] 47) := ⟨_, rfl⟩
  obtain ⟨X3, hX3⟩ : ∃ X3, X3 = X2.alloc (.cells #[.int .i64 0, .int .i64 0, .int .i64 9] 3) := ⟨_, rfl⟩
  have x1 : Below w3.heap.size w3 X1 := by rw [hX1]; exact below_alloc _ _
  have x2 : Below X1.heap.size X1 X2 := by rw [hX2]; exact below_alloc _ _
  have x3 : Below X2.heap.size X2 X3 := by rw [hX3]; exact below_alloc _ _
  have r1 : RowK X1 3 (some ⟨w3.heap.size, 0, none⟩) w3.heap.size 2 2 (flatAc T1.acc) := by rw [hX1]; exact rowK_lit w3 _ 3 2 _ rfl (by decide) _ rfl
  have r2 : RowK X2 2 (some ⟨X1.heap.size, 0, none⟩) X1.heap.size 1 1 (flatNt T1.nts) := by rw [hX2]; exact rowK_lit X1 _ 2 1 _ rfl (by decide) _ rfl
  have r3 : RI X3 (some ⟨X2.heap.size, 0, none⟩) 3 [0, 0, 9] := by rw [hX3]; exact ri_lit X2 [0, 0, 9] 3 rfl (by decide) _ rfl
  have x23 : Below X1.heap.size X1 X3 := x2.trans (x3.mono x2.size)
  have x13 : Below w3.heap.size w3 X3 := x1.trans (x23.mono x1.size)
  have hlit : OutAt X3 (.agg #[.bool false, .slice (some ⟨w3.heap.size, 0, none⟩) 2 2, .slice (some ⟨X1.heap.size, 0, none⟩) 1 1, .slice (some ⟨X2.heap.size, 0, none⟩) 3 3]) false T1 :=
    ⟨_, _, _, _, _, 2, 1, 3, rfl, r1.below x23, r2.below x3, r3⟩
  have HS := Lib.hid (same_is ((HO.out.1.below hb13).below x13) hlit rfl rfl (fun _ => rfl))
  have HB3 := Lib.hid (And.intro hb13 (And.intro x13 hpx))
  have HX : Hid (X3 = ((w3.alloc (.cells #[.int .i64 1, .int .i64 3, .int .i64 0, .int .i64 2, .int .i64 4, .int .i64 7] 45)).alloc (.cells #[.int .i64 1, .int .i64 0] 47)).alloc (.cells #[.int .i64 0, .int .i64 0, .int .i64 9] 3)) := Lib.hid (by rw [hX3, hX2, hX1])
  have hs1 : X1.heap.size = w3.heap.size + 1 := by rw [hX1]; simp
  have hs2 : X2.heap.size = w3.heap.size + 1 + 1 := by rw [hX2, size_alloc', hs1]
  rw [hs1, hs2] at HS
  have HS2 := HS
  rw [HX.out] at HS2
  unfold o1V at HS2
  have HW := Lib.hid (HO.out.2.1.trans (HB3.out.1.mono HO.out.2.1.size))
  clear HS
  clear hX1 hX2 hX3 x1 x2 x3 r1 r2 r3 x23 x13 hlit hb13 hb1v hbox hpx hb3 hs1 hs2 HV4
  go_wp2_with fail
  refine HS2.out.mono ?_
  rintro e w4 ⟨rfl, hb4⟩
  rw [← HX.out] at hb4
  have hb34 : Below w3.heap.size w3 w4 := HB3.out.2.1.trans (hb4.mono HB3.out.2.1.size)
  have z0 : w4.cell? ⟨w2.heap.size, 0, none⟩ = some (.bool true) := ((HB3.out.2.2 0 _ rfl).below hb34 (HB3.out.2.2 0 _ rfl).lt).1
  have z1 : w4.cell? ⟨w2.heap.size, 1, none⟩ = some (.slice B1 1 e1) := ((HB3.out.2.2 1 _ rfl).below hb34 (HB3.out.2.2 1 _ rfl).lt).1
  have HB4 := Lib.hid (HW.out.trans (hb34.mono HW.out.size))
  clear hb4 hb34 HS2 HX HB3 y0 y1 y2 y3 HW
  go_wp2_with fail
  refine (readM_nil _ 3).mono ?_
  rintro e w5 ⟨rfl, hb5⟩
  have HB5 := Lib.hid (HB4.out.trans (hb5.mono HB4.out.size))
  clear hb5
  go_wp2_with fail
  refine (short_is _ (some ⟨w5.heap.size, 0, none⟩) 3 3 [1, 0, 0] rfl (by decide) (ri_lit w5 [1, 0, 0] 3 rfl (by decide) _ rfl)).mono ?_
  rintro e w6 ⟨v, rfl, ho, hb6⟩
  obtain ⟨A, c, hv, _⟩ := ho.reads
  rw [show (short [1, 0, 0]).length = 1 by decide] at hv
  subst hv
  have HB6 := Lib.hid (HB5.out.trans (((below_alloc w5 _).trans (hb6.mono (below_alloc w5 _).size)).mono HB5.out.size))
  clear hb6 ho
  go_wp2_with fail
  go_ret
  exact ⟨rfl, HB6.out⟩
end Go.Proofs.Ythpdfmjcchcijaa
