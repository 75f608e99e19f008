/- The chapter's example: the whole. Own work. -/
import Derived.Test.YtbcbdcglfgimeaaSdA
import Derived.Test.YtbcbdcglfgimeaaTSame
namespace Go.Proofs.Ytbcbdcglfgimeaa
open Go.ChangeShapes Go.WideShapes Go.ChangeAt Go.RowKit CellM TapeM

theorem strips_is (w : World) : Calls Try.prog 18 #[] w fun e w' => ∃ A, e = .returned (.slice A 1 1) ∧ Below w.heap.size w w' := by
  go_enter Try.func18, Try.ntmps18
  go_wp2_with fail
  go_ret
  exact ⟨_, rfl, below_alloc _ _⟩
theorem locals_is (w : World) : Calls Try.prog 19 #[] w fun e w' => e = .returned (.int .i64 1) ∧ w = w' := by
  go_enter Try.func19, Try.ntmps19
  go_wp2_with fail
  go_ret
  exact ⟨rfl, rfl⟩
/-- What the play gives, written out. -/
theorem aliveOut (w : World) (AA : Option Addr) (hr : RI w AA 2 [0, 1]) (b2 : Nat) (h2 : BoxAt w b2 #[.int .i64 2, .int .i64 3, .int .i64 2, .int .i64 0, .int .i64 0, .int .i64 0, .int .i64 0]) :
    Calls Try.prog 7 #[.func (.func 17) #[] #[.pointer (some ⟨b2, 0, none⟩)], .slice none 0 0, .slice AA 2 2] w fun e w' =>
      ∃ A2 A3 m2 m3 g c1 c2 c3, e = .returned (.tuple #[.int .i64 1, .agg #[.bool true, .slice (some ⟨g, 0, none⟩) 2 c1, .slice A2 m2 c2, .slice A3 m3 c3]]) ∧
        (w'.cell? ⟨g, 0, none⟩ = some (.int .i64 2) ∧ w'.cell? ⟨g, 1, none⟩ = some (.int .i64 3) ∧ w'.cell? ⟨g, 2, none⟩ = some (.int .i64 1)) ∧ Below w.heap.size w w' := by
  refine (alivePlay_is w AA hr b2 h2).mono ?_
  rintro e w1 ⟨o, rfl, hOB, hB⟩
  obtain ⟨A1, A2, A3, g1, g2, c1, c2, c3, rfl, hD⟩ := hOB.at_
  have := row_ac hD.r1 rfl (k := 0) (by decide)
  obtain ⟨hA, e0, e1, e2⟩ := this
  refine ⟨A2, A3, 0, 3, g1, c1, c2, c3, ?_, ⟨e0, e1, e2⟩, hB⟩
  rw [hA]
  rfl
set_option maxHeartbeats 4000000 in
theorem alive11_is (w : World) : Calls Try.prog 5 #[] w fun e w' => e = .returned (.bool true) ∧ Below w.heap.size w w' := by
  obtain ⟨W, hW⟩ : ∃ W, W = (w.alloc (.cells #[.int .i64 2, .int .i64 3, .int .i64 2, .int .i64 0, .int .i64 0, .int .i64 0, .int .i64 0] 23)).alloc (.cells #[.int .i64 0, .int .i64 1] 3) := ⟨_, rfl⟩
  have hb : Below w.heap.size w W := by rw [hW]; exact (below_alloc _ _).alloc (by simp) _
  have hbx : BoxAt W w.heap.size #[.int .i64 2, .int .i64 3, .int .i64 2, .int .i64 0, .int .i64 0, .int .i64 0, .int .i64 0] := by
    rw [hW]; exact (BoxAt.new w _ _).grow (below_alloc _ _)
  have hri : RI W (some ⟨w.heap.size + 1, 0, none⟩) 2 [0, 1] := by
    have := ri_lit (w.alloc (.cells #[.int .i64 2, .int .i64 3, .int .i64 2, .int .i64 0, .int .i64 0, .int .i64 0, .int .i64 0] 23)) [0, 1] 2 rfl (by decide) #[.int .i64 0, .int .i64 1] rfl
    rw [size_alloc'] at this
    rw [hW]; exact this
  have HP := Lib.hid (aliveOut W _ hri w.heap.size hbx)
  have HW := Lib.hid hW
  have HB := Lib.hid hb
  have hmf : ∀ (fn : Fn) (first cap : Array Value) (w : World), (Instr.makeFunc fn first cap).run Try.prog w = .ok (.func fn first cap) w := fun _ _ _ _ => rfl
  clear hb hbx hri hW
  go_enter Try.func5, Try.ntmps5
  go_wp2_with fail
  rw [← HW.out]
  refine HP.out.mono ?_
  rintro e w1 ⟨A2, A3, m2, m3, g, c1, c2, c3, rfl, ⟨e0, e1, e2⟩, hB⟩
  obtain ⟨V, hV⟩ : ∃ V, V = w1.alloc (.cells #[.bool true, .slice (some ⟨g, 0, none⟩) 2 c1, .slice A2 m2 c2, .slice A3 m3 c3] 30) := ⟨_, rfl⟩
  have hbV : Below w1.heap.size w1 V := by rw [hV]; exact below_alloc _ _
  have hy : ∀ i x, (#[.bool true, .slice (some ⟨g, 0, none⟩) 2 c1, .slice A2 m2 c2, .slice A3 m3 c3] : Array Value)[i]? = some x → Has V ⟨w1.heap.size, i, none⟩ x := fun i x hx => by rw [hV]; exact has_new w1 _ _ i x hx
  have y0 := (hy 0 _ rfl).1
  have y1 := (hy 1 _ rfl).1
  have e0 := (hbV.cell (cell_lt e0)).trans e0
  have e1 := (hbV.cell (cell_lt e1)).trans e1
  have e2 := (hbV.cell (cell_lt e2)).trans e2
  have HV := Lib.hid hV
  have HBV := Lib.hid (HB.out.trans ((hB.trans (hbV.mono hB.size)).mono HB.out.size))
  clear hV hbV hy hB HP HW
  go_upto_region 3 with fail
  rw [← HV.out]
  go_wp2_with fail
  refine (strips_is _).mono ?_
  rintro e w2 ⟨A, rfl, hb2⟩
  have HB2 := Lib.hid (HBV.out.trans (hb2.mono HBV.out.size))
  clear hb2
  go_wp2_with fail
  refine (locals_is _).mono ?_
  rintro e w3 ⟨rfl, rfl⟩
  go_wp2_with fail
  go_ret
  exact ⟨rfl, HB2.out⟩
end Go.Proofs.Ytbcbdcglfgimeaa
