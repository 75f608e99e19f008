/- The chapter's example: the whole. Own work. -/
import Derived.Test.YthijoklafbnhlaaUnA
import Derived.Test.YthijoklafbnhlaaUnS
import Derived.Laws.StructEq
namespace Go.Proofs.Ythijoklafbnhlaa
open Go.ChangeShapes Go.WideShapes Go.ChangeAt Go.RowKit CellM TapeM

set_option maxHeartbeats 16000000 in
set_option maxRecDepth 20000 in
theorem alive12_is (w : World) : Calls Try.prog 5 #[] w fun e w' => e = .returned (.bool true) ∧ Below w.heap.size w w' := by
  obtain ⟨W, hW⟩ : ∃ W, W = (w.alloc (.cells #[.int .i64 3, .int .i64 0, .int .i64 0, .int .i64 0, .int .i64 0, .int .i64 0, .int .i64 3] 23)).alloc (.cells #[.int .i64 0, .int .i64 0, .int .i64 0] 3) := ⟨_, rfl⟩
  have hb : Below w.heap.size w W := by rw [hW]; exact (below_alloc _ _).alloc (by simp) _
  have hbx : BoxAt W w.heap.size #[.int .i64 3, .int .i64 0, .int .i64 0, .int .i64 0, .int .i64 0, .int .i64 0, .int .i64 3] := by
    rw [hW]; exact (BoxAt.new w _ _).grow (below_alloc _ _)
  have hri : RI W (some ⟨w.heap.size + 1, 0, none⟩) 3 [0, 0, 0] := by
    have := ri_lit (w.alloc (.cells #[.int .i64 3, .int .i64 0, .int .i64 0, .int .i64 0, .int .i64 0, .int .i64 0, .int .i64 3] 23)) [0, 0, 0] 3 rfl (by decide) #[.int .i64 0, .int .i64 0, .int .i64 0] rfl
    rw [size_alloc'] at this
    rw [hW]; exact this
  have HP := Lib.hid (aliveOut1 W _ hri w.heap.size hbx)
  have HW := Lib.hid hW
  have HB := Lib.hid (And.intro hb hbx)
  have hmf : ∀ (fn : Fn) (first cap : Array Value) (w : World), (Instr.makeFunc fn first cap).run Try.prog w = .ok (.func fn first cap) w := fun _ _ _ _ => rfl
  clear hb hbx hri hW
  go_enter Try.func5, Try.ntmps5
  go_wp2_with fail
  rw [← HW.out]
  refine HP.out.mono ?_
  rintro e w1 ⟨A2, A3, m2, m3, g, c1, c2, c3, rfl, ⟨⟨e0, e1, e2⟩, e3, e4, e5⟩, hB⟩
  obtain ⟨V, hV⟩ : ∃ V, V = (w1.alloc (.cells #[.bool true, .slice (some ⟨g, 0, none⟩) 2 c1, .slice A2 m2 c2, .slice A3 m3 c3] 30)).alloc (.cells #[.int .i64 1, .int .i64 0, .int .i64 1] 3) := ⟨_, rfl⟩
  have hbV : Below w1.heap.size w1 V := by rw [hV]; exact (below_alloc _ _).alloc (by simp) _
  have hy : BoxAt V w1.heap.size #[.bool true, .slice (some ⟨g, 0, none⟩) 2 c1, .slice A2 m2 c2, .slice A3 m3 c3] := by rw [hV]; exact (BoxAt.new w1 _ _).grow (below_alloc _ _)
  have hri : RI V (some ⟨w1.heap.size + 1, 0, none⟩) 3 [1, 0, 1] := by
    have := ri_lit (w1.alloc (.cells #[.bool true, .slice (some ⟨g, 0, none⟩) 2 c1, .slice A2 m2 c2, .slice A3 m3 c3] 30)) [1, 0, 1] 3 rfl (by decide) #[.int .i64 1, .int .i64 0, .int .i64 1] rfl
    rw [size_alloc'] at this
    rw [hV]; exact this
  have hbWV : Below W.heap.size W V := hB.trans (hbV.mono hB.size)
  have HP2 := Lib.hid (aliveOut2 V _ hri w.heap.size (HB.out.2.grow hbWV))
  have HE := Lib.hid (And.intro (And.intro e0 (And.intro e1 e2)) (And.intro e3 (And.intro e4 e5)))
  have HV := Lib.hid hV
  have HBV := Lib.hid (And.intro (HB.out.1.trans (hbWV.mono HB.out.1.size)) (And.intro hbV hy))
  clear hV hbV hy hB HP HW hbWV hri e0 e1 e2 e3 e4 e5
  go_wp2_with fail
  rw [← HV.out]
  refine HP2.out.mono ?_
  rintro e w2 ⟨P1, P2, P3, q1, q2, q3, d1, d2, d3, rfl, hB2⟩
  obtain ⟨U, hU⟩ : ∃ U, U = w2.alloc (.cells #[.bool true, .slice P1 q1 d1, .slice P2 q2 d2, .slice P3 q3 d3] 30) := ⟨_, rfl⟩
  have hbU : Below w2.heap.size w2 U := by rw [hU]; exact below_alloc _ _
  have hz : BoxAt U w2.heap.size #[.bool true, .slice P1 q1 d1, .slice P2 q2 d2, .slice P3 q3 d3] := by rw [hU]; exact BoxAt.new _ _ _
  have hbVU : Below V.heap.size V U := hB2.trans (hbU.mono hB2.size)
  have hy := HBV.out.2.2.grow hbVU
  have hb1U : Below w1.heap.size w1 U := HBV.out.2.1.trans (hbVU.mono HBV.out.2.1.size)
  have y0 := (hy 0 _ rfl).1
  have y1 := (hy 1 _ rfl).1
  have z0 := (hz 0 _ rfl).1
  have e0 := (hb1U.cell (cell_lt HE.out.1.1)).trans HE.out.1.1
  have e1 := (hb1U.cell (cell_lt HE.out.1.2.1)).trans HE.out.1.2.1
  have e2 := (hb1U.cell (cell_lt HE.out.1.2.2)).trans HE.out.1.2.2
  have e3 := (hb1U.cell (cell_lt HE.out.2.1)).trans HE.out.2.1
  have e4 := (hb1U.cell (cell_lt HE.out.2.2.1)).trans HE.out.2.2.1
  have e5 := (hb1U.cell (cell_lt HE.out.2.2.2)).trans HE.out.2.2.2
  have HU := Lib.hid hU
  have HBU := Lib.hid (HBV.out.1.trans (hbVU.mono HBV.out.1.size))
  clear hU hbU hz hbVU hy hb1U HP2 HV HE
  go_upto_region 4 with fail
  rw [← HU.out]
  go_wp2_with fail
  refine (localsU_is _ 4 (by decide) _).mono ?_
  rintro e w3 ⟨rfl, rfl⟩
  go_wp2_with fail
  refine (stripsU_is _ 4 (by decide) _).mono ?_
  rintro e w3 ⟨g2, rfl, hs, hb3⟩
  have s0 := (hs 0 _ rfl).1
  have HB3 := Lib.hid (HBU.out.trans (hb3.mono HBU.out.size))
  clear hb3 hs
  go_wp2_with fail
  go_ret
  exact ⟨rfl, HB3.out⟩
end Go.Proofs.Ythijoklafbnhlaa
