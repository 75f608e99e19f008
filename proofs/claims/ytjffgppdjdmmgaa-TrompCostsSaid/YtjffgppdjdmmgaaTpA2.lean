/- The chapter's example: the whole. Own work. -/
import Derived.Test.YtjffgppdjdmmgaaTpA
import Derived.Laws.StructEq
namespace Go.Proofs.Ytjffgppdjdmmgaa
open Go.ChangeShapes Go.WideShapes Go.ChangeAt Go.RowKit CellM TapeM

set_option maxHeartbeats 16000000 in
set_option maxRecDepth 20000 in
theorem alive13_is (w : World) : Calls Try.prog 5 #[] w fun e w' => e = .returned (.bool true) ∧ Below w.heap.size w w' := by
  obtain ⟨W, hW⟩ : ∃ W, W = (w.alloc (.cells #[.int .i64 4, .int .i64 2, .int .i64 0, .int .i64 0, .int .i64 0, .int .i64 0, .int .i64 0] 23)).alloc (.cells #[.int .i64 0] 3) := ⟨_, rfl⟩
  have hb : Below w.heap.size w W := by rw [hW]; exact (below_alloc _ _).alloc (by simp) _
  have hbx : BoxAt W w.heap.size #[.int .i64 4, .int .i64 2, .int .i64 0, .int .i64 0, .int .i64 0, .int .i64 0, .int .i64 0] := by
    rw [hW]; exact (BoxAt.new w _ _).grow (below_alloc _ _)
  have hri : RI W (some ⟨w.heap.size + 1, 0, none⟩) 1 [0] := by
    have := ri_lit (w.alloc (.cells #[.int .i64 4, .int .i64 2, .int .i64 0, .int .i64 0, .int .i64 0, .int .i64 0, .int .i64 0] 23)) [0] 1 rfl (by decide) #[.int .i64 0] rfl
    rw [size_alloc'] at this
    rw [hW]; exact this
  have HP := Lib.hid (aliveOut1 W _ hri w.heap.size hbx)
  have HW := Lib.hid hW
  have HB := Lib.hid (And.intro hb hbx)
  have hmf : ∀ (fn : Fn) (first cap : Array Value) (w : World), (Instr.makeFunc fn first cap).run Try.prog w = .ok (.func fn first cap) w := fun _ _ _ _ => rfl
  clear hb hbx hri hW
  go_enter Try.func5, Try.ntmps5
  go_wp2_with fail
  rw [← HW.out]
  refine HP.out.mono ?_
  rintro e w1 ⟨P2, P3, p2, p3, g1, a1, a2, a3, rfl, e1, hB⟩
  obtain ⟨V, hV⟩ : ∃ V, V = (w1.alloc (.cells #[.bool true, .slice (some ⟨g1, 0, none⟩) 1 a1, .slice P2 p2 a2, .slice P3 p3 a3] 30)).alloc (.cells #[.int .i64 0, .int .i64 0, .int .i64 0] 3) := ⟨_, rfl⟩
  have hbV : Below w1.heap.size w1 V := by rw [hV]; exact (below_alloc _ _).alloc (by simp) _
  have hy : BoxAt V w1.heap.size #[.bool true, .slice (some ⟨g1, 0, none⟩) 1 a1, .slice P2 p2 a2, .slice P3 p3 a3] := by rw [hV]; exact (BoxAt.new w1 _ _).grow (below_alloc _ _)
  have hri : RI V (some ⟨w1.heap.size + 1, 0, none⟩) 3 [0, 0, 0] := by
    have := ri_lit (w1.alloc (.cells #[.bool true, .slice (some ⟨g1, 0, none⟩) 1 a1, .slice P2 p2 a2, .slice P3 p3 a3] 30)) [0, 0, 0] 3 rfl (by decide) #[.int .i64 0, .int .i64 0, .int .i64 0] rfl
    rw [size_alloc'] at this
    rw [hV]; exact this
  have hbWV : Below W.heap.size W V := hB.trans (hbV.mono hB.size)
  have HP2 := Lib.hid (aliveOut2 V _ hri w.heap.size (HB.out.2.grow hbWV))
  have HV := Lib.hid hV
  have HBV := Lib.hid (And.intro (HB.out.1.trans (hbWV.mono HB.out.1.size)) (And.intro (HB.out.2.grow hbWV) (And.intro hy ((hbV.cell (cell_lt e1)).trans e1))))
  clear hV hbV hy hB HP HW hbWV hri e1 HB
  go_wp2_with fail
  rw [← HV.out]
  refine HP2.out.mono ?_
  rintro e w2 ⟨Q2, Q3, q2, q3, g2, b1, b2, b3, rfl, ⟨e6, e7, e8⟩, hB⟩
  obtain ⟨X, hX⟩ : ∃ X, X = (w2.alloc (.cells #[.bool true, .slice (some ⟨g2, 0, none⟩) 3 b1, .slice Q2 q2 b2, .slice Q3 q3 b3] 30)).alloc (.cells #[.int .i64 1, .int .i64 1, .int .i64 1, .int .i64 0, .int .i64 1, .int .i64 1, .int .i64 1] 3) := ⟨_, rfl⟩
  have hbX : Below w2.heap.size w2 X := by rw [hX]; exact (below_alloc _ _).alloc (by simp) _
  have hy : BoxAt X w2.heap.size #[.bool true, .slice (some ⟨g2, 0, none⟩) 3 b1, .slice Q2 q2 b2, .slice Q3 q3 b3] := by rw [hX]; exact (BoxAt.new w2 _ _).grow (below_alloc _ _)
  have hri : RI X (some ⟨w2.heap.size + 1, 0, none⟩) 7 [1, 1, 1, 0, 1, 1, 1] := by
    have := ri_lit (w2.alloc (.cells #[.bool true, .slice (some ⟨g2, 0, none⟩) 3 b1, .slice Q2 q2 b2, .slice Q3 q3 b3] 30)) [1, 1, 1, 0, 1, 1, 1] 7 rfl (by decide) #[.int .i64 1, .int .i64 1, .int .i64 1, .int .i64 0, .int .i64 1, .int .i64 1, .int .i64 1] rfl
    rw [size_alloc'] at this
    rw [hX]; exact this
  have hbVX : Below V.heap.size V X := hB.trans (hbX.mono hB.size)
  have HP3 := Lib.hid (aliveOut3 X _ hri w.heap.size (HBV.out.2.1.grow hbVX))
  have HX := Lib.hid hX
  have HBX := Lib.hid (And.intro (HBV.out.1.trans (hbVX.mono HBV.out.1.size)) (And.intro (HBV.out.2.2.1.grow hbVX) (And.intro ((hbVX.cell (cell_lt HBV.out.2.2.2)).trans HBV.out.2.2.2) (And.intro hy (And.intro ((hbX.cell (cell_lt e6)).trans e6) (And.intro ((hbX.cell (cell_lt e7)).trans e7) ((hbX.cell (cell_lt e8)).trans e8)))))))
  clear hX hbX hy hB HP2 HV hbVX hri e6 e7 e8 HBV
  go_wp2_with fail
  rw [← HX.out]
  refine HP3.out.mono ?_
  rintro e w3 ⟨R2, R3, r2, r3, g3, d1, d2, d3, rfl, _, hB⟩
  obtain ⟨U, hU⟩ : ∃ U, U = w3.alloc (.cells #[.bool true, .slice (some ⟨g3, 0, none⟩) 6 d1, .slice R2 r2 d2, .slice R3 r3 d3] 30) := ⟨_, rfl⟩
  have hbU : Below w3.heap.size w3 U := by rw [hU]; exact below_alloc _ _
  have hz : BoxAt U w3.heap.size #[.bool true, .slice (some ⟨g3, 0, none⟩) 6 d1, .slice R2 r2 d2, .slice R3 r3 d3] := by rw [hU]; exact BoxAt.new _ _ _
  have hbXU : Below X.heap.size X U := hB.trans (hbU.mono hB.size)
  have hy1 := HBX.out.2.1.grow hbXU
  have hy2 := HBX.out.2.2.2.1.grow hbXU
  have x0 := (hy1 0 _ rfl).1
  have x1 := (hy1 1 _ rfl).1
  have y0 := (hy2 0 _ rfl).1
  have y1 := (hy2 1 _ rfl).1
  have z0 := (hz 0 _ rfl).1
  have z1 := (hz 1 _ rfl).1
  have e1 := (hbXU.cell (cell_lt HBX.out.2.2.1)).trans HBX.out.2.2.1
  have e6 := (hbXU.cell (cell_lt HBX.out.2.2.2.2.1)).trans HBX.out.2.2.2.2.1
  have e7 := (hbXU.cell (cell_lt HBX.out.2.2.2.2.2.1)).trans HBX.out.2.2.2.2.2.1
  have e8 := (hbXU.cell (cell_lt HBX.out.2.2.2.2.2.2)).trans HBX.out.2.2.2.2.2.2
  have HBU := Lib.hid (HBX.out.1.trans (hbXU.mono HBX.out.1.size))
  clear hbU hz hbXU hy1 hy2 HP3 HX HBX hB
  subst hU
  go_wp2_with fail
  refine (localsT_is _).mono ?_
  rintro e w4 ⟨rfl, rfl⟩
  go_wp2_with fail
  refine (stripsT_is _).mono ?_
  rintro e w5 ⟨g4, rfl, hs, hb5⟩
  have HB5 := Lib.hid (HBU.out.trans (hb5.mono HBU.out.size))
  clear hb5 hs
  go_wp2_with fail
  refine (stripsT_is _).mono ?_
  rintro e w6 ⟨g5, rfl, hs, hb6⟩
  have s0 := (hs 0 _ rfl).1
  have s1 := (hs 1 _ rfl).1
  have s2 := (hs 2 _ rfl).1
  have HB6 := Lib.hid (HB5.out.trans (hb6.mono HB5.out.size))
  clear hb6 hs
  go_wp2_with fail
  go_ret
  exact ⟨rfl, HB6.out⟩
end Go.Proofs.Ytjffgppdjdmmgaa
