/- The chapter's example. Own work. -/
import Derived.Test.YtdfkmkflcnfchaaTwo9
namespace Go.Proofs.Ytdfkmkflcnfchaa
open Go.ChangeShapes Go.WideShapes Go.ChangeAt Go.RowKit CellM

/-- A new slice of strips. -/
theorem rs_lit (w : World) (L : List Strip) (n : Nat) (hn : L.length = n) (hm : n ≤ maxLen) (cs : Array Value) (t : TypeId) (hc : cs = (flatS L).toArray) : RS (w.alloc (.cells cs t)) (some ⟨w.heap.size, 0, none⟩) n L := by
  subst hn; subst hc
  refine ⟨Nat.le_refl _, hm, fun k hk => ⟨_, rfl, ?_⟩⟩
  have ha : (⟨w.heap.size, 0, none⟩ : Addr).add (k * 3) = ⟨w.heap.size, k * 3, none⟩ := by unfold Addr.add; split <;> simp_all
  rw [ha]
  have hat := fun (q : Nat) (x : Value) (hx : (cells3 L[k])[q]? = some x) => flatS_at L k L[k] q x (List.getElem?_eq_getElem hk) hx
  exact ⟨(has_new w _ t _ _ (by simpa using hat 0 _ rfl)).1, (has_new w _ t _ _ (by simpa using hat 1 _ rfl)).1, (has_new w _ t _ _ (by simpa using hat 2 _ rfl)).1⟩
def L9 : List Strip := [⟨2, 1, 1⟩, ⟨1, 3, 9⟩]
def b0 : Bk := newB L9
def b1 : Bk := begBB b0 0 2 2 5
def b2 : Bk := begBB b1 0 1 0 0
def b3 : Bk := finBB b2 0
def b4 : Bk := begBB b3 0 1 3 0
theorem L9_ok : errS L9 = 0 := by decide
theorem L9_at : atV L9 2 = .tuple #[.agg #[.int .i64 1, .int .i64 3, .int .i64 9], .bool true] := rfl
theorem LA_err : errS [⟨1, 0, 0⟩] = 1 := by decide
theorem LB_err : errS [⟨40000, 1, 0⟩] = 5 := by decide
theorem LB_val : valS [⟨40000, 1, 0⟩] = 0 := by decide
theorem b_e1 : errBB b0 0 2 2 = 0 := by decide
theorem b_u1 : busyB b1 0 = some 2 := by decide
theorem b_e2 : errBB b1 0 1 0 = 12 := by decide
theorem b_e3 : errEB b2 0 = 0 := by decide
theorem b_e4 : errBB b3 0 1 3 = 6 := by decide
theorem b_v : (b4.c 2).value = 5 := by decide
theorem b_s : sumS b4.L = 3 := by decide
theorem b_n : b4.no.length = 1 := by decide
/-- The example's bank, and the box of what At answered. -/
def Ex (W : World) (bb g : Nat) (X : Bk) (q : Nat) (w : World) : Prop := Two W.heap.size W w (BP bb X q) NoObj g #[.int .i64 1, .int .i64 3, .int .i64 9]
theorem good1 : GoodB b1 9 := (newB_good L9_ok).beg _ _ _ _
theorem good2 : GoodB b2 18 := good1.beg _ _ _ _
theorem good3 : GoodB b3 18 := good2.fin _
theorem good4 : GoodB b4 27 := good3.beg _ _ _ _
set_option maxRecDepth 20000 in
set_option maxHeartbeats 4000000 in
theorem alive_is (w : World) : Calls Try.prog 5 #[] w fun e w' => e = .returned (.bool true) ∧ Below w.heap.size w w' := by
  obtain ⟨W, hW⟩ : ∃ W, W = w.alloc (.cells #[.int .i64 2, .int .i64 1, .int .i64 1, .int .i64 1, .int .i64 3, .int .i64 9] 48) := ⟨_, rfl⟩
  have hR : RS W (some ⟨w.heap.size, 0, none⟩) 2 L9 := by rw [hW]; exact rs_lit w L9 2 rfl (by decide) _ _ rfl
  have hB0 : Below w.heap.size w W := by rw [hW]; exact (Below.refl _ _).alloc (Nat.le_refl _) _
  have HW := Lib.hid hW
  have HR := Lib.hid (And.intro hR hB0)
  clear hW hR hB0
  go_enter Try.func5, Try.ntmps5
  go_wp2_with fail
  rw [← HW.out]
  refine (newB_is W _ 2 2 L9 rfl HR.out.1).mono ?_; rintro e w1 hg
  obtain ⟨bb, rfl, _, hM, hB1⟩ := gives_ok hg L9_ok
  clear hg
  have M := Lib.hid (Two.first W w1 (bp_frames bb b0 0) hM hB1)
  have HB1 := Lib.hid hB1
  clear hM hB1
  go_wp2_with fail
  refine (atP_is w1 _ 2 2 L9 2 rfl (HR.out.1.below HB1.out) L9_ok (by decide) (by decide)).mono ?_; rintro e w2 ⟨rfl, hb⟩
  rw [L9_at]
  have M2 := Lib.hid ((M.out.grow (bp_frames _ _ _) no_frames hb).box (bp_frames _ _ _) no_frames #[.int .i64 1, .int .i64 3, .int .i64 9] 48); clear hb M
  obtain ⟨W3, hW3⟩ : ∃ W3, W3 = w2.alloc (.cells #[.int .i64 1, .int .i64 3, .int .i64 9] 48) := ⟨_, rfl⟩
  rw [← hW3] at M2
  have HW3 := Lib.hid hW3
  have M3 := Lib.hid (show Ex W bb w2.heap.size b0 0 W3 from M2.out)
  clear M2 hW3
  go_wp2_with fail
  rw [← HW3.out]
  refine (M3.out.calls_beg no_frames (newB_good L9_ok) (by decide) (by decide) 0 2 2 5).mono ?_; rintro e w4 ⟨rfl, h2⟩
  rw [b_e1]
  have M4 := Lib.hid (show Ex W bb w2.heap.size b1 1 w4 from h2); clear h2 M3
  go_wp2_with fail
  refine (M4.out.calls_busy no_frames 0 _ b_u1).mono ?_; rintro e w5 ⟨rfl, h2⟩
  rw [show busyV (some 2) = .tuple #[.int .i64 2, .bool true] from rfl]
  have M5 := Lib.hid (show Ex W bb w2.heap.size b1 1 w5 from h2); clear h2 M4
  go_wp2_with fail
  refine (M5.out.calls_beg no_frames good1 (by decide) (by decide) 0 1 0 0).mono ?_; rintro e w6 ⟨rfl, h2⟩
  rw [b_e2]
  have M6 := Lib.hid (show Ex W bb w2.heap.size b2 2 w6 from h2); clear h2 M5
  go_wp2_with fail
  refine (M6.out.calls_end no_frames good2 (by decide) 0 0).mono ?_; rintro e w7 ⟨rfl, h2⟩
  rw [b_e3]
  have M7 := Lib.hid (show Ex W bb w2.heap.size b3 2 w7 from h2); clear h2 M6
  go_wp2_with fail
  refine (M7.out.calls_beg no_frames good3 (by decide) (by decide) 0 1 3 0).mono ?_; rintro e w8 ⟨rfl, h2⟩
  rw [b_e4]
  have M8 := Lib.hid (show Ex W bb w2.heap.size b4 3 w8 from h2); clear h2 M7
  obtain ⟨W9, hW9⟩ : ∃ W9, W9 = w8.alloc (.cells #[.int .i64 1, .int .i64 0, .int .i64 0] 48) := ⟨_, rfl⟩
  have hR9 : RS W9 (some ⟨w8.heap.size, 0, none⟩) 1 [⟨1, 0, 0⟩] := by rw [hW9]; exact rs_lit w8 _ 1 rfl (by decide) _ _ rfl
  have M9 := Lib.hid (show Ex W bb w2.heap.size b4 3 W9 by rw [hW9]; exact M8.out.grow (bp_frames _ _ _) no_frames ((Below.refl _ _).alloc (Nat.le_refl _) _))
  have HW9 := Lib.hid hW9
  have HR9 := Lib.hid hR9
  clear M8 hW9 hR9
  go_wp2_with fail
  rw [← HW9.out]
  refine (newB_is W9 _ 1 1 _ rfl HR9.out).mono ?_; rintro e w10 hg
  obtain ⟨rfl, hb⟩ := gives_bad hg (by rw [LA_err]; decide)
  rw [LA_err]
  have M10 := Lib.hid (show Ex W bb w2.heap.size b4 3 w10 from M9.out.grow (bp_frames _ _ _) no_frames hb)
  clear hg hb M9
  obtain ⟨W11, hW11⟩ : ∃ W11, W11 = w10.alloc (.cells #[.int .i64 40000, .int .i64 1, .int .i64 0] 48) := ⟨_, rfl⟩
  have hR11 : RS W11 (some ⟨w10.heap.size, 0, none⟩) 1 [⟨40000, 1, 0⟩] := by rw [hW11]; exact rs_lit w10 _ 1 rfl (by decide) _ _ rfl
  have M11 := Lib.hid (show Ex W bb w2.heap.size b4 3 W11 by rw [hW11]; exact M10.out.grow (bp_frames _ _ _) no_frames ((Below.refl _ _).alloc (Nat.le_refl _) _))
  have HW11 := Lib.hid hW11
  have HR11 := Lib.hid hR11
  clear M10 hW11 hR11
  go_wp2_with fail
  rw [← HW11.out]
  refine (count_is W11 _ 1 1 _ rfl HR11.out).mono ?_; rintro e w12 ⟨rfl, hb⟩
  rw [LB_err, LB_val]
  have M12 := Lib.hid (show Ex W bb w2.heap.size b4 3 w12 from M11.out.grow (bp_frames _ _ _) no_frames hb)
  clear hb M11
  have k12 := M12.out.at_ (i := 1) rfl
  go_wp2_with fail
  refine (M12.out.calls_value good4 2 (by decide)).mono ?_; rintro e wz ⟨rfl, hwz⟩
  subst hwz
  rw [b_v]
  go_wp2_with fail
  refine (M12.out.calls_len no_frames good4).mono ?_; rintro e w13 ⟨rfl, h2⟩
  rw [b_s]
  have M13 := Lib.hid (show Ex W bb w2.heap.size b4 3 w13 from h2); clear h2 M12
  go_wp2_with fail
  refine (M13.out.calls_used no_frames good4 (by decide)).mono ?_; rintro e w14 ⟨A, c, rfl, _, h2, _⟩
  rw [b_n]
  have M14 := Lib.hid (show Ex W bb w2.heap.size b4 3 w14 from h2); clear h2 M13
  go_wp2_with fail
  go_ret
  exact ⟨rfl, HR.out.2.trans (M14.out.base.1.mono HR.out.2.size)⟩
end Go.Proofs.Ytdfkmkflcnfchaa
