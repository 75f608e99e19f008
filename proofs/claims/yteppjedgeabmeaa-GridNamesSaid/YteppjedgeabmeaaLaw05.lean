/- The laws of layer 5: their walks. Own work. -/
import Derived.Test.YteppjedgeabmeaaLook05
namespace Go.Proofs.Yteppjedgeabmeaa
open Go.ChangeShapes Go.WideShapes Go.ChangeAt Go.RowKit Fl

theorem size_as {n : Int} {t : Nat} (h : T (sideN n) = t) (w : World) : Calls Try.prog 7 #[.int .i64 n] w fun e w' => e = .returned (.int .i64 t) ∧ w = w' := h ▸ size_is n w
theorem name_of {a b : Nat} {n : Int} (h : nameP (ptOf a b) = n) (w : World) : Calls Try.prog 11 #[.complex .f64 a b] w fun e w' => e = .returned (.int .i64 n) ∧ w = w' := h ▸ name_is a b w
theorem diag_of {a b : Nat} {n : Int} (h : diagP (ptOf a b) = n) (w : World) : Calls Try.prog 13 #[.complex .f64 a b] w fun e w' => e = .returned (.int .i64 n) ∧ w = w' := h ▸ diag_is a b w
theorem on_of {n : Int} {a b : Nat} {q : Bool} (h : inTri (ptOf a b) (sideN n) = q) (w : World) : Calls Try.prog 9 #[.int .i64 n, .complex .f64 a b] w fun e w' => e = .returned (.bool q) ∧ w = w' := h ▸ on_is n a b w
theorem gat_of {n : Int} {p : Pt} (h : atP n = p) (w : World) : Calls Try.prog 17 #[.int .i64 n] w fun e w' => e = .returned (.complex .f64 (floatOfInt .f64 p.x) (floatOfInt .f64 p.y)) ∧ w = w' := h ▸ gat_is n w
theorem is_is (p : Pt) (hp : p.In) (w : World) : Calls Try.prog 16 #[.complex .f64 (floatOfInt .f64 p.x) (floatOfInt .f64 p.y), pv p] w fun e w' => e = .returned (.bool true) ∧ Below w.heap.size w w' := by
  have Hi := Lib.hid (fun w => isR_is p hp w)
  unfold pv at Hi ⊢
  go_enter Try.func16, Try.ntmps16
  go_wp2_with fail
  refine (Hi.out _).mono ?_; rintro e w1 ⟨rfl, b1⟩
  go_wp2
  go_ret
  exact ⟨rfl, (show Below w.heap.size w (w.alloc _) by go_grown).trans (b1.mono (by simp))⟩
set_option maxHeartbeats 1000000 in
theorem alive_is (w : World) : Calls Try.prog 15 #[] w fun e w' => e = .returned (.bool true) ∧ w = w' := by
  have p1 : ptOf 4607182418800017408 4607182418800017408 = ⟨1, 1, true⟩ := (ptOf_whole whole_one whole_one).trans rfl
  have p2 : ptOf 13830554455654793216 0 = ⟨-1, 0, true⟩ := (ptOf_whole whole_neg whole_zero).trans rfl
  have p3 : ptOf 4611686018427387904 4607182418800017408 = ⟨2, 1, true⟩ := (ptOf_whole whole_two whole_one).trans rfl
  have g1 : nameP (ptOf 4607182418800017408 4607182418800017408) = 4 := by rw [p1]; rfl
  have g2 : T (sideN 3) = 6 := by rfl
  have g3 : atP 4 = ⟨1, 1, true⟩ := by rfl
  have g4 : inTri (ptOf 4607182418800017408 4607182418800017408) (sideN 3) = true := by rw [p1]; rfl
  have g5 : inTri (ptOf 4607182418800017408 4607182418800017408) (sideN 2) = false := by rw [p1]; rfl
  have g6 : nameP (ptOf 13830554455654793216 0) = -1 := by rw [p2]; rfl
  have g7 : diagP (ptOf 4611686018427387904 4607182418800017408) = 3 := by rw [p3]; rfl
  have t1 : (FloatKind.f64.format.order (floatOfInt .f64 1) 4607182418800017408 == some .eq && FloatKind.f64.format.order (floatOfInt .f64 1) 4607182418800017408 == some .eq) = true := by
    rw [eq_whole (whole_ofInt (by decide)) whole_one]; rfl
  have H := Lib.hid (And.intro g1 (And.intro g2 (And.intro g3 (And.intro g4 (And.intro g5 (And.intro g6 g7))))))
  clear p1 p2 p3 g1 g2 g3 g4 g5 g6 g7
  go_enter Try.func15, Try.ntmps15
  go_wp2_with fail
  refine (name_of H.out.1 _).mono ?_; rintro e w' ⟨rfl, rfl⟩
  go_wp2_with fail
  refine (size_as H.out.2.1 _).mono ?_; rintro e w' ⟨rfl, rfl⟩
  go_wp2_with fail
  refine (gat_of H.out.2.2.1 _).mono ?_; rintro e w' ⟨rfl, rfl⟩
  go_wp2_with fail
  refine (on_of H.out.2.2.2.1 _).mono ?_; rintro e w' ⟨rfl, rfl⟩
  go_wp2_with fail
  refine (on_of H.out.2.2.2.2.1 _).mono ?_; rintro e w' ⟨rfl, rfl⟩
  go_wp2_with fail
  refine (name_of H.out.2.2.2.2.2.1 _).mono ?_; rintro e w' ⟨rfl, rfl⟩
  go_wp2_with fail
  refine (diag_of H.out.2.2.2.2.2.2 _).mono ?_; rintro e w' ⟨rfl, rfl⟩
  go_wp2_with fail
  go_ret
  exact ⟨rfl, rfl⟩
end Go.Proofs.Yteppjedgeabmeaa
