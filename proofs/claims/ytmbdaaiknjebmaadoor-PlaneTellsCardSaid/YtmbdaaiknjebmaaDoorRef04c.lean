/- The contract of plane's reference's Text. Own work. -/
import Derived.Test.YtmbdaaiknjebmaaDoorRef04b
namespace Go.Proofs.YtmbdaaiknjebmaaDoor
open Go.ChangeShapes Go.WideShapes Go.ChangeAt Go.RowKit Fl

theorem itoa_below {y : Int} (h : y < 0) : Lib.itoa y = 45 :: Lib.itoa (y.natAbs : Int) := by
  unfold Lib.itoa
  rw [if_pos h, if_neg (by omega)]
  simp

theorem textR_is (p : Pt) (hp : p.In) (w : World) : Calls Tryd.prog 14 #[pv p] w fun e w' => e = .returned (.string ⟨(textP p).toArray⟩) ∧ Below w.heap.size w w' := by
  obtain ⟨x, y, ok⟩ := p
  obtain ⟨x0, x1, y0, y1⟩ := hp
  simp only at x0 x1 y0 y1
  unfold pv
  simp only
  cases ok
  · go_enter Tryd.func14, Tryd.ntmps14
    go_wp2
    go_ret
    exact ⟨rfl, by go_grown⟩
  · have DX := Lib.hid (fun w => digitsR_any x (by omega) (by omega) w)
    have DY := Lib.hid (fun w => digitsR_any y (by omega) (by omega) w)
    have lx := Lib.itoa_length_le x (by omega) (by omega)
    have ly := Lib.itoa_length_le y (by omega) (by omega)
    by_cases hy : y < 0
    · have Hz := Lib.hid (show textP ⟨x, y, true⟩ = Lib.itoa x ++ (Lib.itoa y ++ [105]) by unfold textP; rw [if_pos rfl]; simp only; rw [if_pos hy, itoa_below hy]; simp)
      go_enter Tryd.func14, Tryd.ntmps14
      go_wp2_with fail
      go_quiet ((go_at_call 31; first | (with_reducible exact Calls.quiet_of_same (DX.out _)) | (with_reducible exact Calls.quiet_of_same (DY.out _))))
      go_wp2_with fail
      go_ret
      exact ⟨ret_str (by rw [Hz.out, str_one, str_app, str_app]; simp), below_drewN (by go_grown) _⟩
    · have Hz := Lib.hid (show textP ⟨x, y, true⟩ = Lib.itoa x ++ (43 :: (Lib.itoa y ++ [105])) by unfold textP; rw [if_pos rfl]; simp only; rw [if_neg hy, show ((y.natAbs : Nat) : Int) = y by omega])
      go_enter Tryd.func14, Tryd.ntmps14
      go_wp2_with fail
      go_quiet ((go_at_call 31; first | (with_reducible exact Calls.quiet_of_same (DX.out _)) | (with_reducible exact Calls.quiet_of_same (DY.out _))))
      go_wp2_with fail
      go_ret
      exact ⟨ret_str (by rw [Hz.out, str_one, str_one, str_app, str_app, str_app]; simp), below_drewN (by go_grown) _⟩
end Go.Proofs.YtmbdaaiknjebmaaDoor
