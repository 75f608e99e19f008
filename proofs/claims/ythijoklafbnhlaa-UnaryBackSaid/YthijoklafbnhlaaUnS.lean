/- unary: Strips, Locals. Own work. -/
import Derived.Test.YthijoklafbnhlaaUnP
import Derived.Deep.RegionWith
import Derived.Deep.DeepCutAuto
namespace Go.Proofs.Ythijoklafbnhlaa
open Go.ChangeShapes Go.WideShapes Go.ChangeAt Go.RowKit CellM TapeM

theorem sdStrips_is (w : World) : Calls Try.prog 34 #[] w fun e w' => ∃ g, e = .returned (.slice (some ⟨g, 0, none⟩) 1 1) ∧ BoxAt w' g #[.int .i64 1, .int .i64 1, .int .i64 1] ∧ w.heap.size ≤ g ∧ Below w.heap.size w w' := by
  go_enter Try.func34, Try.ntmps34
  go_wp2_with fail
  go_ret
  exact ⟨_, rfl, BoxAt.new _ _ _, Nat.le_refl _, below_alloc _ _⟩
theorem sdLocals_is (w : World) : Calls Try.prog 38 #[] w fun e w' => e = .returned (.int .i64 1) ∧ w = w' := by
  go_enter Try.func38, Try.ntmps38
  go_wp2_with fail
  go_ret
  exact ⟨rfl, rfl⟩
theorem localsU_is (n z : Int) (hz : cap 255 n + 1 = z) (w : World) : Calls Try.prog 18 #[.int .i64 n] w fun e w' => e = .returned (.int .i64 z) ∧ w = w' := by
  have hc := cap_le 255 n (by decide)
  obtain ⟨c, hc2⟩ : ∃ c, cap 255 n = c := ⟨_, rfl⟩
  rw [hc2] at hz hc
  subst hz
  have HC := Lib.hid hc2
  clear hc2
  go_enter Try.func18, Try.ntmps18
  go_wp2_with fail
  refine (greatest_is _ _ HC.out _).mono ?_; rintro e w' ⟨rfl, rfl⟩
  go_wp2_with fail
  refine (sdLocals_is _).mono ?_; rintro e w' ⟨rfl, rfl⟩
  go_wp2_with fail
  go_ret
  exact ⟨by first | rfl | exact ret_int (by omega), rfl⟩
set_option maxHeartbeats 4000000 in
theorem stripsU_is (n z : Int) (hz : cap 255 n + 1 = z) (w : World) : Calls Try.prog 14 #[.int .i64 n] w fun e w' => ∃ g, e = .returned (.slice (some ⟨g, 0, none⟩) 1 1) ∧ BoxAt w' g #[.int .i64 z, .int .i64 1, .int .i64 1] ∧ Below w.heap.size w w' := by
  have hc := cap_le 255 n (by decide)
  obtain ⟨c, hc2⟩ : ∃ c, cap 255 n = c := ⟨_, rfl⟩
  rw [hc2] at hz hc
  subst hz
  have HC := Lib.hid hc2
  clear hc2
  go_enter Try.func14, Try.ntmps14
  go_wp2_with fail
  refine (sdStrips_is _).mono ?_
  rintro e w1 ⟨g, rfl, hb, hg, hB⟩
  have HB := Lib.hid (And.intro hb (And.intro hg hB))
  clear hb hB hg
  go_wp2_with fail
  go_loopw [8] (fun i wr => (i = .int .i64 0 ∧ wr = w1) ∨ (i = .int .i64 1 ∧ Hid (BoxAt wr g #[.int .i64 (c + 1), .int .i64 1, .int .i64 1] ∧ Below w.heap.size w wr))) (fun i _ => 1 - (intOf i).toNat)
  case atStart => exact .inl ⟨rfl, rfl⟩
  case round =>
    rcases hrel with ⟨rfl, rfl⟩ | ⟨rfl, HR⟩
    · have x0 := (HB.out.1 0 _ rfl).1
      have f0 := (HB.out.1 0 _ rfl).2
      have f1 := HB.out.1 1 _ rfl
      have f2 := HB.out.1 2 _ rfl
      have HS := Lib.hid (show Has wr ⟨g, 0, none⟩ (.int .i64 1) from ⟨x0, f0⟩)
      have HO := Lib.hid (And.intro f1 f2)
      clear f1 f2
      go_wp2_with fail
      go_region_with (first
        | (go_at_call 28; refine (greatest_is _ _ HC.out _).mono ?_; rintro e w' ⟨rfl, rfl⟩))
      all_goals
        have hwk : IntKind.i64.wrap (c + 1) = c + 1 := by rw [IntKind.wrap_i64]; omega
        rw [hwk, hwk]
        have hS : BoxAt (wr.setCell ⟨g, 0, none⟩ (.int .i64 (c + 1))) g #[.int .i64 (c + 1), .int .i64 1, .int .i64 1] := fun i u hu => by
          match i, hu with
          | 0, hu => simp at hu; subst hu; exact HS.out.same
          | 1, hu => simp at hu; subst hu; exact HO.out.1.other (fun e => by simp only [Addr.mk.injEq] at e; omega)
          | 2, hu => simp at hu; subst hu; exact HO.out.2.other (fun e => by simp only [Addr.mk.injEq] at e; omega)
          | n + 3, hu => simp at hu
        have HG := Lib.hid (And.intro hS (HB.out.2.2.setCell (p := ⟨g, 0, none⟩) HB.out.2.1 (.int .i64 (c + 1))))
        clear hS hwk x0 f0
        go_wp2_with fail
        go_roundw
        case rel => exact .inr ⟨rfl, HG.out.1.below (Below.refl _ _).drew (HG.out.1 0 _ rfl).lt, HG.out.2.drew⟩
        case measure => simp [intOf]
    · go_wp2_with fail
      go_ret
      exact ⟨_, rfl, HR.out.1, HR.out.2⟩
end Go.Proofs.Ythijoklafbnhlaa
