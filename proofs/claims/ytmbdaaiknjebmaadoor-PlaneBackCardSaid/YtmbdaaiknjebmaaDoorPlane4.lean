/- The contract of plane's Go. Own work. -/
import Derived.Test.YtmbdaaiknjebmaaDoorPlane3
namespace Go.Proofs.YtmbdaaiknjebmaaDoor
open Go.ChangeShapes Go.WideShapes Go.ChangeAt Go.RowKit Fl

/-- Where a way leads, and whether. -/
def goL : List UInt8 → Int → Int → Pt × Int
  | [], x, y => (⟨x, y, true⟩, 0)
  | c :: l, x, y => match stepOf c with
    | none => (⟨0, 0, false⟩, 3)
    | some (dx, dy) => if isPart (x + dx) && isPart (y + dy) then goL l (x + dx) (y + dy) else (⟨0, 0, false⟩, 6)
theorem step_cases (c : UInt8) : stepOf c = none ∨ ∃ dx dy, stepOf c = some (dx, dy) ∧ -1 ≤ dx ∧ dx ≤ 1 ∧ -1 ≤ dy ∧ dy ≤ 1 ∧ (dx ≠ 0 ∨ dy ≠ 0) := by
  unfold stepOf
  split
  · exact .inr ⟨1, 0, rfl, by decide, by decide, by decide, by decide, by decide⟩
  split
  · exact .inr ⟨-1, 0, rfl, by decide, by decide, by decide, by decide, by decide⟩
  split
  · exact .inr ⟨0, 1, rfl, by decide, by decide, by decide, by decide, by decide⟩
  split
  · exact .inr ⟨0, -1, rfl, by decide, by decide, by decide, by decide, by decide⟩
  exact .inl rfl
theorem ret_go {a b a' b' : Nat} {e e' : Int} (h1 : a = a') (h2 : b = b') (h3 : e = e') : Ending.returned (.tuple #[.complex .f64 a b, .int .i64 e]) = .returned (.tuple #[.complex .f64 a' b', .int .i64 e']) := by rw [h1, h2, h3]
theorem point_of {a b : Nat} {p : Pt} (h : ptOf a b = p) (w : World) : Calls Tryd.prog 27 #[.complex .f64 a b] w fun e w' => e = .returned (.tuple #[.complex .f64 (floatOfInt .f64 p.x) (floatOfInt .f64 p.y), .bool p.ok]) ∧ w = w' := h ▸ point_is a b w
/-- A letter of a text. -/
theorem index_run (l : List UInt8) (k : Nat) (h : k < l.length) (w : World) : Sem.run Tryd.prog (Instr.index 9 (.string ⟨l.toArray⟩) (.int .i64 k)) w = .ok (.int .u8 (l[k].toNat)) w := by
  rw [run_index_string w 9 _ .i64 (k : Int) Tryd.underlying9, dif_pos ⟨by omega, by simp [ByteArray.size]; omega⟩]
  rfl
theorem step_none {c : UInt8} (h : stepOf c = none) (w : World) : Calls Tryd.prog 36 #[.int .u8 c.toNat] w fun e w' => e = .returned (.complex .f64 0 0) ∧ w = w' := by
  have := step_is c w
  rw [h, Option.getD_none, fi_zero] at this
  exact this
theorem step_some {c : UInt8} {dx dy : Int} (h : stepOf c = some (dx, dy)) (w : World) : Calls Tryd.prog 36 #[.int .u8 c.toNat] w fun e w' => e = .returned (.complex .f64 (floatOfInt .f64 dx) (floatOfInt .f64 dy)) ∧ w = w' := by
  have := step_is c w
  rwa [h, Option.getD_some] at this
theorem go_is {a b : Nat} {x y : Int} (hA : Pw a b x y) (l : List UInt8) (hl : l.length ≤ 9223372036854775807) (w : World) : Calls Tryd.prog 20 #[.complex .f64 a b, .string ⟨l.toArray⟩] w fun e w' =>
    e = .returned (.tuple #[.complex .f64 (floatOfInt .f64 (goL l x y).1.x) (floatOfInt .f64 (goL l x y).1.y), .int .i64 (goL l x y).2]) ∧ w = w' := by
  have hpt := hA.pt
  have hI : (-1048576 ≤ x ∧ x ≤ 1048576) ∧ (-1048576 ≤ y ∧ y ≤ 1048576) := ⟨⟨hA.x0, hA.x1⟩, ⟨hA.y0, hA.y1⟩⟩
  have Hpt := Lib.hid hpt; clear hpt hA
  go_enter Tryd.func20, Tryd.ntmps20
  go_wp2_with fail
  refine (point_of Hpt.out _).mono ?_; rintro e w' ⟨rfl, rfl⟩
  go_wp2_with fail
  go_loopw [0, 18] (fun z i wr => ∃ (k : Nat) (x' y' : Int), k ≤ l.length ∧ z = .complex .f64 (floatOfInt .f64 x') (floatOfInt .f64 y') ∧ i = .int .i64 k ∧ ((-1048576 ≤ x' ∧ x' ≤ 1048576) ∧ (-1048576 ≤ y' ∧ y' ≤ 1048576)) ∧ Hid (goL l x y = goL (l.drop k) x' y') ∧ w = wr) (fun _ i _ => l.length - (intOf i).toNat)
  case atStart => exact ⟨0, x, y, by omega, rfl, rfl, hI, Lib.hid rfl, rfl⟩
  case round =>
    obtain ⟨k, x', y', hk, rfl, rfl, hI', HG, rfl⟩ := hrel
    by_cases hlt : k < l.length
    · have hdrop := List.drop_eq_getElem_cons hlt
      have hidx := index_run l k hlt
      generalize hc : l[k] = c at hdrop hidx
      clear hc
      have hlt' : decide ((k : Int) < (l.length : Int)) = true := by rw [decide_eq_true_iff]; omega
      rcases step_cases c with hs | ⟨dx, dy, hs, d0, d1, d2, d3, hne⟩
      · have hg : goL l x y = (⟨0, 0, false⟩, 3) := by rw [HG.out, hdrop]; unfold goL; rw [hs]
        have ht : (FloatKind.f64.format.order 0 0 == some .eq && FloatKind.f64.format.order 0 0 == some .eq) = true := by rw [eq_whole whole_zero whole_zero]; rfl
        have Hg := Lib.hid hg; clear hg HG hdrop
        have Hs := Lib.hid hs; clear hs
        go_wp2_with fail
        refine (step_none Hs.out _).mono ?_; rintro e w' ⟨rfl, rfl⟩
        go_wp2
        go_ret2
        exact ⟨by rw [Hg.out]; exact ret_go fi_zero.symm fi_zero.symm rfl, rfl⟩
      · have ht : (FloatKind.f64.format.order (floatOfInt .f64 dx) 0 == some .eq && FloatKind.f64.format.order (floatOfInt .f64 dy) 0 == some .eq) = false := by
          rw [eq_whole (whole_ofInt (by omega)) whole_zero, eq_whole (whole_ofInt (by omega)) whole_zero, ← Bool.decide_and, decide_eq_false_iff_not]; omega
        obtain ⟨re, im, e, w1, w2⟩ := cadd_whole (whole_ofInt (n := x') (by omega)) (whole_ofInt (n := y') (by omega)) (whole_ofInt (n := dx) (by omega)) (whole_ofInt (n := dy) (by omega)) (by omega) (by omega)
        have hadd : ∀ w : World, (binOp .add 25 (.complex .f64 (floatOfInt .f64 x') (floatOfInt .f64 y')) (.complex .f64 (floatOfInt .f64 dx) (floatOfInt .f64 dy))).run Tryd.prog w = .ok (.complex .f64 re im) w := fun w => run_complex_sum w .add (.inl rfl) 25 .f64 _ _ _ _ re im e
        have hp := ptOf_whole w1 w2
        clear e w1 w2
        have Hs := Lib.hid hs
        by_cases hin : (-1048576 ≤ x' + dx ∧ x' + dx ≤ 1048576) ∧ (-1048576 ≤ y' + dy ∧ y' + dy ≤ 1048576)
        · have hp' : ptOf re im = ⟨x' + dx, y' + dy, true⟩ := by
            rw [hp]; unfold Fl.mk isPart; rw [decide_eq_true hin.1, decide_eq_true hin.2]; rfl
          have hg : goL l x y = goL (l.drop (k + 1)) (x' + dx) (y' + dy) := by
            rw [HG.out, hdrop]
            conv => lhs; unfold goL
            rw [hs]; simp only
            rw [if_pos (by unfold isPart; rw [decide_eq_true hin.1, decide_eq_true hin.2]; rfl)]
          have Hg := Lib.hid hg; clear hg HG hdrop hs
          have Hp := Lib.hid hp'; clear hp hp'
          go_wp2_with fail
          refine (step_some Hs.out _).mono ?_; rintro e w' ⟨rfl, rfl⟩
          go_wp2_with fail
          refine (point_of Hp.out _).mono ?_; rintro e w' ⟨rfl, rfl⟩
          go_wp2_with fail
          go_roundw
          case rel => exact ⟨k + 1, x' + dx, y' + dy, by omega, rfl, by go_num, hin, Hg, trivial⟩
          case measure => simp [intOf]; omega
        · have hp' : ptOf re im = ⟨0, 0, false⟩ := by
            rw [hp]; unfold Fl.mk isPart; rw [if_neg]; simp only [Bool.and_eq_true, decide_eq_true_eq]; exact hin
          have hg : goL l x y = (⟨0, 0, false⟩, 6) := by
            rw [HG.out, hdrop]
            conv => lhs; unfold goL
            rw [hs]; simp only
            rw [if_neg (by unfold isPart; simp only [Bool.and_eq_true, decide_eq_true_eq]; exact hin)]
          have Hg := Lib.hid hg; clear hg HG hdrop hs
          have Hp := Lib.hid hp'; clear hp hp' hin
          go_wp2_with fail
          refine (step_some Hs.out _).mono ?_; rintro e w' ⟨rfl, rfl⟩
          go_wp2_with fail
          refine (point_of Hp.out _).mono ?_; rintro e w' ⟨rfl, rfl⟩
          go_wp2
          go_ret2
          exact ⟨by rw [Hg.out]; exact ret_go fi_zero.symm fi_zero.symm rfl, rfl⟩
    · obtain rfl : k = l.length := by omega
      have hg : goL l x y = (⟨x', y', true⟩, 0) := by rw [HG.out, List.drop_length]; rfl
      have Hg := Lib.hid hg; clear hg HG
      go_wp2
      go_ret2
      exact ⟨by rw [Hg.out]; rfl, rfl⟩
end Go.Proofs.YtmbdaaiknjebmaaDoor
