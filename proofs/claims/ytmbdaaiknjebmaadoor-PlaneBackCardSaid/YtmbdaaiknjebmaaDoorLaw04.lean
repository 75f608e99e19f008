/- The laws of layer 4: their walks. Own work. -/
import Derived.Test.YtmbdaaiknjebmaaDoorRef04c
namespace Go.Proofs.YtmbdaaiknjebmaaDoor
open Go.ChangeShapes Go.WideShapes Go.ChangeAt Go.RowKit Fl

theorem go_of {a b : Nat} {x y : Int} (hA : Pw a b x y) {l : List UInt8} (hl : l.length ≤ 9223372036854775807) {r : Pt × Int} (h : goL l x y = r) (w : World) : Calls Tryd.prog 20 #[.complex .f64 a b, .string ⟨l.toArray⟩] w fun e w' =>
    e = .returned (.tuple #[.complex .f64 (floatOfInt .f64 r.1.x) (floatOfInt .f64 r.1.y), .int .i64 r.2]) ∧ w = w' := h ▸ go_is hA l hl w
theorem way_of {a b c d : Nat} {x y v u : Int} (hA : Pw a b x y) (hB : Pw c d v u) {r : List UInt8 × Int} (h : wayP (v - x) (u - y) = r) (w : World) : Calls Tryd.prog 22 #[.complex .f64 a b, .complex .f64 c d] w fun e w' =>
    e = .returned (.tuple #[.string ⟨r.1.toArray⟩, .int .i64 r.2]) ∧ Below w.heap.size w w' := h ▸ way_is hA hB w
theorem turn_of {a b : Nat} {k : Int} {p : Pt} (h : rotN (k % 4).toNat (ptOf a b) = p) (w : World) : Calls Tryd.prog 9 #[.complex .f64 a b, .int .i64 k] w fun e w' =>
    e = .returned (.complex .f64 (floatOfInt .f64 p.x) (floatOfInt .f64 p.y)) ∧ Below w.heap.size w w' := h ▸ turn_is a b k w
theorem norm_of {a b : Nat} {n : Int} (h : normP (ptOf a b) = n) (w : World) : Calls Tryd.prog 11 #[.complex .f64 a b] w fun e w' => e = .returned (.int .i64 n) ∧ w = w' := h ▸ norm_is a b w
theorem text_of {a b : Nat} {t : List UInt8} (h : textP (ptOf a b) = t) (w : World) (ht : Tab w) : Calls Tryd.prog 13 #[.complex .f64 a b] w fun e w' => e = .returned (.string ⟨t.toArray⟩) ∧ Below w.heap.size w w' := h ▸ text_is a b w ht
theorem times_of {a b c d : Nat} {p : Pt} (h : prodP (ptOf a b) (ptOf c d) = p) (w : World) : Calls Tryd.prog 15 #[.complex .f64 a b, .complex .f64 c d] w fun e w' =>
    e = .returned (.tuple #[.complex .f64 (floatOfInt .f64 p.x) (floatOfInt .f64 p.y), .bool p.ok]) ∧ w = w' := h ▸ times_is a b c d w
theorem fi_two : floatOfInt .f64 2 = 4611686018427387904 := by decide +kernel
theorem whole_two : Whole 4611686018427387904 2 := by rw [← fi_two]; exact whole_ofInt (by decide)
theorem half_none : partO 4602678819172646912 = none := by
  have hr : Ieee.double.read 4602678819172646912 = .number false 4503599627370496 (-53) := by decide +kernel
  have hs := sc_to (e := -53) (f := 0) (by decide) (by decide)
  unfold partO
  rw [hr]
  simp only
  unfold partV
  rw [if_neg]
  rintro ⟨h, -⟩
  unfold val at h
  rw [if_neg (by decide)] at h
  generalize ((4503599627370496 * sc (-53) : Nat) : Int) / (sc 0 : Int) = q at h
  rw [hs, show ((0 : Int) - (-53)).toNat = 53 from rfl] at h
  have hp := sc_pos (-53)
  generalize sc (-53) = s at h hp
  have h2 : q * 9007199254740992 * (s : Int) = 4503599627370496 * (s : Int) := by
    rw [Int.mul_assoc, ← show ((2 ^ 53 * s : Nat) : Int) = 9007199254740992 * (s : Int) from by rw [Int.natCast_mul]; rfl, h, Int.natCast_mul]; rfl
  have := Int.eq_of_mul_eq_mul_right (by omega) h2
  omega
theorem itoa_low {n : Nat} (h : n < 10) : Lib.itoa (n : Int) = [UInt8.ofNat (48 + n)] := by
  unfold Lib.itoa
  rw [if_neg (by omega), show ((n : Nat) : Int).toNat = n by omega, Lib.decDigits_one h]
theorem text_21 : textP ⟨2, 1, true⟩ = [50, 43, 49, 105] := by
  unfold textP
  have h2 := itoa_low (n := 2) (by decide)
  have h1 := itoa_low (n := 1) (by decide)
  simp only [if_pos]
  rw [if_neg (by decide), show ((Int.natAbs 1 : Nat) : Int) = ((1 : Nat) : Int) from rfl, h1, show (2 : Int) = ((2 : Nat) : Int) from rfl, h2]
  rfl
set_option maxHeartbeats 1000000 in
theorem alive_is (w : World) (ht : Tab w) : Calls Tryd.prog 17 #[] w fun e w' => e = .returned (.bool true) ∧ Below w.heap.size w w' := by
  have T := Lib.hid ht; clear ht
  have P0 : Pw 0 0 0 0 := ⟨whole_zero, whole_zero, by decide, by decide, by decide, by decide⟩
  have P1 : Pw (floatOfInt .f64 2) (floatOfInt .f64 1) 2 1 := pw_fi (by decide) (by decide) (by decide) (by decide)
  have g1 : goL [114, 114, 100] 0 0 = (⟨2, 1, true⟩, 0) := by rfl
  have g2 : wayP (0 - 2) (0 - 1) = ([108, 108, 117], 0) := by rfl
  have g3 : goL [120] 0 0 = (⟨0, 0, false⟩, 3) := by rfl
  have g4 : ptOf 4602678819172646912 0 = ⟨0, 0, false⟩ := ptOf_none (.inl half_none)
  have g5 : rotN ((1 : Int) % 4).toNat (ptOf (floatOfInt .f64 2) (floatOfInt .f64 1)) = ⟨-1, 2, true⟩ := by rw [P1.pt]; rfl
  have g6 : normP (ptOf (floatOfInt .f64 2) (floatOfInt .f64 1)) = 5 := by rw [P1.pt]; rfl
  have g7 : textP (ptOf (floatOfInt .f64 2) (floatOfInt .f64 1)) = [50, 43, 49, 105] := by rw [P1.pt]; exact text_21
  have t1 : (FloatKind.f64.format.order (floatOfInt .f64 2) 4611686018427387904 == some .eq && FloatKind.f64.format.order (floatOfInt .f64 1) 4607182418800017408 == some .eq) = true := by
    rw [eq_whole P1.wx whole_two, eq_whole P1.wy whole_one]; rfl
  have t2 : (FloatKind.f64.format.order (floatOfInt .f64 (-1)) 13830554455654793216 == some .eq && FloatKind.f64.format.order (floatOfInt .f64 2) 4611686018427387904 == some .eq) = true := by
    rw [eq_whole (whole_ofInt (by decide)) whole_neg, eq_whole P1.wx whole_two]; rfl
  have H := Lib.hid (And.intro P0 (And.intro P1 (And.intro g1 (And.intro g2 (And.intro g3 (And.intro g4 (And.intro g5 (And.intro g6 g7))))))))
  clear P0 P1 g1 g2 g3 g4 g5 g6 g7
  go_enter Tryd.func17, Tryd.ntmps17
  go_wp2_with fail
  refine (go_of (l := [114, 114, 100]) H.out.1 (by decide) H.out.2.2.1 _).mono ?_; rintro e w' ⟨rfl, rfl⟩
  go_wp2_with fail
  refine (way_of H.out.2.1 H.out.1 H.out.2.2.2.1 _).mono ?_; rintro e w1 ⟨rfl, b1⟩
  go_wp2_with fail
  refine (go_of (l := [120]) H.out.1 (by decide) H.out.2.2.2.2.1 _).mono ?_; rintro e w' ⟨rfl, rfl⟩
  go_wp2_with fail
  refine (parts_of H.out.2.2.2.2.2.1 _).mono ?_; rintro e w' ⟨rfl, rfl⟩
  go_wp2_with fail
  refine (turn_of H.out.2.2.2.2.2.2.1 _).mono ?_; rintro e w2 ⟨rfl, b2⟩
  have B2 := Lib.hid (b1.trans (b2.mono b1.size)); clear b1 b2
  go_wp2_with fail
  refine (norm_of H.out.2.2.2.2.2.2.2.1 _).mono ?_; rintro e w' ⟨rfl, rfl⟩
  go_wp2_with fail
  refine (text_of H.out.2.2.2.2.2.2.2.2 _ (tab_below T.out B2.out)).mono ?_; rintro e w3 ⟨rfl, b3⟩
  go_wp2_with fail
  go_ret
  exact ⟨rfl, B2.out.trans (b3.mono B2.out.size)⟩
end Go.Proofs.YtmbdaaiknjebmaaDoor
