/- Contracts of plane's texts and ways. Own work. -/
import Derived.Test.YtmbdaaiknjebmaaDoorPlane2
import Derived.Test.YtmbdaaiknjebmaaDoorDigR
import Derived.Lib.ItoaLen
import Derived.Lib.LaidTab
import Derived.Lib.AppendIntMem
import Derived.Deep.DeepHandedRow
namespace Go.Proofs.YtmbdaaiknjebmaaDoor
open Go.ChangeShapes Go.WideShapes Go.ChangeAt Go.RowKit Fl

abbrev Tab (w : World) : Prop := Lib.TabIs Tryd.prog w "internal/strconv.uint64pow10" .u64 Lib.pow10Tab
theorem tab_below {w w' : World} (h : Tab w) (hb : Below w.heap.size w w') : Tab w' := Lib.tabBelow_of_tabIs h w' hb
theorem str_app (a b : List UInt8) : (⟨a.toArray⟩ : ByteArray) ++ ⟨b.toArray⟩ = ⟨(a ++ b).toArray⟩ := by ext1; simp
theorem str_size (a : List UInt8) : (⟨a.toArray⟩ : ByteArray).size = a.length := by simp [ByteArray.size]
theorem str_one (c : UInt8) : (⟨#[c]⟩ : ByteArray) = ⟨([c] : List UInt8).toArray⟩ := rfl
theorem itoa_is (n : Int) (h0 : -9223372036854775808 ≤ n) (h1 : n ≤ 9223372036854775807) (w : World) (ht : Tab w) : Calls Tryd.prog 29 #[.int .i64 n] w fun e w' => e = .returned (.string ⟨(Lib.itoa n).toArray⟩) ∧ Below w.heap.size w w' := by
  refine (Tryd.strconv_Itoa _ h0 h1 _ ht).mono ?_; rintro e w' ⟨rfl, k, os, rfl⟩
  exact ⟨rfl, Lib.below_grow _ _ (Nat.le_refl _) _ _⟩
/-- A point's text. -/
def textP (p : Pt) : List UInt8 := if p.ok then Lib.itoa p.x ++ ((if p.y < 0 then 45 else 43) :: (Lib.itoa (p.y.natAbs : Int) ++ [105])) else []
theorem text_is (a b : Nat) (w : World) (ht : Tab w) : Calls Tryd.prog 13 #[.complex .f64 a b] w fun e w' => e = .returned (.string ⟨(textP (ptOf a b)).toArray⟩) ∧ Below w.heap.size w w' := by
  have i1 := ptOf_in a b
  have T := Lib.hid ht; clear ht
  generalize hp : ptOf a b = p at i1 ⊢
  obtain ⟨x, y, ok⟩ := p
  obtain ⟨x0, x1, y0, y1⟩ := i1
  simp only at x0 x1 y0 y1
  have lx := Lib.itoa_length_le x (by omega) (by omega)
  have ly := Lib.itoa_length_le (y.natAbs : Int) (by omega) (by omega)
  have Hp := Lib.hid hp; clear hp
  cases ok
  · go_enter Tryd.func13, Tryd.ntmps13
    go_wp2_with fail
    refine (parts_is a b _).mono ?_; rintro e w' ⟨rfl, rfl⟩
    rw [Hp.out]
    go_wp2
    go_ret
    exact ⟨rfl, Below.refl _ _⟩
  · by_cases hy : y < 0
    · have hz : textP ⟨x, y, true⟩ = Lib.itoa x ++ (45 :: (Lib.itoa (y.natAbs : Int) ++ [105])) := by unfold textP; rw [if_pos rfl]; simp only; rw [if_pos hy]
      have Hz := Lib.hid hz; clear hz
      go_enter Tryd.func13, Tryd.ntmps13
      go_wp2_with fail
      refine (parts_is a b _).mono ?_; rintro e w' ⟨rfl, rfl⟩
      rw [Hp.out]
      go_wp2_with fail
      refine (itoa_is x (by omega) (by omega) _ T.out).mono ?_; rintro e w1 ⟨rfl, b1⟩
      go_wp2_with fail
      refine (size_is y (by omega) (by omega) _).mono ?_; rintro e w' ⟨rfl, rfl⟩
      go_wp2_with fail
      refine (itoa_is _ (by omega) (by omega) _ (tab_below T.out b1)).mono ?_; rintro e w2 ⟨rfl, b2⟩
      go_wp2
      go_ret
      exact ⟨ret_str (by rw [Hz.out, str_one, str_one, str_app, str_app, str_app]; simp), b1.trans (b2.mono b1.size)⟩
    · have hz : textP ⟨x, y, true⟩ = Lib.itoa x ++ (43 :: (Lib.itoa (y.natAbs : Int) ++ [105])) := by unfold textP; rw [if_pos rfl]; simp only; rw [if_neg hy]
      have Hz := Lib.hid hz; clear hz
      go_enter Tryd.func13, Tryd.ntmps13
      go_wp2_with fail
      refine (parts_is a b _).mono ?_; rintro e w' ⟨rfl, rfl⟩
      rw [Hp.out]
      go_wp2_with fail
      refine (itoa_is x (by omega) (by omega) _ T.out).mono ?_; rintro e w1 ⟨rfl, b1⟩
      go_wp2_with fail
      refine (size_is y (by omega) (by omega) _).mono ?_; rintro e w' ⟨rfl, rfl⟩
      go_wp2_with fail
      refine (itoa_is _ (by omega) (by omega) _ (tab_below T.out b1)).mono ?_; rintro e w2 ⟨rfl, b2⟩
      go_wp2
      go_ret
      exact ⟨ret_str (by rw [Hz.out, str_one, str_one, str_app, str_app, str_app]; simp), b1.trans (b2.mono b1.size)⟩
/-- A letter again and again. -/
def rep (c : UInt8) (n : Int) : List UInt8 := List.replicate n.toNat c
theorem rep_len (c : UInt8) (n : Int) : (rep c n).length = n.toNat := by simp [rep]
theorem rep_neg {c : UInt8} {n : Int} (h : n ≤ 0) : rep c n = [] := by unfold rep; rw [show n.toNat = 0 by omega]; rfl
theorem repeat_rep (c : UInt8) (n : Nat) : Lib.repeatL [c] n = rep c n := by
  unfold rep
  induction n with
  | zero => rfl
  | succ n ih => rw [Lib.repeatL, ih]; simp [List.replicate_succ]
theorem letters_is (n : Int) (h0 : -64 ≤ n) (h1 : n ≤ 64) (c d : UInt8) (w : World) : Calls Tryd.prog 37 #[.int .i64 n, .string ⟨#[c]⟩, .string ⟨#[d]⟩] w fun e w' => e = .returned (.string ⟨(rep c n ++ rep d (-n)).toArray⟩) ∧ Below w.heap.size w w' := by
  by_cases hn : n < 0
  · have hz : rep c n ++ rep d (-n) = Lib.repeatL [d] (-n).toNat := by rw [rep_neg (c := c) (by omega), repeat_rep, show (((-n).toNat : Nat) : Int) = -n by omega]; rfl
    have hr := Tryd.strings_Repeat ⟨#[d]⟩ (-n).toNat
    rw [show (((-n).toNat : Nat) : Int) = -n by omega] at hr
    have Hz := Lib.hid hz; clear hz
    have Hr := Lib.hid hr; clear hr
    go_enter Tryd.func37, Tryd.ntmps37
    go_wp2_with fail
    refine (Hr.out _ (by omega) (by simp [ByteArray.size]; omega)).mono ?_; rintro e w1 ⟨rfl, b1⟩
    go_wp2
    go_ret
    exact ⟨ret_str (by rw [Hz.out]), b1⟩
  · have hz : rep c n ++ rep d (-n) = Lib.repeatL [c] n.toNat := by rw [rep_neg (c := d) (by omega), repeat_rep, show ((n.toNat : Nat) : Int) = n by omega]; simp
    have hr := Tryd.strings_Repeat ⟨#[c]⟩ n.toNat
    rw [show ((n.toNat : Nat) : Int) = n by omega] at hr
    have Hz := Lib.hid hz; clear hz
    have Hr := Lib.hid hr; clear hr
    go_enter Tryd.func37, Tryd.ntmps37
    go_wp2_with fail
    refine (Hr.out _ (by omega) (by simp [ByteArray.size]; omega)).mono ?_; rintro e w1 ⟨rfl, b1⟩
    go_wp2
    go_ret
    exact ⟨ret_str (by rw [Hz.out]), b1⟩
/-- The way by so much. -/
def wayL (dx dy : Int) : List UInt8 := (rep 114 dx ++ rep 108 (-dx)) ++ (rep 100 dy ++ rep 117 (-dy))
def wayP (dx dy : Int) : List UInt8 × Int := if dx.natAbs + dy.natAbs ≤ 64 then (wayL dx dy, 0) else ([], 6)
/-- A word of a whole number, within. -/
structure Pw (a b : Nat) (x y : Int) : Prop where
  wx : Whole a x
  wy : Whole b y
  x0 : -1048576 ≤ x
  x1 : x ≤ 1048576
  y0 : -1048576 ≤ y
  y1 : y ≤ 1048576
theorem Pw.pt {a b : Nat} {x y : Int} (h : Pw a b x y) : ptOf a b = ⟨x, y, true⟩ := by
  rw [ptOf_whole h.wx h.wy]
  unfold Fl.mk isPart
  rw [decide_eq_true ⟨h.x0, h.x1⟩, decide_eq_true ⟨h.y0, h.y1⟩]; rfl
theorem pw_fi {x y : Int} (x0 : -1048576 ≤ x) (x1 : x ≤ 1048576) (y0 : -1048576 ≤ y) (y1 : y ≤ 1048576) : Pw (floatOfInt .f64 x) (floatOfInt .f64 y) x y :=
  ⟨whole_ofInt (by omega), whole_ofInt (by omega), x0, x1, y0, y1⟩
theorem ret_way {s t : ByteArray} {a b : Int} (h : s = t) (g : a = b) : Ending.returned (.tuple #[.string s, .int .i64 a]) = .returned (.tuple #[.string t, .int .i64 b]) := by rw [h, g]
theorem isPoint_yes {a b : Nat} {x y : Int} (h : Pw a b x y) (w : World) : Calls Tryd.prog 32 #[.complex .f64 a b] w fun e w' => e = .returned (.bool true) ∧ w = w' := by
  have := isPoint_is a b w
  rwa [h.pt] at this
theorem parts_of {a b : Nat} {p : Pt} (h : ptOf a b = p) (w : World) : Calls Tryd.prog 7 #[.complex .f64 a b] w fun e w' => e = .returned (.tuple #[.int .i64 p.x, .int .i64 p.y, .bool p.ok]) ∧ w = w' := h ▸ parts_is a b w
theorem way_is {a b c d : Nat} {x y v u : Int} (hA : Pw a b x y) (hB : Pw c d v u) (w : World) : Calls Tryd.prog 22 #[.complex .f64 a b, .complex .f64 c d] w fun e w' =>
    e = .returned (.tuple #[.string ⟨(wayP (v - x) (u - y)).1.toArray⟩, .int .i64 (wayP (v - x) (u - y)).2]) ∧ Below w.heap.size w w' := by
  obtain ⟨a0, a1, a2, a3⟩ : (-1048576 ≤ x ∧ x ≤ 1048576) ∧ (-1048576 ≤ y ∧ y ≤ 1048576) ∧ (-1048576 ≤ v ∧ v ≤ 1048576) ∧ (-1048576 ≤ u ∧ u ≤ 1048576) := ⟨⟨hA.x0, hA.x1⟩, ⟨hA.y0, hA.y1⟩, ⟨hB.x0, hB.x1⟩, ⟨hB.y0, hB.y1⟩⟩
  obtain ⟨re, im, e, w1, w2⟩ := csub_whole hB.wx hB.wy hA.wx hA.wy (by omega) (by omega)
  have hc : ∀ w : World, (binOp .sub 25 (.complex .f64 c d) (.complex .f64 a b)).run Tryd.prog w = .ok (.complex .f64 re im) w := fun w => run_complex_sum w .sub (.inr rfl) 25 .f64 c d a b re im e
  have hpt := ptOf_whole w1 w2
  clear e w1 w2
  have HA := Lib.hid hA; clear hA
  have HB := Lib.hid hB; clear hB
  generalize hdx : v - x = dx at hpt ⊢
  generalize hdy : u - y = dy at hpt ⊢
  have b1 : -2097152 ≤ dx ∧ dx ≤ 2097152 := by omega
  have b2 : -2097152 ≤ dy ∧ dy ≤ 2097152 := by omega
  clear hdx hdy
  have l1 := rep_len 114 dx
  have l2 := rep_len 108 (-dx)
  have l3 := rep_len 100 dy
  have l4 := rep_len 117 (-dy)
  by_cases hin : -1048576 ≤ dx ∧ dx ≤ 1048576 ∧ -1048576 ≤ dy ∧ dy ≤ 1048576
  · have hpt' : ptOf re im = ⟨dx, dy, true⟩ := by
      rw [hpt]; unfold Fl.mk isPart
      rw [decide_eq_true ⟨hin.1, hin.2.1⟩, decide_eq_true ⟨hin.2.2.1, hin.2.2.2⟩]; rfl
    have Hpt := Lib.hid hpt'; clear hpt hpt'
    by_cases hs : dx.natAbs + dy.natAbs ≤ 64
    · have hz : wayP dx dy = (wayL dx dy, 0) := by unfold wayP; rw [if_pos hs]
      have Hz := Lib.hid hz; clear hz
      have hs' : decide ((64 : Int) < (dx.natAbs : Int) + (dy.natAbs : Int)) = false := by rw [decide_eq_false_iff_not]; omega
      go_enter Tryd.func22, Tryd.ntmps22
      go_wp2_with fail
      refine (isPoint_yes HA.out _).mono ?_; rintro e w' ⟨rfl, rfl⟩
      go_wp2_with fail
      refine (isPoint_yes HB.out _).mono ?_; rintro e w' ⟨rfl, rfl⟩
      go_wp2_with fail
      refine (parts_of Hpt.out _).mono ?_; rintro e w' ⟨rfl, rfl⟩
      go_wp2_with fail
      refine (size_is dx (by omega) (by omega) _).mono ?_; rintro e w' ⟨rfl, rfl⟩
      go_wp2_with fail
      refine (size_is dy (by omega) (by omega) _).mono ?_; rintro e w' ⟨rfl, rfl⟩
      go_wp2_with fail
      refine (letters_is dx (by omega) (by omega) 114 108 _).mono ?_; rintro e w1 ⟨rfl, b1⟩
      go_wp2_with fail
      refine (letters_is dy (by omega) (by omega) 100 117 _).mono ?_; rintro e w2 ⟨rfl, b2⟩
      go_wp2
      go_ret2
      exact ⟨by rw [Hz.out]; exact ret_way (by rw [str_app]; rfl) rfl, b1.trans (b2.mono b1.size)⟩
    · have hz : wayP dx dy = ([], 6) := by unfold wayP; rw [if_neg hs]
      have Hz := Lib.hid hz; clear hz
      have hs' : decide ((64 : Int) < (dx.natAbs : Int) + (dy.natAbs : Int)) = true := by rw [decide_eq_true_iff]; omega
      go_enter Tryd.func22, Tryd.ntmps22
      go_wp2_with fail
      refine (isPoint_yes HA.out _).mono ?_; rintro e w' ⟨rfl, rfl⟩
      go_wp2_with fail
      refine (isPoint_yes HB.out _).mono ?_; rintro e w' ⟨rfl, rfl⟩
      go_wp2_with fail
      refine (parts_of Hpt.out _).mono ?_; rintro e w' ⟨rfl, rfl⟩
      go_wp2_with fail
      refine (size_is dx (by omega) (by omega) _).mono ?_; rintro e w' ⟨rfl, rfl⟩
      go_wp2_with fail
      refine (size_is dy (by omega) (by omega) _).mono ?_; rintro e w' ⟨rfl, rfl⟩
      go_wp2
      go_ret2
      exact ⟨by rw [Hz.out]; rfl, Below.refl _ _⟩
  · have hpt' : ptOf re im = ⟨0, 0, false⟩ := by
      rw [hpt]; unfold Fl.mk isPart
      rw [if_neg]
      simp only [Bool.and_eq_true, decide_eq_true_eq]; omega
    have Hpt := Lib.hid hpt'; clear hpt hpt'
    have hz : wayP dx dy = ([], 6) := by unfold wayP; rw [if_neg (by omega)]
    have Hz := Lib.hid hz; clear hz hin
    go_enter Tryd.func22, Tryd.ntmps22
    go_wp2_with fail
    refine (isPoint_yes HA.out _).mono ?_; rintro e w' ⟨rfl, rfl⟩
    go_wp2_with fail
    refine (isPoint_yes HB.out _).mono ?_; rintro e w' ⟨rfl, rfl⟩
    go_wp2_with fail
    refine (parts_of Hpt.out _).mono ?_; rintro e w' ⟨rfl, rfl⟩
    go_wp2
    go_ret2
    exact ⟨by rw [Hz.out]; rfl, Below.refl _ _⟩
end Go.Proofs.YtmbdaaiknjebmaaDoor
