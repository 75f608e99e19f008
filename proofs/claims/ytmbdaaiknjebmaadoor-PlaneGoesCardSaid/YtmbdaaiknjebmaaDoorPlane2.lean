/- Contracts of plane's turning, products and norms. Own work. -/
import Derived.Test.YtmbdaaiknjebmaaDoorPlane
namespace Go.Proofs.YtmbdaaiknjebmaaDoor
open Go.ChangeShapes Go.WideShapes Go.ChangeAt Go.RowKit Fl

theorem ret_cb {a b a' b' : Nat} {c c' : Bool} (h1 : a = a') (h2 : b = b') (h3 : c = c') : Ending.returned (.tuple #[.complex .f64 a b, .bool c]) = .returned (.tuple #[.complex .f64 a' b', .bool c']) := by rw [h1, h2, h3]
theorem point_is (a b : Nat) (w : World) : Calls Tryd.prog 27 #[.complex .f64 a b] w fun e w' => e = .returned (.tuple #[.complex .f64 (floatOfInt .f64 (ptOf a b).x) (floatOfInt .f64 (ptOf a b).y), .bool (ptOf a b).ok]) ∧ w = w' := by
  have hI := Lib.hid (ptOf_in a b)
  go_enter Tryd.func27, Tryd.ntmps27
  go_wp2_with fail
  refine (parts_is a b _).mono ?_; rintro e w' ⟨rfl, rfl⟩
  go_wp2_with fail
  refine (at_is _ _ _).mono ?_; rintro e w' ⟨rfl, rfl⟩
  go_wp2
  go_ret2
  have h := hI.out
  exact ⟨ret_cb (by rw [cl_id ⟨h.x0, h.x1⟩]) (by rw [cl_id ⟨h.y0, h.y1⟩]) rfl, rfl⟩
theorem isPoint_is (a b : Nat) (w : World) : Calls Tryd.prog 32 #[.complex .f64 a b] w fun e w' => e = .returned (.bool (ptOf a b).ok) ∧ w = w' := by
  go_enter Tryd.func32, Tryd.ntmps32
  go_wp2_with fail
  refine (parts_is a b _).mono ?_; rintro e w' ⟨rfl, rfl⟩
  go_wp2
  go_ret
  exact ⟨rfl, rfl⟩
def rotN : Nat → Pt → Pt
  | 0, p => p
  | j + 1, p => rot (rotN j p)
theorem and3 (k : Int) : bits .and .i64 k 3 = (((k % 4).toNat : Nat) : Int) := by
  unfold bits
  show IntKind.i64.wrap ((BitVec.ofInt 64 k &&& BitVec.ofInt 64 3).toNat : Int) = _
  rw [BitVec.toNat_and, BitVec.toNat_ofInt, show (BitVec.ofInt 64 3).toNat = 2 ^ 2 - 1 by decide, Nat.and_two_pow_sub_one_eq_mod]
  simp only [IntKind.wrap, IntKind.bits, IntKind.signed]
  generalize hn : ((k % ((2 ^ 64 : Nat) : Int)).toNat % 2 ^ 2 : Nat) = n
  have h4 : n = (k % 4).toNat := by omega
  rw [← h4]
  have : n < 4 := by omega
  simp
  omega
theorem turn_is (a b : Nat) (k : Int) (w : World) : Calls Tryd.prog 9 #[.complex .f64 a b, .int .i64 k] w fun e w' =>
    e = .returned (.complex .f64 (floatOfInt .f64 (rotN (k % 4).toNat (ptOf a b)).x) (floatOfInt .f64 (rotN (k % 4).toNat (ptOf a b)).y)) ∧ Below w.heap.size w w' := by
  have h3 := and3 k
  have hm4 : (k % 4).toNat < 4 := by omega
  generalize hm : (k % 4).toNat = m at h3 hm4 ⊢
  clear hm
  go_enter Tryd.func9, Tryd.ntmps9
  go_wp2_with fail
  go_loopw [0, 9] (fun z i wr => ∃ (j : Nat) (c d : Nat), j ≤ m ∧ z = .complex .f64 c d ∧ i = .int .i64 j ∧ Hid (ptOf c d = rotN j (ptOf a b)) ∧ Below w.heap.size w wr) (fun _ i _ => m - (intOf i).toNat)
  case atStart => exact ⟨0, a, b, by omega, rfl, rfl, Lib.hid rfl, Below.refl _ _⟩
  case round =>
    obtain ⟨j, c, d, hj, rfl, rfl, Hp, hB⟩ := hrel
    by_cases hlt : j < m
    · obtain ⟨c2, d2, n, hrun, hp2⟩ := run_mul_i (P := Tryd.prog) 25 c d wr
      have Hp2 := Lib.hid hp2; clear hp2
      go_wp2_with fail
      go_roundw
      case rel => exact ⟨j + 1, c2, d2, by omega, rfl, by go_num, Lib.hid (by rw [Hp2.out, Hp.out]; rfl), below_drewN hB n⟩
      case measure => simp [intOf]; omega
    · obtain rfl : j = m := by omega
      go_wp2_with fail
      refine (point_is c d _).mono ?_; rintro e w' ⟨rfl, rfl⟩
      go_wp2
      go_ret
      exact ⟨by rw [Hp.out]; rfl, hB⟩

/-- The product of two points. -/
def prodP (p q : Pt) : Pt := if p.ok && q.ok then mk (p.x * q.x - p.y * q.y) (p.x * q.y + p.y * q.x) else ⟨0, 0, false⟩
theorem mul_bound {x y : Int} (h0 : -1048576 ≤ x) (h1 : x ≤ 1048576) (g0 : -1048576 ≤ y) (g1 : y ≤ 1048576) : -1099511627776 ≤ x * y ∧ x * y ≤ 1099511627776 := by
  have h : (x * y).natAbs ≤ 1048576 * 1048576 := by rw [Int.natAbs_mul]; exact Nat.mul_le_mul (by omega) (by omega)
  omega
theorem times_run {a b c d : Nat} (h : (ptOf a b).ok = true) (g : (ptOf c d).ok = true) : ∃ re im, cMulBits a b c d = some (re, im) ∧ ptOf re im = prodP (ptOf a b) (ptOf c d) := by
  obtain ⟨ha, hb⟩ := ptOf_some h
  obtain ⟨hc, hd⟩ := ptOf_some g
  have i1 := ptOf_in a b
  have i2 := ptOf_in c d
  have m1 := mul_bound i1.x0 i1.x1 i2.x0 i2.x1
  have m2 := mul_bound i1.y0 i1.y1 i2.y0 i2.y1
  have m3 := mul_bound i1.x0 i1.x1 i2.y0 i2.y1
  have m4 := mul_bound i1.y0 i1.y1 i2.x0 i2.x1
  obtain ⟨re, im, e, w1, w2⟩ := cmul_whole ha hb hc hd (by omega) (by omega) (by omega) (by omega) (by omega) (by omega)
  refine ⟨re, im, e, ?_⟩
  rw [ptOf_whole w1 w2]
  unfold prodP
  rw [h, g]; rfl
theorem times_is (a b c d : Nat) (w : World) : Calls Tryd.prog 15 #[.complex .f64 a b, .complex .f64 c d] w fun e w' =>
    e = .returned (.tuple #[.complex .f64 (floatOfInt .f64 (prodP (ptOf a b) (ptOf c d)).x) (floatOfInt .f64 (prodP (ptOf a b) (ptOf c d)).y), .bool (prodP (ptOf a b) (ptOf c d)).ok]) ∧ w = w' := by
  cases hp : (ptOf a b).ok with
  | false =>
    have hz : prodP (ptOf a b) (ptOf c d) = ⟨0, 0, false⟩ := by unfold prodP; rw [hp]; rfl
    have Hz := Lib.hid hz; clear hz
    go_enter Tryd.func15, Tryd.ntmps15
    go_wp2_with fail
    refine (isPoint_is a b _).mono ?_; rintro e w' ⟨rfl, rfl⟩
    rw [hp]
    go_wp2
    go_ret2
    exact ⟨by rw [Hz.out]; exact ret_cb fi_zero.symm fi_zero.symm rfl, rfl⟩
  | true =>
    cases hq : (ptOf c d).ok with
    | false =>
      have hz : prodP (ptOf a b) (ptOf c d) = ⟨0, 0, false⟩ := by unfold prodP; rw [hp, hq]; rfl
      have Hz := Lib.hid hz; clear hz
      go_enter Tryd.func15, Tryd.ntmps15
      go_wp2_with fail
      refine (isPoint_is a b _).mono ?_; rintro e w' ⟨rfl, rfl⟩
      rw [hp]
      go_wp2_with fail
      refine (isPoint_is c d _).mono ?_; rintro e w' ⟨rfl, rfl⟩
      rw [hq]
      go_wp2
      go_ret2
      exact ⟨by rw [Hz.out]; exact ret_cb fi_zero.symm fi_zero.symm rfl, rfl⟩
    | true =>
      obtain ⟨re, im, hm, hr⟩ := times_run hp hq
      have hc : ∀ w : World, (binOp .mul 25 (.complex .f64 a b) (.complex .f64 c d)).run Tryd.prog w = .ok (.complex .f64 re im) w := fun w => run_complex_mul w 25 a b c d re im hm
      have Hr := Lib.hid hr; clear hr hm
      go_enter Tryd.func15, Tryd.ntmps15
      go_wp2_with fail
      refine (isPoint_is a b _).mono ?_; rintro e w' ⟨rfl, rfl⟩
      rw [hp]
      go_wp2_with fail
      refine (isPoint_is c d _).mono ?_; rintro e w' ⟨rfl, rfl⟩
      rw [hq]
      go_wp2_with fail
      refine (point_is re im _).mono ?_; rintro e w' ⟨rfl, rfl⟩
      go_wp2
      go_ret2
      exact ⟨by rw [Hr.out]; rfl, rfl⟩
def normP (p : Pt) : Int := if p.ok then p.x * p.x + p.y * p.y else -1
theorem norm_is (a b : Nat) (w : World) : Calls Tryd.prog 11 #[.complex .f64 a b] w fun e w' => e = .returned (.int .i64 (normP (ptOf a b))) ∧ w = w' := by
  have i1 := ptOf_in a b
  have m1 := mul_bound i1.x0 i1.x1 i1.x0 i1.x1
  have m2 := mul_bound i1.y0 i1.y1 i1.y0 i1.y1
  cases hp : (ptOf a b).ok with
  | false =>
    have hz : normP (ptOf a b) = -1 := by unfold normP; rw [hp]; rfl
    have Hz := Lib.hid hz; clear hz
    go_enter Tryd.func11, Tryd.ntmps11
    go_wp2_with fail
    refine (parts_is a b _).mono ?_; rintro e w' ⟨rfl, rfl⟩
    rw [hp]
    go_wp2
    go_ret
    exact ⟨ret_int Hz.out.symm, rfl⟩
  | true =>
    have hz : normP (ptOf a b) = (ptOf a b).x * (ptOf a b).x + (ptOf a b).y * (ptOf a b).y := by unfold normP; rw [hp]; rfl
    have Hz := Lib.hid hz; clear hz
    go_enter Tryd.func11, Tryd.ntmps11
    go_wp2_with fail
    refine (parts_is a b _).mono ?_; rintro e w' ⟨rfl, rfl⟩
    rw [hp]
    go_wp2
    go_ret
    exact ⟨ret_int Hz.out.symm, rfl⟩
theorem size_is (n : Int) (h0 : -4611686018427387904 ≤ n) (h1 : n ≤ 4611686018427387904) (w : World) : Calls Tryd.prog 30 #[.int .i64 n] w fun e w' => e = .returned (.int .i64 n.natAbs) ∧ w = w' := by
  go_enter Tryd.func30, Tryd.ntmps30
  go_wp2
  all_goals go_ret
  all_goals exact ⟨ret_int (by omega), rfl⟩
/-- What a letter adds. -/
def stepOf (c : UInt8) : Option (Int × Int) := if c = 114 then some (1, 0) else if c = 108 then some (-1, 0) else if c = 100 then some (0, 1) else if c = 117 then some (0, -1) else none
theorem ret_cc {a b a' b' : Nat} (h1 : a' = a) (h2 : b' = b) : Ending.returned (.complex .f64 a b) = .returned (.complex .f64 a' b') := by rw [h1, h2]
theorem step_is (c : UInt8) (w : World) : Calls Tryd.prog 36 #[.int .u8 c.toNat] w fun e w' => e = .returned (.complex .f64 (floatOfInt .f64 ((stepOf c).getD (0, 0)).1) (floatOfInt .f64 ((stepOf c).getD (0, 0)).2)) ∧ w = w' := by
  by_cases h1 : c = 114
  · subst h1
    go_enter Tryd.func36, Tryd.ntmps36
    go_wp2
    go_ret
    exact ⟨ret_cc fi_one fi_zero, rfl⟩
  by_cases h2 : c = 108
  · subst h2
    go_enter Tryd.func36, Tryd.ntmps36
    go_wp2
    go_ret
    exact ⟨ret_cc fi_neg fi_zero, rfl⟩
  by_cases h3 : c = 100
  · subst h3
    go_enter Tryd.func36, Tryd.ntmps36
    go_wp2
    go_ret
    exact ⟨ret_cc fi_zero fi_one, rfl⟩
  by_cases h4 : c = 117
  · subst h4
    go_enter Tryd.func36, Tryd.ntmps36
    go_wp2
    go_ret
    exact ⟨ret_cc fi_zero fi_neg, rfl⟩
  have hz : stepOf c = none := by unfold stepOf; rw [if_neg h1, if_neg h2, if_neg h3, if_neg h4]
  have ne : ∀ d : UInt8, c ≠ d → (((c.toNat : Nat) : Int) == ((d.toNat : Nat) : Int)) = false := by
    intro d hd
    rw [beq_eq_false_iff_ne]
    intro h
    exact hd (UInt8.toNat_inj.1 (by omega))
  have e1 := ne 114 h1
  have e2 := ne 108 h2
  have e3 := ne 100 h3
  have e4 := ne 117 h4
  simp only [show ((UInt8.toNat 114 : Nat) : Int) = 114 from rfl, show ((UInt8.toNat 108 : Nat) : Int) = 108 from rfl, show ((UInt8.toNat 100 : Nat) : Int) = 100 from rfl, show ((UInt8.toNat 117 : Nat) : Int) = 117 from rfl] at e1 e2 e3 e4
  have Hz := Lib.hid hz; clear hz h1 h2 h3 h4 ne
  go_enter Tryd.func36, Tryd.ntmps36
  go_wp2
  go_ret
  exact ⟨by rw [Hz.out]; exact ret_cc fi_zero fi_zero, rfl⟩
end Go.Proofs.YtmbdaaiknjebmaaDoor
