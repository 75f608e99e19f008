/- kevelref04's points: parts, Of, Is. Own work. -/
import Derived.Test.YteppjedgeabmeaaPlane
import Derived.Handy
namespace Go.Proofs.Yteppjedgeabmeaa
open Go.ChangeShapes Go.WideShapes Go.ChangeAt Go.RowKit Fl

def pv (p : Pt) : Value := .agg #[.int .i64 p.x, .int .i64 p.y, .bool p.ok]
/-- What part answers. -/
def PartAns (a : Nat) (e : Ending) : Prop := ∃ n b, e = .returned (.tuple #[.int .i64 n, .bool b]) ∧ partO a = (if b = true then some n else none)
theorem low_sc {lo k v : Int} (h0 : lo * (sc 0 : Int) ≤ v) (h1 : v < (lo + 1) * (sc 0 : Int)) (hk : v = k * sc 0) : lo = k := by
  have hs := sc_pos 0
  rw [hk] at h0 h1
  have := Int.le_of_mul_le_mul_right h0 (by omega)
  have := Int.lt_of_mul_lt_mul_right h1 (by omega)
  omega
theorem partR_is (a : Nat) (w : World) : Calls Try.prog 18 #[.float .f64 a] w fun e w' => PartAns a e ∧ w = w' := by
  rcases part_tests a with ⟨h1, hp⟩ | ⟨h1, h2, hp⟩ | ⟨h1, h2, h3, hp⟩ | ⟨h1, h2, h3, v, hv, hlo, hhi⟩
  · go_enter Try.func18, Try.ntmps18
    go_wp2
    go_ret2
    exact ⟨⟨0, false, rfl, hp⟩, rfl⟩
  · go_enter Try.func18, Try.ntmps18
    go_wp2
    go_ret2
    exact ⟨⟨0, false, rfl, hp⟩, rfl⟩
  · go_enter Try.func18, Try.ntmps18
    go_wp2
    go_ret2
    exact ⟨⟨0, false, rfl, hp⟩, rfl⟩
  · have Hlo := Lib.hid hlo
    have Hhi : Hid (v < (1048576 + 1) * (sc 0 : Int)) := Lib.hid (by have := sc_pos 0; omega)
    have Hv := Lib.hid hv
    clear hlo hhi hv
    go_enter Try.func18, Try.ntmps18
    go_wp2_with fail
    go_loopw [4, 5] (fun x y wr => ∃ lo hi : Int, x = .int .i64 lo ∧ y = .int .i64 hi ∧ -1048576 ≤ lo ∧ lo ≤ hi ∧ hi ≤ 1048576 ∧ Hid (lo * (sc 0 : Int) ≤ v) ∧ Hid (v < (hi + 1) * (sc 0 : Int)) ∧ w = wr) (fun x y _ => (intOf y - intOf x).toNat)
    case atStart => exact ⟨-1048576, 1048576, rfl, rfl, by omega, by omega, by omega, Hlo, Hhi, rfl⟩
    case round =>
      obtain ⟨lo, hi, rfl, rfl, b0, b1, b2, H0, H1, rfl⟩ := hrel
      by_cases hlt : lo < hi
      · obtain ⟨m, hm⟩ : ∃ m, m = lo + (hi - lo + 1) / 2 := ⟨_, rfl⟩
        have hm0 : lo < m := by omega
        have hm1 : m ≤ hi := by omega
        have ht := leq_test (n := m) Hv.out (by omega)
        rw [hm] at ht
        by_cases hle : m * (sc 0 : Int) ≤ v
        · rw [← hm, decide_eq_true hle, hm] at ht
          have Hm := Lib.hid hle; clear hle
          go_wp2_with fail
          refine ⟨⟨m, hi, by rw [hm], rfl, by omega, hm1, b2, Hm, H1, trivial⟩, by simp [intOf]; omega⟩
        · rw [← hm, decide_eq_false hle, hm] at ht
          have Hm : Hid (v < ((m - 1) + 1) * (sc 0 : Int)) := Lib.hid (by rw [Int.sub_add_cancel]; omega)
          clear hle
          go_wp2_with fail
          refine ⟨⟨lo, m - 1, rfl, by rw [hm], b0, by omega, by omega, H0, Hm, trivial⟩, by simp [intOf]; omega⟩
      · obtain rfl : lo = hi := by omega
        have ht := eql_test (n := lo) Hv.out (by omega)
        have hk : ∀ k, v = k * sc 0 → lo = k := fun k hk => low_sc H0.out H1.out hk
        have Hp := Lib.hid (part_of_test Hv.out hk ⟨b0, b2⟩); clear hk
        generalize hq : decide (lo * (sc 0 : Int) = v) = q at ht Hp
        clear hq
        go_wp2
        go_ret2
        exact ⟨⟨lo, q, rfl, Hp.out⟩, rfl⟩
theorem ofR_is (a b : Nat) (w : World) : Calls Try.prog 6 #[.float .f64 a, .float .f64 b] w fun e w' => e = .returned (pv (ptOf a b)) ∧ Below w.heap.size w w' := by
  go_enter Try.func6, Try.ntmps6
  go_wp2_with fail
  refine (partR_is a _).mono ?_; rintro e w' ⟨⟨n, q, rfl, hp⟩, rfl⟩
  have Hp := Lib.hid hp; clear hp
  go_wp2_with fail
  refine (partR_is b _).mono ?_; rintro e w' ⟨⟨k, r, rfl, hr⟩, rfl⟩
  have Hr := Lib.hid hr; clear hr
  cases q
  · go_wp2
    refine bodyPost_ret (v := pv ⟨0, 0, false⟩) (by simp [results, Try.results6, go_sem]; rfl) rfl ⟨?_, by go_grown⟩
    unfold ptOf; rw [Hp.out]; rfl
  · cases r
    · go_wp2
      refine bodyPost_ret (v := pv ⟨0, 0, false⟩) (by simp [results, Try.results6, go_sem]; rfl) rfl ⟨?_, by go_grown⟩
      unfold ptOf; rw [Hp.out, Hr.out]; rfl
    · go_wp2
      refine bodyPost_ret (v := pv ⟨n, k, true⟩) (by simp [results, Try.results6, go_sem]; rfl) rfl ⟨?_, by go_grown⟩
      unfold ptOf; rw [Hp.out, Hr.out]; rfl
/-- Whether a point is just this one: it is. -/
theorem isR_is (p : Pt) (hp : p.In) (w : World) : Calls Try.prog 21 #[.float .f64 (floatOfInt .f64 p.x), .float .f64 (floatOfInt .f64 p.y), pv p] w fun e w' => e = .returned (.bool true) ∧ Below w.heap.size w w' := by
  obtain ⟨x, y, ok⟩ := p
  obtain ⟨x0, x1, y0, y1⟩ := hp
  simp only at x0 x1 y0 y1
  unfold pv
  simp only
  have t1 := neq_whole (whole_ofInt (n := x) (by omega)) (whole_ofInt (n := x) (by omega))
  have t2 := neq_whole (whole_ofInt (n := y) (by omega)) (whole_ofInt (n := y) (by omega))
  rw [decide_eq_false (by omega)] at t1 t2
  have z1 := neq_whole (whole_ofInt (n := x) (by omega)) whole_zero
  have z2 := neq_whole (whole_ofInt (n := y) (by omega)) whole_zero
  have hq : ∀ w : World, (binOp .quo 22 (.float .f64 4607182418800017408) (.float .f64 (floatOfInt .f64 0))).run Try.prog w = .ok (.float .f64 9218868437227405312) w := fun w => run_float_arith w .quo 22 .f64 _ _ _ (by rw [fi_zero]; exact quo_zero)
  have hg : (FloatKind.f64.format.order 9218868437227405312 0 == some .gt) = true := by rw [show FloatKind.f64.format = Ieee.double from rfl, ord_inf_zero]; rfl
  by_cases hx : x = 0
  · subst hx
    rw [decide_eq_false (by omega)] at z1
    by_cases hy : y = 0
    · subst hy
      rw [decide_eq_false (by omega)] at z2
      go_enter Try.func21, Try.ntmps21
      go_wp2
      go_ret
      exact ⟨rfl, by go_grown⟩
    · rw [decide_eq_true hy] at z2
      go_enter Try.func21, Try.ntmps21
      go_wp2
      go_ret
      exact ⟨rfl, by go_grown⟩
  · rw [decide_eq_true hx] at z1
    by_cases hy : y = 0
    · subst hy
      rw [decide_eq_false (by omega)] at z2
      go_enter Try.func21, Try.ntmps21
      go_wp2
      go_ret
      exact ⟨rfl, by go_grown⟩
    · rw [decide_eq_true hy] at z2
      go_enter Try.func21, Try.ntmps21
      go_wp2
      go_ret
      exact ⟨rfl, by go_grown⟩
/-- A block of a point's parts. -/
structure Box (w : World) (b : Nat) (p : Pt) : Prop where
  c0 : w.cell? ⟨b, 0, none⟩ = some (.int .i64 p.x)
  c1 : w.cell? ⟨b, 1, none⟩ = some (.int .i64 p.y)
  c2 : w.cell? ⟨b, 2, none⟩ = some (.bool p.ok)
  lt : b < w.heap.size
theorem Box.below {w w' : World} {b B : Nat} {p : Pt} (h : Box w b p) (hb : Below B w w') (hlt : b < B) : Box w' b p :=
  ⟨(hb.cell hlt).trans h.c0, (hb.cell hlt).trans h.c1, (hb.cell hlt).trans h.c2, Nat.lt_of_lt_of_le h.lt hb.size⟩
theorem box_new (w : World) (x y : Int) (ok : Bool) (t : TypeId) : Box (w.alloc (Obj.cells #[.int .i64 x, .int .i64 y, .bool ok] t)) w.heap.size ⟨x, y, ok⟩ :=
  ⟨by simp [World.cell?_alloc_at], by simp [World.cell?_alloc_at], by simp [World.cell?_alloc_at], by simp⟩
theorem box_past {w : World} {b : Nat} {p : Pt} (h : Box w b p) (o : Obj) : Box (w.alloc o) b p := by
  have hb := (Below.refl w.heap.size w).alloc (Nat.le_refl _) o
  exact h.below hb h.lt
end Go.Proofs.Yteppjedgeabmeaa
