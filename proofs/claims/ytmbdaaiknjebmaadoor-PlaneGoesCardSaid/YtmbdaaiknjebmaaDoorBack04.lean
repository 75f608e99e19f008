/- PlaneBack's walk. Own work. -/
import Derived.Test.YtmbdaaiknjebmaaDoorLaw04
namespace Go.Proofs.YtmbdaaiknjebmaaDoor
open Go.ChangeShapes Go.WideShapes Go.ChangeAt Go.RowKit Fl

theorem goL_rep {c : UInt8} {dx dy : Int} (hc : stepOf c = some (dx, dy)) (l : List UInt8) : ∀ (n : Nat) (x y : Int),
    (∀ j : Nat, j < n → isPart (x + dx * (j + 1)) = true ∧ isPart (y + dy * (j + 1)) = true) → goL (List.replicate n c ++ l) x y = goL l (x + dx * n) (y + dy * n)
  | 0, x, y, _ => by simp
  | n + 1, x, y, h => by
    rw [List.replicate_succ, List.cons_append, goL_step hc]
    have h0 := h 0 (by omega)
    simp only [Int.natCast_zero, Int.zero_add, Int.mul_one] at h0
    rw [if_pos (by rw [h0.1, h0.2]; rfl), goL_rep hc l n]
    · congr 1
      · grind
      · grind
    · intro j hj
      have := h (j + 1) (by omega)
      rw [show x + dx + dx * ((j : Int) + 1) = x + dx * (((j + 1 : Nat) : Int) + 1) by grind, show y + dy + dy * ((j : Int) + 1) = y + dy * (((j + 1 : Nat) : Int) + 1) by grind]
      exact this
theorem part_yes {n : Int} (h0 : -1048576 ≤ n) (h1 : n ≤ 1048576) : isPart n = true := by unfold isPart; rw [decide_eq_true ⟨h0, h1⟩]
theorem goL_way {x y v u : Int} (hx : -128 ≤ x ∧ x ≤ 128) (hy : -128 ≤ y ∧ y ≤ 128) (hv : -128 ≤ v ∧ v ≤ 128) (hu : -128 ≤ u ∧ u ≤ 128) : goL (wayL (v - x) (u - y)) x y = (⟨v, u, true⟩, 0) := by
  have e : wayL (v - x) (u - y) = List.replicate (v - x).toNat 114 ++ (List.replicate (-(v - x)).toNat 108 ++ (List.replicate (u - y).toNat 100 ++ (List.replicate (-(u - y)).toNat 117 ++ []))) := by
    unfold wayL rep; simp
  rw [e]
  rw [goL_rep (dx := 1) (dy := 0) rfl _ _ _ _ (fun j hj => ⟨part_yes (by omega) (by omega), part_yes (by omega) (by omega)⟩)]
  rw [goL_rep (dx := -1) (dy := 0) rfl _ _ _ _ (fun j hj => ⟨part_yes (by omega) (by omega), part_yes (by omega) (by omega)⟩)]
  rw [goL_rep (dx := 0) (dy := 1) rfl _ _ _ _ (fun j hj => ⟨part_yes (by omega) (by omega), part_yes (by omega) (by omega)⟩)]
  rw [goL_rep (dx := 0) (dy := -1) rfl _ _ _ _ (fun j hj => ⟨part_yes (by omega) (by omega), part_yes (by omega) (by omega)⟩)]
  unfold goL
  congr 2 <;> omega
theorem norm_prod (x y v u : Int) : (x * v - y * u) * (x * v - y * u) + (x * u + y * v) * (x * u + y * v) = (x * x + y * y) * (v * v + u * u) := by grind
theorem sq_low (x : Int) : 0 ≤ x * x := by
  rcases Int.le_total 0 x with h | h
  · exact Int.mul_nonneg h h
  · have := Int.mul_nonneg (show 0 ≤ -x by omega) (show 0 ≤ -x by omega)
    rwa [Int.neg_mul_neg] at this
theorem mul_128 {x y : Int} (hx : -128 ≤ x ∧ x ≤ 128) (hy : -128 ≤ y ∧ y ≤ 128) : -16384 ≤ x * y ∧ x * y ≤ 16384 := by
  have h : (x * y).natAbs ≤ 128 * 128 := by rw [Int.natAbs_mul]; exact Nat.mul_le_mul (by omega) (by omega)
  omega
theorem mul_32768 {a b : Int} (ha : 0 ≤ a ∧ a ≤ 32768) (hb : 0 ≤ b ∧ b ≤ 32768) : 0 ≤ a * b ∧ a * b ≤ 1073741824 := by
  have h : (a * b).natAbs ≤ 32768 * 32768 := by rw [Int.natAbs_mul]; exact Nat.mul_le_mul (by omega) (by omega)
  have := Int.mul_nonneg ha.1 hb.1
  omega
theorem rotN_four (p : Pt) : rotN 4 p = p := by
  obtain ⟨x, y, ok⟩ := p
  simp [rotN, rot]
theorem rotN_add (p : Pt) (i : Nat) : ∀ j, rotN j (rotN i p) = rotN (j + i) p
  | 0 => by rw [Nat.zero_add]; rfl
  | j + 1 => by rw [Nat.succ_add]; show rot (rotN j (rotN i p)) = rot (rotN (j + i) p); rw [rotN_add p i j]
theorem rotN_back (p : Pt) (k : Int) : rotN ((-k) % 4).toNat (rotN (k % 4).toNat p) = p := by
  rw [rotN_add]
  have : ((-k) % 4).toNat + (k % 4).toNat = 0 ∨ ((-k) % 4).toNat + (k % 4).toNat = 4 := by omega
  rcases this with h | h <;> rw [h]
  · rfl
  · exact rotN_four p
theorem normP_rot (p : Pt) : ∀ j, normP (rotN j p) = normP p
  | 0 => rfl
  | j + 1 => by
    show normP (rot (rotN j p)) = normP p
    rw [← normP_rot p j]
    unfold normP rot
    simp only
    split
    · grind
    · rfl
theorem at_of {x y : Int} (hx : -128 ≤ x ∧ x ≤ 128) (hy : -128 ≤ y ∧ y ≤ 128) (w : World) : Calls Tryd.prog 18 #[.int .i64 x, .int .i64 y] w fun e w' => e = .returned (.complex .f64 (floatOfInt .f64 x) (floatOfInt .f64 y)) ∧ w = w' := by
  have := at_is x y w
  rwa [cl_id (by omega), cl_id (by omega)] at this
set_option maxHeartbeats 2000000 in
theorem back_walk (x y v u k : Int) (hx : -128 ≤ x ∧ x ≤ 127) (hy : -128 ≤ y ∧ y ≤ 127) (hv : -128 ≤ v ∧ v ≤ 127) (hu : -128 ≤ u ∧ u ≤ 127) (hk : -2147483648 ≤ k ∧ k ≤ 2147483647) (w : World) (ht : Tab w) :
    Calls Tryd.prog 5 #[.agg #[.int .i8 x, .int .i8 y, .int .i8 v, .int .i8 u, .int .i32 k]] w fun e w' => e = .returned (.bool true) ∧ Below w.heap.size w w' := by
  have T := Lib.hid ht; clear ht
  have P1 := Lib.hid (pw_fi (x := x) (y := y) (by omega) (by omega) (by omega) (by omega))
  have P2 := Lib.hid (pw_fi (x := v) (y := u) (by omega) (by omega) (by omega) (by omega))
  have a1 := at_of (x := x) (y := y) (by omega) (by omega)
  have a2 := at_of (x := v) (y := u) (by omega) (by omega)
  have A1 := Lib.hid a1
  have A2 := Lib.hid a2
  clear a1 a2
  have hg := goL_way (x := x) (y := y) (v := v) (u := u) (by omega) (by omega) (by omega) (by omega)
  have m1 := mul_128 (x := x) (y := v) (by omega) (by omega)
  have m2 := mul_128 (x := y) (y := u) (by omega) (by omega)
  have m3 := mul_128 (x := x) (y := u) (by omega) (by omega)
  have m4 := mul_128 (x := y) (y := v) (by omega) (by omega)
  have s1 := mul_128 (x := x) (y := x) (by omega) (by omega)
  have s2 := mul_128 (x := y) (y := y) (by omega) (by omega)
  have s3 := mul_128 (x := v) (y := v) (by omega) (by omega)
  have s4 := mul_128 (x := u) (y := u) (by omega) (by omega)
  have n1 : 0 ≤ x * x ∧ 0 ≤ y * y ∧ 0 ≤ v * v ∧ 0 ≤ u * u := ⟨sq_low x, sq_low y, sq_low v, sq_low u⟩
  obtain ⟨N1, hN1⟩ : ∃ N, x * x + y * y = N := ⟨_, rfl⟩
  obtain ⟨N2, hN2⟩ : ∃ N, v * v + u * u = N := ⟨_, rfl⟩
  have hb := mul_32768 (a := N1) (b := N2) (by omega) (by omega)
  -- the product
  have pm : Hid (prodP (ptOf (floatOfInt .f64 x) (floatOfInt .f64 y)) (ptOf (floatOfInt .f64 v) (floatOfInt .f64 u)) = ⟨x * v - y * u, x * u + y * v, true⟩) := Lib.hid (by
    rw [P1.out.pt, P2.out.pt]; unfold prodP Fl.mk; simp only [Bool.and_self, if_true]
    rw [part_yes (by omega) (by omega), part_yes (by omega) (by omega)]; rfl)
  have P3 := Lib.hid (pw_fi (x := x * v - y * u) (y := x * u + y * v) (by omega) (by omega) (by omega) (by omega))
  have NM : Hid (normP (ptOf (floatOfInt .f64 (x * v - y * u)) (floatOfInt .f64 (x * u + y * v))) = N1 * N2) := Lib.hid (by
    rw [P3.out.pt]; unfold normP; rw [if_pos rfl]; simp only; rw [norm_prod, hN1, hN2])
  have NA : Hid (normP (ptOf (floatOfInt .f64 x) (floatOfInt .f64 y)) = N1) := Lib.hid (by rw [P1.out.pt]; unfold normP; rw [if_pos rfl]; exact hN1)
  have NB : Hid (normP (ptOf (floatOfInt .f64 v) (floatOfInt .f64 u)) = N2) := Lib.hid (by rw [P2.out.pt]; unfold normP; rw [if_pos rfl]; exact hN2)
  -- the turns
  obtain ⟨q, hq⟩ : ∃ q, rotN (k % 4).toNat (ptOf (floatOfInt .f64 x) (floatOfInt .f64 y)) = q := ⟨_, rfl⟩
  have qok : q.ok = true := by rw [← hq, rotN_ok, P1.out.pt]
  have qin : q.In := by rw [← hq]; exact rotN_in (ptOf_in _ _) _
  have hq4 : rotN ((k + 4) % 4).toNat (ptOf (floatOfInt .f64 x) (floatOfInt .f64 y)) = q := by rw [show (k + 4) % 4 = k % 4 by omega]; exact hq
  have Q := Lib.hid (pw_fi qin.x0 qin.x1 qin.y0 qin.y1)
  have qpt : ptOf (floatOfInt .f64 q.x) (floatOfInt .f64 q.y) = q := by rw [Q.out.pt, ← qok]
  have hback : rotN ((-k) % 4).toNat (ptOf (floatOfInt .f64 q.x) (floatOfInt .f64 q.y)) = ⟨x, y, true⟩ := by
    rw [qpt, ← hq, rotN_back, P1.out.pt]
  have hnq : normP (ptOf (floatOfInt .f64 q.x) (floatOfInt .f64 q.y)) = N1 := by rw [qpt, ← hq, normP_rot, NA.out]
  have HQ := Lib.hid hq
  have HQ4 := Lib.hid hq4
  have HB := Lib.hid hback
  have HNQ := Lib.hid hnq
  have ta : (FloatKind.f64.format.order (floatOfInt .f64 x) (floatOfInt .f64 x) == some .eq && FloatKind.f64.format.order (floatOfInt .f64 y) (floatOfInt .f64 y) == some .eq) = true := by
    rw [eq_whole P1.out.wx P1.out.wx, eq_whole P1.out.wy P1.out.wy]; simp
  have tb : (FloatKind.f64.format.order (floatOfInt .f64 v) (floatOfInt .f64 v) == some .eq && FloatKind.f64.format.order (floatOfInt .f64 u) (floatOfInt .f64 u) == some .eq) = true := by
    rw [eq_whole P2.out.wx P2.out.wx, eq_whole P2.out.wy P2.out.wy]; simp
  have tq : (FloatKind.f64.format.order (floatOfInt .f64 q.x) (floatOfInt .f64 q.x) == some .eq && FloatKind.f64.format.order (floatOfInt .f64 q.y) (floatOfInt .f64 q.y) == some .eq) = true := by
    rw [eq_whole Q.out.wx Q.out.wx, eq_whole Q.out.wy Q.out.wy]; simp
  -- the ways
  have hl : ∀ dx dy : Int, (wayL (-dx) (-dy)).length = (wayL dx dy).length := by
    intro dx dy; unfold wayL rep; simp; omega
  have hl' := hl (v - x) (u - y)
  rw [show -(v - x) = x - v by omega, show -(u - y) = y - u by omega] at hl'
  have hlen : (wayL (v - x) (u - y)).length ≤ 9223372036854775807 := by unfold wayL rep; simp; omega
  clear hl hq hq4 hback hnq qpt
  have HG := Lib.hid hg
  clear hg
  obtain ⟨L1, hL1⟩ : ∃ L, wayL (v - x) (u - y) = L := ⟨_, rfl⟩
  obtain ⟨L2, hL2⟩ : ∃ L, wayL (x - v) (y - u) = L := ⟨_, rfl⟩
  rw [hL1] at hl' hlen HG
  rw [hL2] at hl'
  by_cases hs : (v - x).natAbs + (u - y).natAbs ≤ 64
  · have W1 := Lib.hid (show wayP (v - x) (u - y) = (L1, 0) by unfold wayP; rw [if_pos hs, hL1])
    have W2 := Lib.hid (show wayP (x - v) (y - u) = (L2, 0) by unfold wayP; rw [if_pos (by omega), hL2])
    have hl2 : ((L1.length : Int) != (L2.length : Int)) = false := by simp; omega
    clear hL1 hL2 hl' hs m1 m2 m3 m4 s1 s2 s3 s4 n1 hN1 hN2 qin qok
    go_enter Tryd.func5, Tryd.ntmps5
    go_wp2_with fail
    go_quiet (fail)
    have B0 : Hid (Below w.heap.size w ((w.alloc (Obj.cells #[.int .i8 x, .int .i8 y, .int .i8 v, .int .i8 u, .int .i32 k] 58)).drewN nq)) := Lib.hid (below_drewN (by go_grown) nq)
    go_wp2_with fail
    refine (A1.out _).mono ?_; rintro e w' ⟨rfl, rfl⟩
    go_wp2_with fail
    refine (A2.out _).mono ?_; rintro e w' ⟨rfl, rfl⟩
    go_wp2_with fail
    refine (way_of P1.out P2.out W1.out _).mono ?_; rintro e w1 ⟨rfl, b1⟩
    have B1 : Hid (Below w.heap.size w w1) := Lib.hid (B0.out.trans (b1.mono B0.out.size)); clear b1
    go_wp2_with fail
    refine (way_of P2.out P1.out W2.out _).mono ?_; rintro e w2 ⟨rfl, b2⟩
    have B2 : Hid (Below w.heap.size w w2) := Lib.hid (B1.out.trans (b2.mono B1.out.size)); clear b2
    go_wp2_with fail
    refine (go_of P1.out hlen HG.out _).mono ?_; rintro e w' ⟨rfl, rfl⟩
    go_wp2_with fail
    refine (times_of pm.out _).mono ?_; rintro e w' ⟨rfl, rfl⟩
    go_wp2_with fail
    refine (norm_of NM.out _).mono ?_; rintro e w' ⟨rfl, rfl⟩
    go_wp2_with fail
    refine (norm_of NA.out _).mono ?_; rintro e w' ⟨rfl, rfl⟩
    go_wp2_with fail
    refine (norm_of NB.out _).mono ?_; rintro e w' ⟨rfl, rfl⟩
    go_wp2_with fail
    refine (turn_of HQ.out _).mono ?_; rintro e w3 ⟨rfl, b3⟩
    have B3 : Hid (Below w.heap.size w w3) := Lib.hid (B2.out.trans (b3.mono B2.out.size)); clear b3
    go_wp2_with fail
    refine (turn_of HB.out _).mono ?_; rintro e w4 ⟨rfl, b4⟩
    have B4 : Hid (Below w.heap.size w w4) := Lib.hid (B3.out.trans (b4.mono B3.out.size)); clear b4
    go_wp2_with fail
    refine (turn_of HQ.out _).mono ?_; rintro e w5 ⟨rfl, b5⟩
    have B5 : Hid (Below w.heap.size w w5) := Lib.hid (B4.out.trans (b5.mono B4.out.size)); clear b5
    go_wp2_with fail
    refine (turn_of HQ4.out _).mono ?_; rintro e w6 ⟨rfl, b6⟩
    have B6 : Hid (Below w.heap.size w w6) := Lib.hid (B5.out.trans (b6.mono B5.out.size)); clear b6
    go_wp2_with fail
    refine (turn_of HQ.out _).mono ?_; rintro e w7 ⟨rfl, b7⟩
    have B7 : Hid (Below w.heap.size w w7) := Lib.hid (B6.out.trans (b7.mono B6.out.size)); clear b7
    go_wp2_with fail
    refine (norm_of HNQ.out _).mono ?_; rintro e w' ⟨rfl, rfl⟩
    go_wp2_with fail
    refine (norm_of NA.out _).mono ?_; rintro e w' ⟨rfl, rfl⟩
    go_wp2_with fail
    refine (alive_is _ (tab_below T.out B7.out)).mono ?_; rintro e w8 ⟨rfl, b8⟩
    go_wp2_with fail
    go_ret
    exact ⟨rfl, B7.out.trans (b8.mono B7.out.size)⟩
  · have W1 := Lib.hid (show wayP (v - x) (u - y) = ([], 6) by unfold wayP; rw [if_neg hs])
    have W2 := Lib.hid (show wayP (x - v) (y - u) = ([], 6) by unfold wayP; rw [if_neg (by omega)])
    clear hL1 hL2 hl' hs hlen HG m1 m2 m3 m4 s1 s2 s3 s4 n1 hN1 hN2 qin qok
    go_enter Tryd.func5, Tryd.ntmps5
    go_wp2_with fail
    go_quiet (fail)
    have B0 : Hid (Below w.heap.size w ((w.alloc (Obj.cells #[.int .i8 x, .int .i8 y, .int .i8 v, .int .i8 u, .int .i32 k] 58)).drewN nq)) := Lib.hid (below_drewN (by go_grown) nq)
    go_wp2_with fail
    refine (A1.out _).mono ?_; rintro e w' ⟨rfl, rfl⟩
    go_wp2_with fail
    refine (A2.out _).mono ?_; rintro e w' ⟨rfl, rfl⟩
    go_wp2_with fail
    refine (way_of P1.out P2.out W1.out _).mono ?_; rintro e w1 ⟨rfl, b1⟩
    have B1 : Hid (Below w.heap.size w w1) := Lib.hid (B0.out.trans (b1.mono B0.out.size)); clear b1
    go_wp2_with fail
    refine (way_of P2.out P1.out W2.out _).mono ?_; rintro e w2 ⟨rfl, b2⟩
    have B2 : Hid (Below w.heap.size w w2) := Lib.hid (B1.out.trans (b2.mono B1.out.size)); clear b2
    go_wp2_with fail
    refine (times_of pm.out _).mono ?_; rintro e w' ⟨rfl, rfl⟩
    go_wp2_with fail
    refine (norm_of NM.out _).mono ?_; rintro e w' ⟨rfl, rfl⟩
    go_wp2_with fail
    refine (norm_of NA.out _).mono ?_; rintro e w' ⟨rfl, rfl⟩
    go_wp2_with fail
    refine (norm_of NB.out _).mono ?_; rintro e w' ⟨rfl, rfl⟩
    go_wp2_with fail
    refine (turn_of HQ.out _).mono ?_; rintro e w3 ⟨rfl, b3⟩
    have B3 : Hid (Below w.heap.size w w3) := Lib.hid (B2.out.trans (b3.mono B2.out.size)); clear b3
    go_wp2_with fail
    refine (turn_of HB.out _).mono ?_; rintro e w4 ⟨rfl, b4⟩
    have B4 : Hid (Below w.heap.size w w4) := Lib.hid (B3.out.trans (b4.mono B3.out.size)); clear b4
    go_wp2_with fail
    refine (turn_of HQ.out _).mono ?_; rintro e w5 ⟨rfl, b5⟩
    have B5 : Hid (Below w.heap.size w w5) := Lib.hid (B4.out.trans (b5.mono B4.out.size)); clear b5
    go_wp2_with fail
    refine (turn_of HQ4.out _).mono ?_; rintro e w6 ⟨rfl, b6⟩
    have B6 : Hid (Below w.heap.size w w6) := Lib.hid (B5.out.trans (b6.mono B5.out.size)); clear b6
    go_wp2_with fail
    refine (turn_of HQ.out _).mono ?_; rintro e w7 ⟨rfl, b7⟩
    have B7 : Hid (Below w.heap.size w w7) := Lib.hid (B6.out.trans (b7.mono B6.out.size)); clear b7
    go_wp2_with fail
    refine (norm_of HNQ.out _).mono ?_; rintro e w' ⟨rfl, rfl⟩
    go_wp2_with fail
    refine (norm_of NA.out _).mono ?_; rintro e w' ⟨rfl, rfl⟩
    go_wp2_with fail
    refine (alive_is _ (tab_below T.out B7.out)).mono ?_; rintro e w8 ⟨rfl, b8⟩
    go_wp2_with fail
    go_ret
    exact ⟨rfl, B7.out.trans (b8.mono B7.out.size)⟩
end Go.Proofs.YtmbdaaiknjebmaaDoor
