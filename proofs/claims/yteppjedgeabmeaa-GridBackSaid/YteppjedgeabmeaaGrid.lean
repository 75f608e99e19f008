/- Contracts of grid's functions. Own work. -/
import Derived.Test.YteppjedgeabmeaaPlane
import Derived.Test.YteppjedgeabmeaaTri
namespace Go.Proofs.Yteppjedgeabmeaa
open Go.ChangeShapes Go.WideShapes Go.ChangeAt Go.RowKit Fl

theorem side_is (n : Int) (w : World) : Calls Try.prog 19 #[.int .i64 n] w fun e w' => e = .returned (.int .i64 (sideN n : Nat)) ∧ w = w' := by
  unfold sideN
  go_enter Try.func19, Try.ntmps19
  go_wp2
  all_goals go_ret
  all_goals exact ⟨ret_int (by omega), rfl⟩
theorem size_is (n : Int) (w : World) : Calls Try.prog 7 #[.int .i64 n] w fun e w' => e = .returned (.int .i64 (T (sideN n) : Nat)) ∧ w = w' := by
  have hs := Lib.hid (side_is n)
  have hm := sideN_le n
  generalize sideN n = m at hs hm ⊢
  have ht := T_le hm
  have h2 := T_twice m
  generalize T m = t at ht h2 ⊢
  have h3 : (m : Int) * ((m : Int) + 1) = 2 * (t : Int) := by exact_mod_cast h2.symm
  clear h2
  go_enter Try.func7, Try.ntmps7
  go_wp2_with fail
  refine (hs.out _).mono ?_; rintro e w' ⟨rfl, rfl⟩
  go_wp2
  go_ret
  exact ⟨ret_int (by omega), rfl⟩
theorem size_of {n : Int} {m t : Nat} (hn : n = m) (hm : m ≤ 64) (ht : T m = t) (w : World) : Calls Try.prog 7 #[.int .i64 n] w fun e w' => e = .returned (.int .i64 (t : Nat)) ∧ w = w' := by
  have h := size_is n w
  have : sideN n = m := by unfold sideN; omega
  rwa [this, ht] at h
theorem size_64 (w : World) : Calls Try.prog 7 #[.int .i64 64] w fun e w' => e = .returned (.int .i64 2080) ∧ w = w' := size_of (n := 64) (m := 64) rfl (by omega) T_64 w
/-- A point's diagonal, and how far along it. -/
def placeP (p : Pt) : Int × Int := if inTri p 64 then (p.x + p.y, p.y) else (-1, 0)
theorem place_out {p : Pt} (h : ¬ (p.ok = true ∧ 0 ≤ p.x ∧ 0 ≤ p.y ∧ p.x + p.y < 64)) : placeP p = (-1, 0) := by
  unfold placeP; rw [if_neg]; rw [inTri_iff]; exact h
theorem place_in {p : Pt} (h : p.ok = true ∧ 0 ≤ p.x ∧ 0 ≤ p.y ∧ p.x + p.y < 64) : placeP p = (p.x + p.y, p.y) := by
  unfold placeP; rw [if_pos]; rw [inTri_iff]; exact h
theorem ret_ii {a b c d : Int} (h : a = c) (h2 : b = d) : Ending.returned (.tuple #[.int .i64 a, .int .i64 b]) = .returned (.tuple #[.int .i64 c, .int .i64 d]) := by rw [h, h2]
theorem place_is (a b : Nat) (w : World) : Calls Try.prog 20 #[.complex .f64 a b] w fun e w' => e = .returned (.tuple #[.int .i64 (placeP (ptOf a b)).1, .int .i64 (placeP (ptOf a b)).2]) ∧ w = w' := by
  have hp := Lib.hid (parts_is a b)
  have hin := ptOf_in a b
  generalize ptOf a b = p at hp hin ⊢
  obtain ⟨x, y, ok⟩ := p
  obtain ⟨x0, x1, y0, y1⟩ := hin
  simp only at x0 x1 y0 y1
  cases ok
  · have H := Lib.hid (place_out (p := ⟨x, y, false⟩) (by simp))
    go_enter Try.func20, Try.ntmps20
    go_wp2_with fail
    refine (hp.out _).mono ?_; rintro e w' ⟨rfl, rfl⟩
    go_wp2
    go_ret2
    rw [H.out]; exact ⟨rfl, rfl⟩
  · by_cases h1 : x < 0
    · have H := Lib.hid (place_out (p := ⟨x, y, true⟩) (by simp only; omega))
      go_enter Try.func20, Try.ntmps20
      go_wp2_with fail
      refine (hp.out _).mono ?_; rintro e w' ⟨rfl, rfl⟩
      go_wp2
      go_ret2
      rw [H.out]; exact ⟨rfl, rfl⟩
    by_cases h2 : y < 0
    · have H := Lib.hid (place_out (p := ⟨x, y, true⟩) (by simp only; omega))
      go_enter Try.func20, Try.ntmps20
      go_wp2_with fail
      refine (hp.out _).mono ?_; rintro e w' ⟨rfl, rfl⟩
      go_wp2
      go_ret2
      rw [H.out]; exact ⟨rfl, rfl⟩
    by_cases h3 : 64 ≤ x + y
    · have H := Lib.hid (place_out (p := ⟨x, y, true⟩) (by simp only; omega))
      go_enter Try.func20, Try.ntmps20
      go_wp2_with fail
      refine (hp.out _).mono ?_; rintro e w' ⟨rfl, rfl⟩
      go_wp2
      go_ret2
      rw [H.out]; exact ⟨rfl, rfl⟩
    · have H := Lib.hid (place_in (p := ⟨x, y, true⟩) ⟨rfl, by simp only; omega, by simp only; omega, by simp only; omega⟩)
      go_enter Try.func20, Try.ntmps20
      go_wp2_with fail
      refine (hp.out _).mono ?_; rintro e w' ⟨rfl, rfl⟩
      go_wp2
      go_ret2
      rw [H.out]; exact ⟨rfl, rfl⟩
theorem place_diag (p : Pt) : (placeP p).1 = diagP p := by unfold placeP diagP; split <;> rfl
theorem diag_is (a b : Nat) (w : World) : Calls Try.prog 13 #[.complex .f64 a b] w fun e w' => e = .returned (.int .i64 (diagP (ptOf a b))) ∧ w = w' := by
  have hd := Lib.hid (place_diag (ptOf a b))
  go_enter Try.func13, Try.ntmps13
  go_wp2_with fail
  refine (place_is a b _).mono ?_; rintro e w' ⟨rfl, rfl⟩
  go_wp2
  go_ret
  exact ⟨ret_int hd.out, rfl⟩
theorem on_diag (p : Pt) {k : Nat} (hk : k ≤ 64) : inTri p k = (decide (0 ≤ diagP p) && decide (diagP p < k)) := by
  rw [Bool.eq_iff_iff, inTri_iff, Bool.and_eq_true, decide_eq_true_eq, decide_eq_true_eq]
  unfold diagP
  constructor
  · rintro ⟨h0, h1, h2, h3⟩
    rw [if_pos (inTri_iff.2 ⟨h0, h1, h2, by omega⟩)]
    omega
  · split
    · rename_i h
      have := inTri_iff.1 h
      rintro ⟨h1, h2⟩
      exact ⟨this.1, this.2.1, this.2.2.1, h2⟩
    · intro h; omega
theorem on_is (n : Int) (a b : Nat) (w : World) : Calls Try.prog 9 #[.int .i64 n, .complex .f64 a b] w fun e w' => e = .returned (.bool (inTri (ptOf a b) (sideN n))) ∧ w = w' := by
  have hs := Lib.hid (side_is n)
  have ho := on_diag (ptOf a b) (sideN_le n)
  have hd := Lib.hid (diag_is a b)
  generalize inTri (ptOf a b) (sideN n) = q at ho ⊢
  generalize diagP (ptOf a b) = d at ho hd
  generalize sideN n = m at ho hs
  by_cases h1 : 0 ≤ d
  · rw [decide_eq_true h1, Bool.true_and] at ho
    by_cases h2 : d < m
    · rw [decide_eq_true h2] at ho
      subst ho
      go_enter Try.func9, Try.ntmps9
      go_wp2_with fail
      refine (hd.out _).mono ?_; rintro e w' ⟨rfl, rfl⟩
      go_wp2_with fail
      refine (hs.out _).mono ?_; rintro e w' ⟨rfl, rfl⟩
      go_wp2
      go_ret
      exact ⟨ret_bool (by simp), rfl⟩
    · rw [decide_eq_false h2] at ho
      subst ho
      go_enter Try.func9, Try.ntmps9
      go_wp2_with fail
      refine (hd.out _).mono ?_; rintro e w' ⟨rfl, rfl⟩
      go_wp2_with fail
      refine (hs.out _).mono ?_; rintro e w' ⟨rfl, rfl⟩
      go_wp2
      go_ret
      exact ⟨ret_bool (by simp; omega), rfl⟩
  · rw [decide_eq_false h1, Bool.false_and] at ho
    subst ho
    go_enter Try.func9, Try.ntmps9
    go_wp2_with fail
    refine (hd.out _).mono ?_; rintro e w' ⟨rfl, rfl⟩
    go_wp2
    go_ret
    exact ⟨ret_bool (by simp), rfl⟩
theorem name_is (a b : Nat) (w : World) : Calls Try.prog 11 #[.complex .f64 a b] w fun e w' => e = .returned (.int .i64 (nameP (ptOf a b))) ∧ w = w' := by
  have hp := Lib.hid (place_is a b)
  generalize ptOf a b = p at hp ⊢
  cases hi : inTri p 64 with
  | false =>
    have h1 : placeP p = (-1, 0) := by unfold placeP; rw [hi]; rfl
    have hz := Lib.hid (show nameP p = -1 by unfold nameP; rw [hi]; rfl)
    rw [h1] at hp
    go_enter Try.func11, Try.ntmps11
    go_wp2_with fail
    refine (hp.out _).mono ?_; rintro e w' ⟨rfl, rfl⟩
    go_wp2
    go_ret
    exact ⟨ret_int hz.out.symm, rfl⟩
  | true =>
    have h1 : placeP p = (p.x + p.y, p.y) := by unfold placeP; rw [hi]; rfl
    have hz := Lib.hid (show nameP p = T (p.x + p.y).toNat + p.y by unfold nameP; rw [hi]; rfl)
    obtain ⟨-, h2, h3, h4⟩ := inTri_iff.1 hi
    rw [h1] at hp
    obtain ⟨d, hd⟩ : ∃ d : Nat, p.x + p.y = d := ⟨(p.x + p.y).toNat, by omega⟩
    have hle := T_le (k := d) (by omega)
    rw [hd] at hp hz h4
    simp only [Int.toNat_natCast] at hz
    have hs := Lib.hid (size_of (n := d) (m := d) rfl (by omega) rfl)
    generalize T d = t at hs hz hle
    generalize p.y = y at hp hz hd h3
    generalize p.x = x at hd h2
    go_enter Try.func11, Try.ntmps11
    go_wp2_with fail
    refine (hp.out _).mono ?_; rintro e w' ⟨rfl, rfl⟩
    go_wp2_with fail
    refine (hs.out _).mono ?_; rintro e w' ⟨rfl, rfl⟩
    go_wp2
    go_ret
    exact ⟨ret_int hz.out.symm, rfl⟩
/-- A name's point, as At answers it. -/
def atP (n : Int) : Pt := if 0 ≤ n ∧ n < 2080 then ptN n.toNat else ⟨0, 0, true⟩
theorem atP_in (n : Int) : (atP n).In := by
  unfold atP
  split
  · rename_i h
    have := inTri_iff.1 (ptN_in (k := 64) (i := n.toNat) (by rw [T_64]; omega))
    constructor <;> omega
  · exact ⟨by decide, by decide, by decide, by decide⟩
theorem gat_is (n : Int) (w : World) : Calls Try.prog 17 #[.int .i64 n] w fun e w' => e = .returned (.complex .f64 (floatOfInt .f64 (atP n).x) (floatOfInt .f64 (atP n).y)) ∧ w = w' := by
  by_cases h0 : n < 0
  · have H := Lib.hid (show atP n = ⟨0, 0, true⟩ by unfold atP; rw [if_neg (by omega)])
    go_enter Try.func17, Try.ntmps17
    go_wp2
    go_ret
    rw [H.out]
    exact ⟨ret_cc fi_zero fi_zero, rfl⟩
  by_cases h1 : 2080 ≤ n
  · have H := Lib.hid (show atP n = ⟨0, 0, true⟩ by unfold atP; rw [if_neg (by omega)])
    have hs := Lib.hid size_64
    go_enter Try.func17, Try.ntmps17
    go_wp2_with fail
    refine (hs.out _).mono ?_; rintro e w' ⟨rfl, rfl⟩
    go_wp2
    go_ret
    rw [H.out]
    exact ⟨ret_cc fi_zero fi_zero, rfl⟩
  obtain ⟨k, rfl⟩ : ∃ k : Nat, n = k := ⟨n.toNat, by omega⟩
  have H := Lib.hid (show atP k = ptN k by unfold atP; rw [if_pos (by omega)]; rfl)
  have d1 : decide ((2080 : Int) ≤ (k : Int)) = false := by rw [decide_eq_false_iff_not]; omega
  have hs := Lib.hid size_64
  go_enter Try.func17, Try.ntmps17
  go_wp2_with fail
  refine (hs.out _).mono ?_; rintro e w' ⟨rfl, rfl⟩
  go_wp2_with fail
  go_loopw [3] (fun z wr => ∃ d : Nat, d ≤ 63 ∧ z = .int .i64 d ∧ T d ≤ k ∧ w = wr) (fun z _ => 64 - (intOf z).toNat)
  case atStart => exact ⟨0, by omega, rfl, by show 0 ≤ k; omega, rfl⟩
  case round =>
    obtain ⟨d, hd, rfl, hT, rfl⟩ := hrel
    obtain ⟨t1, ht1⟩ : ∃ t, T (d + 1) = t := ⟨_, rfl⟩
    have hs1 := Lib.hid (size_of (n := (d : Int) + 1) (m := d + 1) (by omega) (by omega) ht1)
    by_cases hlt : t1 ≤ k
    · have hd1 : d + 1 ≤ 63 := by
        rcases Nat.lt_or_ge d 63 with h | h
        · omega
        · have : d = 63 := by omega
          subst this
          rw [T_64] at ht1; omega
      have HT := Lib.hid (ht1 ▸ hlt : T (d + 1) ≤ k)
      clear hT ht1
      go_wp2_with fail
      refine (hs1.out _).mono ?_; rintro e w' ⟨rfl, rfl⟩
      go_wp2_with fail
      exact ⟨⟨d + 1, hd1, by go_num, HT.out, trivial⟩, by simp [intOf]; omega⟩
    · obtain ⟨t, ht⟩ : ∃ t, T d = t := ⟨_, rfl⟩
      have hs2 := Lib.hid (size_of (n := (d : Int)) (m := d) rfl (by omega) ht)
      have hsum : t1 = t + (d + 1) := by rw [← ht1, ← ht, T_succ]
      have hP : Hid (ptN k = ⟨(d : Int) - ((k : Int) - (t : Int)), (k : Int) - (t : Int), true⟩) := Lib.hid (by
        have := ptN_at (d := d) (y := k - t) (by omega)
        rw [ht, show t + (k - t) = k by omega] at this
        rw [this, show ((k - t : Nat) : Int) = (k : Int) - (t : Int) by omega])
      rw [ht] at hT
      have hkd : k ≤ t + d := by omega
      have e1 : decide (t1 ≤ k) = false := by rw [decide_eq_false_iff_not]; exact hlt
      have e2 : decide ((t1 : Int) ≤ (k : Int)) = false := by rw [decide_eq_false_iff_not]; omega
      clear ht ht1 hsum hlt
      go_wp2_with fail
      refine (hs1.out _).mono ?_; rintro e w' ⟨rfl, rfl⟩
      go_wp2_with fail
      refine (hs2.out _).mono ?_; rintro e w' ⟨rfl, rfl⟩
      go_wp2_with fail
      refine (at_is _ _ _).mono ?_; rintro e w' ⟨rfl, rfl⟩
      go_wp2
      go_ret
      rw [H.out, hP.out]
      exact ⟨ret_cc (by rw [cl_id (by omega)]) (by rw [cl_id (by omega)]), rfl⟩
end Go.Proofs.Yteppjedgeabmeaa
