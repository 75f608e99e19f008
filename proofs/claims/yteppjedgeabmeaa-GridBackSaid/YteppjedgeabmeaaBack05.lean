/- GridBack's walk. Own work. -/
import Derived.Test.YteppjedgeabmeaaLaw05
namespace Go.Proofs.Yteppjedgeabmeaa
open Go.ChangeShapes Go.WideShapes Go.ChangeAt Go.RowKit Fl

/-- The slice's places read as bools. -/
def ReadB (w : World) (A : Option Addr) (l : List Bool) : Prop := ∀ k (h : k < l.length), ∃ ad : Addr, A = some ad ∧ w.cell? (ad.add k) = some (.bool l[k])
theorem tri_name {i k : Nat} (h : inTri (ptN i) k = true) : i < T k := by
  have := ptN_name h
  rw [ptN_inj this.2] at this
  exact this.1
theorem side_nat {n : Int} {k : Nat} (h : n = k) (hk : k ≤ 64) : sideN n = k := by unfold sideN; omega
theorem name_step {re im x y j : Nat} (h1 : Whole re x) (h2 : Whole im y) (hj : x + y = j) (h : j < 64) : nameP (ptOf re im) = ((T j + y : Nat) : Int) := by
  have hp : ptOf re im = ⟨x, y, true⟩ := by
    rw [ptOf_whole h1 h2]
    unfold Fl.mk isPart
    rw [decide_eq_true (by omega), decide_eq_true (by omega)]; rfl
  rw [hp]
  unfold nameP
  rw [if_pos (inTri_iff.2 ⟨rfl, by simp only; omega, by simp only; omega, by simp only; omega⟩)]
  simp only
  rw [show ((x : Int) + (y : Int)).toNat = j by omega]; omega
set_option maxHeartbeats 2000000 in
theorem back_walk (m : Nat) (hm : m < 256) (A : Option Addr) (c : Nat) (l : List Bool) (w : World) (hr : ReadB w A l) :
    Calls Try.prog 5 #[.int .u8 m, .slice A l.length c] w fun e w' => e = .returned (.bool true) ∧ Below w.heap.size w w' := by
  have R := Lib.hid hr; clear hr
  obtain ⟨k, hk⟩ : ∃ k : Nat, m % 65 = k := ⟨_, rfl⟩
  have hkm : (m : Int).tmod 65 = (k : Int) := by rw [Int.tmod_eq_emod_of_nonneg (by omega)]; omega
  have hkm2 : (m : Int) % 65 = (k : Int) := by omega
  have hk64 : k ≤ 64 := by omega
  have hside : sideN k = k := by unfold sideN; omega
  obtain ⟨t, ht⟩ : ∃ t, T k = t := ⟨_, rfl⟩
  have ht2 := T_le hk64
  have h2 := T_twice k
  rw [ht] at ht2 h2
  have h3 : (k : Int) * ((k : Int) + 1) = 2 * (t : Int) := by exact_mod_cast h2.symm
  have HT := Lib.hid ht
  have HS := Lib.hid hside
  have H1 : Hid (T (sideN k) = t) := Lib.hid (by rw [hside, ht])
  clear hk h2 ht hside
  go_enter Try.func5, Try.ntmps5
  go_wp2_with fail
  go_loopw [6, 7] (fun i z wr => ∃ j : Nat, j ≤ t ∧ i = .int .i64 j ∧ w = wr) (fun i _ _ => t - (intOf i).toNat)
  case atStart => exact ⟨0, by omega, rfl, rfl⟩
  case round =>
    obtain ⟨j, hj, rfl, rfl⟩ := hrel
    by_cases hlt : j < t
    · have e1 : (j : Int) < (t : Int) := by omega
      obtain ⟨p, hp⟩ : ∃ p, ptN j = p := ⟨_, rfl⟩
      have hin : inTri p k = true := by rw [← hp]; exact ptN_in (by rw [HT.out]; exact hlt)
      have G1 : Hid (atP j = p) := Lib.hid (by unfold atP; rw [if_pos (by omega)]; exact hp)
      have hpi : p.In := by have := G1.out ▸ atP_in j; exact this
      have hpt : ptOf (floatOfInt .f64 p.x) (floatOfInt .f64 p.y) = p := ptOf_fi hpi (inTri_iff.1 hin).1
      have G2 : Hid (nameP (ptOf (floatOfInt .f64 p.x) (floatOfInt .f64 p.y)) = j) := Lib.hid (by rw [hpt]; exact name_found (by omega) hp)
      have G3 : Hid (inTri (ptOf (floatOfInt .f64 p.x) (floatOfInt .f64 p.y)) (sideN k) = true) := Lib.hid (by rw [hpt, HS.out]; exact hin)
      clear hp hin hpi hpt
      go_wp2_with fail
      refine (size_as H1.out _).mono ?_; rintro e w' ⟨rfl, rfl⟩
      go_wp2_with fail
      refine (gat_of G1.out _).mono ?_; rintro e w' ⟨rfl, rfl⟩
      go_wp2_with fail
      refine (name_of G2.out _).mono ?_; rintro e w' ⟨rfl, rfl⟩
      go_wp2_with fail
      refine (on_of G3.out _).mono ?_; rintro e w' ⟨rfl, rfl⟩
      go_wp2_with fail
      exact ⟨⟨j + 1, by omega, by go_num, trivial⟩, by simp [intOf]; omega⟩
    · obtain rfl : j = t := by omega
      go_wp2_with fail
      refine (size_as H1.out _).mono ?_; rintro e w' ⟨rfl, rfl⟩
      go_wp2_with fail
      refine (size_as H1.out _).mono ?_; rintro e w' ⟨rfl, rfl⟩
      by_cases h64 : k < 64
      · have h64' : (k : Int) < 64 := by omega
        have hlow : j < 2080 := by
          have h1 := HT.out
          have h2 := T_mono (show k + 1 ≤ 64 by omega)
          rw [T_succ, T_64] at h2; omega
        have G1 : Hid (atP j = ptN j) := Lib.hid (by unfold atP; rw [if_pos (by omega)]; rfl)
        have hpi : (ptN j).In := by have := G1.out ▸ atP_in j; exact this
        have G3 : Hid (inTri (ptOf (floatOfInt .f64 (ptN j).x) (floatOfInt .f64 (ptN j).y)) (sideN k) = false) := Lib.hid (by
          rw [ptOf_fi hpi rfl, HS.out]
          cases hq : inTri (ptN j) k with
          | false => rfl
          | true => have := tri_name hq; have := HT.out; omega)
        clear hpi
        go_wp2_with fail
        refine (size_as H1.out _).mono ?_; rintro e w' ⟨rfl, rfl⟩
        go_wp2_with fail
        refine (gat_of G1.out _).mono ?_; rintro e w' ⟨rfl, rfl⟩
        go_wp2_with fail
        refine (on_of G3.out _).mono ?_; rintro e w' ⟨rfl, rfl⟩
        clear h64 h64' hlow G1 G3 hkm hkm2 h3 hlt ht2 hj HT HS H1
        go_wp2_with fail
        go_loopw [8, 9] (fun z i wr => ∃ (f a b x y : Nat), f ≤ 63 ∧ f ≤ l.length ∧ z = .complex .f64 a b ∧ i = .int .i64 f ∧ x + y = f ∧ Hid (Whole a x) ∧ Hid (Whole b y) ∧ w = wr) (fun _ i _ => 63 - (intOf i).toNat)
        case atStart => exact ⟨0, 0, 0, 0, 0, by omega, by omega, rfl, rfl, rfl, Lib.hid whole_zero, Lib.hid whole_zero, rfl⟩
        case round =>
          obtain ⟨f, a, b, x, y, hf, hfl, rfl, rfl, hxy, Hx, Hy, rfl⟩ := hrel
          by_cases hlt : f < l.length
          · have d1 : (f : Int) < (l.length : Int) := by omega
            by_cases hf2 : f < 63
            · have d2 : (f : Int) < 63 := by omega
              obtain ⟨ad, rfl, hc⟩ := R.out f hlt
              generalize l[f] = q at hc
              have S1 : Hid (T (sideN ((f : Int) + 1)) = T (f + 1)) := Lib.hid (by rw [side_nat (k := f + 1) (by omega) (by omega)])
              have S2 : Hid (T (sideN ((f : Int) + 2)) = T (f + 1) + (f + 2)) := Lib.hid (by rw [side_nat (k := f + 2) (by omega) (by omega), T_succ])
              cases q
              · obtain ⟨re, im, e, w1, w2⟩ := cadd_whole Hx.out Hy.out whole_zero whole_one (by omega) (by omega)
                have hadd : ∀ w : World, (binOp .add 23 (.complex .f64 a b) (.complex .f64 0 4607182418800017408)).run Try.prog w = .ok (.complex .f64 re im) w := fun w => run_complex_sum w .add (.inl rfl) 23 .f64 _ _ _ _ re im e
                have v1 : Whole re (x : Nat) := by have := w1; rwa [Int.add_zero] at this
                have v2 : Whole im ((y + 1 : Nat) : Int) := by rw [Int.natCast_add]; exact w2
                have V : Hid (nameP (ptOf re im) = ((T (f + 1) + (y + 1) : Nat) : Int)) := Lib.hid (name_step v1 v2 (by omega) (by omega))
                have W1 := Lib.hid v1
                have W2 := Lib.hid v2
                have hy : y + 1 ≤ f + 1 := by omega
                obtain ⟨g, hg⟩ : ∃ g, y + 1 = g := ⟨_, rfl⟩
                rw [hg] at V hy
                generalize T (f + 1) = t1 at V S1 S2
                obtain ⟨n1, hn1⟩ : ∃ n, t1 + g = n := ⟨_, rfl⟩
                obtain ⟨t2, ht2'⟩ : ∃ t, t1 + (f + 2) = t := ⟨_, rfl⟩
                rw [hn1] at V
                rw [ht2'] at S2
                have k1 : decide (n1 < t1) = false := by rw [decide_eq_false_iff_not]; omega
                have k2 : decide (t2 ≤ n1) = false := by rw [decide_eq_false_iff_not]; omega
                have k3 : decide ((n1 : Int) < (t1 : Int)) = false := by rw [decide_eq_false_iff_not]; omega
                have k4 : decide ((t2 : Int) ≤ (n1 : Int)) = false := by rw [decide_eq_false_iff_not]; omega
                clear hn1 ht2' hg v1 v2 w1 w2 e
                go_wp2_with fail
                refine (name_of V.out _).mono ?_; rintro e w' ⟨rfl, rfl⟩
                go_wp2_with fail
                refine (size_as S1.out _).mono ?_; rintro e w' ⟨rfl, rfl⟩
                go_wp2_with fail
                refine (name_of V.out _).mono ?_; rintro e w' ⟨rfl, rfl⟩
                go_wp2_with fail
                refine (size_as S2.out _).mono ?_; rintro e w' ⟨rfl, rfl⟩
                go_wp2_with fail
                exact ⟨⟨f + 1, re, im, x, y + 1, by omega, by omega, rfl, by go_num, by omega, W1, W2, trivial⟩, by simp [intOf]; omega⟩
              · obtain ⟨re, im, e, w1, w2⟩ := cadd_whole Hx.out Hy.out whole_one whole_zero (by omega) (by omega)
                have hadd : ∀ w : World, (binOp .add 23 (.complex .f64 a b) (.complex .f64 4607182418800017408 0)).run Try.prog w = .ok (.complex .f64 re im) w := fun w => run_complex_sum w .add (.inl rfl) 23 .f64 _ _ _ _ re im e
                have v1 : Whole re ((x + 1 : Nat) : Int) := by rw [Int.natCast_add]; exact w1
                have v2 : Whole im (y : Nat) := by have := w2; rwa [Int.add_zero] at this
                have V : Hid (nameP (ptOf re im) = ((T (f + 1) + y : Nat) : Int)) := Lib.hid (name_step v1 v2 (by omega) (by omega))
                have W1 := Lib.hid v1
                have W2 := Lib.hid v2
                have hy : y ≤ f + 1 := by omega
                obtain ⟨g, hg⟩ : ∃ g, y = g := ⟨_, rfl⟩
                rw [hg] at V hy
                generalize T (f + 1) = t1 at V S1 S2
                obtain ⟨n1, hn1⟩ : ∃ n, t1 + g = n := ⟨_, rfl⟩
                obtain ⟨t2, ht2'⟩ : ∃ t, t1 + (f + 2) = t := ⟨_, rfl⟩
                rw [hn1] at V
                rw [ht2'] at S2
                have k1 : decide (n1 < t1) = false := by rw [decide_eq_false_iff_not]; omega
                have k2 : decide (t2 ≤ n1) = false := by rw [decide_eq_false_iff_not]; omega
                have k3 : decide ((n1 : Int) < (t1 : Int)) = false := by rw [decide_eq_false_iff_not]; omega
                have k4 : decide ((t2 : Int) ≤ (n1 : Int)) = false := by rw [decide_eq_false_iff_not]; omega
                clear hn1 ht2' hg v1 v2 w1 w2 e
                go_wp2_with fail
                refine (name_of V.out _).mono ?_; rintro e w' ⟨rfl, rfl⟩
                go_wp2_with fail
                refine (size_as S1.out _).mono ?_; rintro e w' ⟨rfl, rfl⟩
                go_wp2_with fail
                refine (name_of V.out _).mono ?_; rintro e w' ⟨rfl, rfl⟩
                go_wp2_with fail
                refine (size_as S2.out _).mono ?_; rintro e w' ⟨rfl, rfl⟩
                go_wp2_with fail
                exact ⟨⟨f + 1, re, im, x + 1, y, by omega, by omega, rfl, by go_num, by omega, W1, W2, trivial⟩, by simp [intOf]; omega⟩
            · have d2 : decide ((f : Int) < 63) = false := by rw [decide_eq_false_iff_not]; omega
              go_wp2_with fail
              refine (alive_is _).mono ?_; rintro e w' ⟨rfl, rfl⟩
              go_wp2_with fail
              go_ret
              exact ⟨rfl, Below.refl _ _⟩
          · obtain rfl : f = l.length := by omega
            go_wp2_with fail
            refine (alive_is _).mono ?_; rintro e w' ⟨rfl, rfl⟩
            go_wp2_with fail
            go_ret
            exact ⟨rfl, Below.refl _ _⟩
      · have h64' : decide ((k : Int) < 64) = false := by rw [decide_eq_false_iff_not]; omega
        clear h64 hkm hkm2 hlt HT HS H1
        go_wp2_with fail
        go_loopw [8, 9] (fun z i wr => ∃ (f a b x y : Nat), f ≤ 63 ∧ f ≤ l.length ∧ z = .complex .f64 a b ∧ i = .int .i64 f ∧ x + y = f ∧ Hid (Whole a x) ∧ Hid (Whole b y) ∧ w = wr) (fun _ i _ => 63 - (intOf i).toNat)
        case atStart => exact ⟨0, 0, 0, 0, 0, by omega, by omega, rfl, rfl, rfl, Lib.hid whole_zero, Lib.hid whole_zero, rfl⟩
        case round =>
          obtain ⟨f, a, b, x, y, hf, hfl, rfl, rfl, hxy, Hx, Hy, rfl⟩ := hrel
          by_cases hlt : f < l.length
          · have d1 : (f : Int) < (l.length : Int) := by omega
            by_cases hf2 : f < 63
            · have d2 : (f : Int) < 63 := by omega
              obtain ⟨ad, rfl, hc⟩ := R.out f hlt
              generalize l[f] = q at hc
              have S1 : Hid (T (sideN ((f : Int) + 1)) = T (f + 1)) := Lib.hid (by rw [side_nat (k := f + 1) (by omega) (by omega)])
              have S2 : Hid (T (sideN ((f : Int) + 2)) = T (f + 1) + (f + 2)) := Lib.hid (by rw [side_nat (k := f + 2) (by omega) (by omega), T_succ])
              cases q
              · obtain ⟨re, im, e, w1, w2⟩ := cadd_whole Hx.out Hy.out whole_zero whole_one (by omega) (by omega)
                have hadd : ∀ w : World, (binOp .add 23 (.complex .f64 a b) (.complex .f64 0 4607182418800017408)).run Try.prog w = .ok (.complex .f64 re im) w := fun w => run_complex_sum w .add (.inl rfl) 23 .f64 _ _ _ _ re im e
                have v1 : Whole re (x : Nat) := by have := w1; rwa [Int.add_zero] at this
                have v2 : Whole im ((y + 1 : Nat) : Int) := by rw [Int.natCast_add]; exact w2
                have V : Hid (nameP (ptOf re im) = ((T (f + 1) + (y + 1) : Nat) : Int)) := Lib.hid (name_step v1 v2 (by omega) (by omega))
                have W1 := Lib.hid v1
                have W2 := Lib.hid v2
                have hy : y + 1 ≤ f + 1 := by omega
                obtain ⟨g, hg⟩ : ∃ g, y + 1 = g := ⟨_, rfl⟩
                rw [hg] at V hy
                generalize T (f + 1) = t1 at V S1 S2
                obtain ⟨n1, hn1⟩ : ∃ n, t1 + g = n := ⟨_, rfl⟩
                obtain ⟨t2, ht2'⟩ : ∃ t, t1 + (f + 2) = t := ⟨_, rfl⟩
                rw [hn1] at V
                rw [ht2'] at S2
                have k1 : decide (n1 < t1) = false := by rw [decide_eq_false_iff_not]; omega
                have k2 : decide (t2 ≤ n1) = false := by rw [decide_eq_false_iff_not]; omega
                have k3 : decide ((n1 : Int) < (t1 : Int)) = false := by rw [decide_eq_false_iff_not]; omega
                have k4 : decide ((t2 : Int) ≤ (n1 : Int)) = false := by rw [decide_eq_false_iff_not]; omega
                clear hn1 ht2' hg v1 v2 w1 w2 e
                go_wp2_with fail
                refine (name_of V.out _).mono ?_; rintro e w' ⟨rfl, rfl⟩
                go_wp2_with fail
                refine (size_as S1.out _).mono ?_; rintro e w' ⟨rfl, rfl⟩
                go_wp2_with fail
                refine (name_of V.out _).mono ?_; rintro e w' ⟨rfl, rfl⟩
                go_wp2_with fail
                refine (size_as S2.out _).mono ?_; rintro e w' ⟨rfl, rfl⟩
                go_wp2_with fail
                exact ⟨⟨f + 1, re, im, x, y + 1, by omega, by omega, rfl, by go_num, by omega, W1, W2, trivial⟩, by simp [intOf]; omega⟩
              · obtain ⟨re, im, e, w1, w2⟩ := cadd_whole Hx.out Hy.out whole_one whole_zero (by omega) (by omega)
                have hadd : ∀ w : World, (binOp .add 23 (.complex .f64 a b) (.complex .f64 4607182418800017408 0)).run Try.prog w = .ok (.complex .f64 re im) w := fun w => run_complex_sum w .add (.inl rfl) 23 .f64 _ _ _ _ re im e
                have v1 : Whole re ((x + 1 : Nat) : Int) := by rw [Int.natCast_add]; exact w1
                have v2 : Whole im (y : Nat) := by have := w2; rwa [Int.add_zero] at this
                have V : Hid (nameP (ptOf re im) = ((T (f + 1) + y : Nat) : Int)) := Lib.hid (name_step v1 v2 (by omega) (by omega))
                have W1 := Lib.hid v1
                have W2 := Lib.hid v2
                have hy : y ≤ f + 1 := by omega
                obtain ⟨g, hg⟩ : ∃ g, y = g := ⟨_, rfl⟩
                rw [hg] at V hy
                generalize T (f + 1) = t1 at V S1 S2
                obtain ⟨n1, hn1⟩ : ∃ n, t1 + g = n := ⟨_, rfl⟩
                obtain ⟨t2, ht2'⟩ : ∃ t, t1 + (f + 2) = t := ⟨_, rfl⟩
                rw [hn1] at V
                rw [ht2'] at S2
                have k1 : decide (n1 < t1) = false := by rw [decide_eq_false_iff_not]; omega
                have k2 : decide (t2 ≤ n1) = false := by rw [decide_eq_false_iff_not]; omega
                have k3 : decide ((n1 : Int) < (t1 : Int)) = false := by rw [decide_eq_false_iff_not]; omega
                have k4 : decide ((t2 : Int) ≤ (n1 : Int)) = false := by rw [decide_eq_false_iff_not]; omega
                clear hn1 ht2' hg v1 v2 w1 w2 e
                go_wp2_with fail
                refine (name_of V.out _).mono ?_; rintro e w' ⟨rfl, rfl⟩
                go_wp2_with fail
                refine (size_as S1.out _).mono ?_; rintro e w' ⟨rfl, rfl⟩
                go_wp2_with fail
                refine (name_of V.out _).mono ?_; rintro e w' ⟨rfl, rfl⟩
                go_wp2_with fail
                refine (size_as S2.out _).mono ?_; rintro e w' ⟨rfl, rfl⟩
                go_wp2_with fail
                exact ⟨⟨f + 1, re, im, x + 1, y, by omega, by omega, rfl, by go_num, by omega, W1, W2, trivial⟩, by simp [intOf]; omega⟩
            · have d2 : decide ((f : Int) < 63) = false := by rw [decide_eq_false_iff_not]; omega
              go_wp2_with fail
              refine (alive_is _).mono ?_; rintro e w' ⟨rfl, rfl⟩
              go_wp2_with fail
              go_ret
              exact ⟨rfl, Below.refl _ _⟩
          · obtain rfl : f = l.length := by omega
            go_wp2_with fail
            refine (alive_is _).mono ?_; rintro e w' ⟨rfl, rfl⟩
            go_wp2_with fail
            go_ret
            exact ⟨rfl, Below.refl _ _⟩
end Go.Proofs.Yteppjedgeabmeaa
