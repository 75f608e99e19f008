/- Reading a number: the program's way. Own work. -/
import Derived.Test.YtgbbbokfdoeniaaRead
namespace Go.Proofs.Ytgbbbokfdoeniaa
open Go.ChangeShapes Go.WideShapes Go.ChangeAt Go.RowKit Wire

/-- A number that isn't there. -/
theorem num_bad (g : Nat) (s : List UInt8) (e most : Int) (v sz : Nat) (er : Int) (hf : frontL 0 0 s = (v, sz, er)) (h0 : er ≠ 0) (w : World) (h : RAt w g s e) :
    Calls Try.prog 14 #[.pointer (some ⟨g, 0, none⟩), .int .i64 most] w fun r w' => r = .returned (.int .i64 0) ∧ RAt w' g [] (firstE e er) ∧ w.grownBy w' (some g) := by
  obtain ⟨A, c, hb, hr, hi⟩ := id h
  have c1 : w.cell? ⟨g, 1, none⟩ = some (.slice A s.length c) := hb.cell 1
  have hd := eq_false_of_ne h0
  have hd2 : (er != 0) = true := by simp; exact h0
  have hs := failS_some s e h0
  have hfail := fail_any g s e er w h
  rw [hs] at hfail
  have HS := Lib.hid hs; clear hs
  have HF := Lib.hid hf; clear hf
  have HX := Lib.hid hfail; clear hfail
  have R := Lib.hid hr; clear hr
  have H0 := Lib.hid h0; clear h0
  clear hi hb h
  go_enter Try.func14, Try.ntmps14
  go_wp2_with fail
  refine (front_any g A c s v sz er HF.out w R.out).mono ?_; rintro r w' ⟨rfl, rfl⟩
  go_wp2_with fail
  refine HX.out.mono ?_; rintro r w' ⟨rfl, hA, hg⟩
  have HA := Lib.hid hA; clear hA
  have HG := Lib.hid hg; clear hg
  go_wp2_with fail
  go_ret
  exact ⟨rfl, HA.out, HG.out⟩
/-- A number that is too great. -/
theorem num_great (g : Nat) (s : List UInt8) (most : Int) (v sz : Nat) (hf : frontL 0 0 s = (v, sz, 0)) (hv : most < (v : Int) ∨ 1073741823 < (v : Int)) (w : World) (h : RAt w g s 0) :
    Calls Try.prog 14 #[.pointer (some ⟨g, 0, none⟩), .int .i64 most] w fun r w' => r = .returned (.int .i64 0) ∧ RAt w' g [] 6 ∧ w.grownBy w' (some g) := by
  obtain ⟨A, c, hb, hr, hi⟩ := id h
  have c1 : w.cell? ⟨g, 1, none⟩ = some (.slice A s.length c) := hb.cell 1
  have hs : failS s 0 6 = ([], 6) := failS_some s 0 (by decide)
  have hfail := fail_any g s 0 6 w h
  rw [hs] at hfail
  have HF := Lib.hid hf; clear hf
  have HX := Lib.hid hfail; clear hfail
  have R := Lib.hid hr; clear hr
  clear hi hb h hs
  rcases (show (most ≤ 1073741823 ∧ most < v) ∨ (1073741823 < most ∧ 1073741823 < v) by omega) with ⟨h1, h2⟩ | ⟨h1, h2⟩
  all_goals
    clear hv
    go_enter Try.func14, Try.ntmps14
    go_wp2_with fail
    refine (front_any g A c s v sz 0 HF.out w R.out).mono ?_; rintro r w' ⟨rfl, rfl⟩
    go_wp2_with fail
    refine HX.out.mono ?_; rintro r w' ⟨rfl, hA, hg⟩
    have HA := Lib.hid hA; clear hA
    have HG := Lib.hid hg; clear hg
    go_wp2_with fail
    go_ret
    exact ⟨rfl, HA.out, HG.out⟩

/-- A number that is there. -/
theorem num_fine (g : Nat) (s : List UInt8) (most : Int) (v sz : Nat) (hf : frontL 0 0 s = (v, sz, 0)) (hv : (v : Int) ≤ most) (hv2 : (v : Int) ≤ 1073741823) (w : World) (h : RAt w g s 0) :
    Calls Try.prog 14 #[.pointer (some ⟨g, 0, none⟩), .int .i64 most] w fun r w' => r = .returned (.int .i64 v) ∧ RAt w' g (s.drop sz) 0 ∧ w.grownBy w' (some g) := by
  obtain ⟨A, c, hb, hr, hi⟩ := id h
  obtain ⟨hsz, -, -, -⟩ := front_back0 hf
  have c1 : w.cell? ⟨g, 1, none⟩ = some (.slice A s.length c) := hb.cell 1
  have f1 := hb.free 1
  have hsz' : (sz : Int) ≤ s.length := by omega
  have hlen := List.length_drop (l := s) (i := sz)
  have hcut := hr.cut hsz
  have HC := Lib.hid hcut; clear hcut
  have HL := Lib.hid hlen; clear hlen
  have HF := Lib.hid hf; clear hf
  have R := Lib.hid hr; clear hr
  have HB := Lib.hid hb; clear hb
  clear hi h
  rcases (show most ≤ 1073741823 ∨ 1073741823 < most by omega) with h1 | h1
  all_goals
    go_enter Try.func14, Try.ntmps14
    go_wp2_with fail
    refine (front_any g A c s v sz 0 HF.out w R.out).mono ?_; rintro r w' ⟨rfl, rfl⟩
    go_wp2_with fail
    all_goals go_ret
    · exact ⟨rfl, ⟨_, _, by rw [HL.out]; exact HB.out.put 1 _, by have := HC.out; rw [if_pos ‹c = sz›, show c - sz = 0 by omega] at this; exact this.grown (grown_put _ _ _ _) (Nat.le_refl _), fun e => absurd rfl e⟩, grown_put _ _ _ _⟩
    · exact ⟨rfl, ⟨_, _, by rw [HL.out]; exact HB.out.put 1 _, by have := HC.out; rw [if_neg ‹¬ c = sz›, Nat.mul_one] at this; exact this.grown (grown_put _ _ _ _) (Nat.le_refl _), fun e => absurd rfl e⟩, grown_put _ _ _ _⟩
/-- Num. -/
theorem num_any (g : Nat) (s : List UInt8) (e most : Int) (n : Nat) (s' : List UInt8) (e' : Int) (hn : numS s e most = (n, s', e')) (w : World) (h : RAt w g s e) :
    Calls Try.prog 14 #[.pointer (some ⟨g, 0, none⟩), .int .i64 most] w fun r w' => r = .returned (.int .i64 n) ∧ RAt w' g s' e' ∧ w.grownBy w' (some g) := by
  obtain ⟨v, sz, er, hf⟩ : ∃ v sz er, frontL 0 0 s = (v, sz, er) := ⟨_, _, _, rfl⟩
  by_cases he : e = 0
  · subst he
    by_cases h0 : er = 0
    · subst h0
      by_cases hv : min most 1073741823 < (v : Int)
      · rw [numS_range hf hv] at hn
        cases hn
        exact num_great g s most v sz hf (by omega) w h
      · rw [numS_ok hf hv] at hn
        cases hn
        exact num_fine g s most _ sz hf (by omega) (by omega) w h
    · rw [numS_bad hf h0] at hn
      cases hn
      have := num_bad g s 0 most v sz _ hf h0 w h
      rwa [firstE_zero] at this
  · rw [numS_err he] at hn
    cases hn
    obtain ⟨A, c, hb, hr, hi⟩ := id h
    have hs := hi he
    subst hs
    have := num_bad g [] _ most 0 0 4 (front_nil 0 0) (by decide) w h
    rwa [firstE_err he] at this
end Go.Proofs.Ytgbbbokfdoeniaa
