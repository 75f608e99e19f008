/- The reference's Mem: Read, Write, Get, Note, Set. Own work. -/
import Derived.Test.YtjffgppdjdmmgaaTRef
import Derived.BigRegion
namespace Go.Proofs.Ytjffgppdjdmmgaa
open Go.ChangeShapes Go.WideShapes Go.ChangeAt Go.RowKit CellM TapeM

section
variable {w : World} {mb : Nat} {ov : Bool} {AA : Option Addr} {ac : Nat} {ans : List Int} {S : TS} {F : Nat → Prop}
theorem readR_go (H : RT w mb false AA ac ans S F) (hl : S.acc.length < ans.length) (hs : S.acc.length ≤ 90000) (cl : Int) (x : Int) (hx : ans.getD S.acc.length 0 = x) :
    Calls Try.prog 35 #[.pointer (some ⟨mb, 0, none⟩), .int .i64 cl] w fun e w' => e = .returned (.int .i64 x) ∧ RN w w' mb false AA ac ans (askT S ⟨1, cl, 0⟩) F := by
  have HH := Lib.hid (access_go H hl hs 1 cl 0 x hx)
  clear hx
  go_enter Try.func35, Try.ntmps35
  go_wp2_with fail
  refine HH.out.mono ?_; rintro e w' ⟨rfl, hN⟩
  have HN := Lib.hid hN; clear hN
  go_wp2_with fail
  go_ret
  exact ⟨rfl, HN.out⟩
theorem readR_stop (H : RT w mb false AA ac ans S F) (hl : ¬ S.acc.length < ans.length) (hs : S.acc.length ≤ 90000) (cl : Int) :
    Calls Try.prog 35 #[.pointer (some ⟨mb, 0, none⟩), .int .i64 cl] w fun e w' => e = .returned (.int .i64 0) ∧ RN w w' mb true AA ac ans (askT S ⟨1, cl, 0⟩) F := by
  have HH := Lib.hid (access_stop H hl hs 1 cl 0)
  go_enter Try.func35, Try.ntmps35
  go_wp2_with fail
  refine HH.out.mono ?_; rintro e w' ⟨rfl, hN⟩
  have HN := Lib.hid hN; clear hN
  go_wp2_with fail
  go_ret
  exact ⟨rfl, HN.out⟩
theorem writeR_go (H : RT w mb false AA ac ans S F) (hl : S.acc.length < ans.length) (hs : S.acc.length ≤ 90000) (cl v : Int) :
    Calls Try.prog 37 #[.pointer (some ⟨mb, 0, none⟩), .int .i64 cl, .int .i64 v] w fun e w' => e = .returned (.tuple #[]) ∧ RN w w' mb false AA ac ans (askT S ⟨2, cl, v⟩) F := by
  have HH := Lib.hid (access_go H hl hs 2 cl v _ rfl)
  go_enter Try.func37, Try.ntmps37
  go_wp2_with fail
  refine HH.out.mono ?_; rintro e w' ⟨rfl, hN⟩
  have HN := Lib.hid hN; clear hN
  go_wp2_with fail
  go_end0
  exact ⟨rfl, HN.out⟩
theorem writeR_stop (H : RT w mb false AA ac ans S F) (hl : ¬ S.acc.length < ans.length) (hs : S.acc.length ≤ 90000) (cl v : Int) :
    Calls Try.prog 37 #[.pointer (some ⟨mb, 0, none⟩), .int .i64 cl, .int .i64 v] w fun e w' => e = .returned (.tuple #[]) ∧ RN w w' mb true AA ac ans (askT S ⟨2, cl, v⟩) F := by
  have HH := Lib.hid (access_stop H hl hs 2 cl v)
  go_enter Try.func37, Try.ntmps37
  go_wp2_with fail
  refine HH.out.mono ?_; rintro e w' ⟨rfl, hN⟩
  have HN := Lib.hid hN; clear hN
  go_wp2_with fail
  go_end0
  exact ⟨rfl, HN.out⟩
theorem getR_is (H : RT w mb ov AA ac ans S F) (i : Int) (x : Int) (hx : getL S.loc i = x) : Calls Try.prog 36 #[.pointer (some ⟨mb, 0, none⟩), .int .i64 i] w fun e w' => e = .returned (.int .i64 x) ∧ w = w' := by
  obtain ⟨at_, hat, A, h, c, hD⟩ := H
  have p5 : w.cell? ⟨mb, 5, none⟩ = some (.slice (A 2) S.loc.length (c 2)) := (hD.rows.p 2 (by decide)).1
  have hmax : S.loc.length ≤ maxLen := Nat.le_trans (hD.rows.r 2 (by decide)).le (hD.rows.r 2 (by decide)).max
  unfold maxLen at hmax
  unfold getL at hx
  clear hat
  by_cases h0 : i < 0
  · rw [if_neg (by omega)] at hx
    subst hx
    clear hD
    go_enter Try.func36, Try.ntmps36
    go_wp2_with fail
    go_ret
    exact ⟨rfl, rfl⟩
  · obtain ⟨k, rfl⟩ := Int.eq_ofNat_of_zero_le (show 0 ≤ i by omega)
    by_cases h1 : k < S.loc.length
    · rw [if_pos (by omega)] at hx
      obtain ⟨g5, hh⟩ := hD.place h1
      rw [p5] at g5
      have hA : A 2 = some ⟨h 2, 0, none⟩ := by simp only [Option.some.injEq, Value.slice.injEq] at g5; exact g5.1
      rw [hA] at p5
      have e1 := hh.1
      have hx' : S.loc[k] = x := by rw [← hx]; simp [List.getD, h1]
      rw [hx'] at e1
      clear hD hx hh g5 hA hx' h0
      go_enter Try.func36, Try.ntmps36
      go_wp2_with fail
      go_ret
      exact ⟨rfl, rfl⟩
    · rw [if_neg (by omega)] at hx
      subst hx
      have d1 : (S.loc.length : Int) ≤ k := by omega
      clear hD
      go_enter Try.func36, Try.ntmps36
      go_wp2_with fail
      go_ret
      exact ⟨rfl, rfl⟩
end
end Go.Proofs.Ytjffgppdjdmmgaa
