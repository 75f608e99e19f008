/- The reference's Mem: Read, Write, Get, Note, Set. Own work. -/
import Derived.Test.YthpdfmjcchcijaaTRef
import Derived.BigRegion
namespace Go.Proofs.Ythpdfmjcchcijaa
open Go.ChangeShapes Go.WideShapes Go.ChangeAt Go.RowKit CellM TapeM

section
variable {w : World} {mb : Nat} {ov : Bool} {AA : Option Addr} {ac : Nat} {ans : List Int} {S : TS} {F : Nat → Prop}
theorem readR_go (H : RT w mb false AA ac ans S F) (hl : S.acc.length < ans.length) (hs : S.acc.length ≤ 90000) (cl : Int) (x : Int) (hx : ans.getD S.acc.length 0 = x) :
    Calls Try.prog 31 #[.pointer (some ⟨mb, 0, none⟩), .int .i64 cl] w fun e w' => e = .returned (.int .i64 x) ∧ RN w w' mb false AA ac ans (askT S ⟨1, cl, 0⟩) F := by
  have HH := Lib.hid (access_go H hl hs 1 cl 0 x hx)
  clear hx
  go_enter Try.func31, Try.ntmps31
  go_wp2_with fail
  refine HH.out.mono ?_; rintro e w' ⟨rfl, hN⟩
  have HN := Lib.hid hN; clear hN
  go_wp2_with fail
  go_ret
  exact ⟨rfl, HN.out⟩
theorem readR_stop (H : RT w mb false AA ac ans S F) (hl : ¬ S.acc.length < ans.length) (hs : S.acc.length ≤ 90000) (cl : Int) :
    Calls Try.prog 31 #[.pointer (some ⟨mb, 0, none⟩), .int .i64 cl] w fun e w' => e = .returned (.int .i64 0) ∧ RN w w' mb true AA ac ans (askT S ⟨1, cl, 0⟩) F := by
  have HH := Lib.hid (access_stop H hl hs 1 cl 0)
  go_enter Try.func31, Try.ntmps31
  go_wp2_with fail
  refine HH.out.mono ?_; rintro e w' ⟨rfl, hN⟩
  have HN := Lib.hid hN; clear hN
  go_wp2_with fail
  go_ret
  exact ⟨rfl, HN.out⟩
theorem writeR_go (H : RT w mb false AA ac ans S F) (hl : S.acc.length < ans.length) (hs : S.acc.length ≤ 90000) (cl v : Int) :
    Calls Try.prog 32 #[.pointer (some ⟨mb, 0, none⟩), .int .i64 cl, .int .i64 v] w fun e w' => e = .returned (.tuple #[]) ∧ RN w w' mb false AA ac ans (askT S ⟨2, cl, v⟩) F := by
  have HH := Lib.hid (access_go H hl hs 2 cl v _ rfl)
  go_enter Try.func32, Try.ntmps32
  go_wp2_with fail
  refine HH.out.mono ?_; rintro e w' ⟨rfl, hN⟩
  have HN := Lib.hid hN; clear hN
  go_wp2_with fail
  go_end0
  exact ⟨rfl, HN.out⟩
theorem writeR_stop (H : RT w mb false AA ac ans S F) (hl : ¬ S.acc.length < ans.length) (hs : S.acc.length ≤ 90000) (cl v : Int) :
    Calls Try.prog 32 #[.pointer (some ⟨mb, 0, none⟩), .int .i64 cl, .int .i64 v] w fun e w' => e = .returned (.tuple #[]) ∧ RN w w' mb true AA ac ans (askT S ⟨2, cl, v⟩) F := by
  have HH := Lib.hid (access_stop H hl hs 2 cl v)
  go_enter Try.func32, Try.ntmps32
  go_wp2_with fail
  refine HH.out.mono ?_; rintro e w' ⟨rfl, hN⟩
  have HN := Lib.hid hN; clear hN
  go_wp2_with fail
  go_end0
  exact ⟨rfl, HN.out⟩
theorem getR_is (H : RT w mb ov AA ac ans S F) (i : Int) (x : Int) (hx : getL S.loc i = x) : Calls Try.prog 35 #[.pointer (some ⟨mb, 0, none⟩), .int .i64 i] w fun e w' => e = .returned (.int .i64 x) ∧ w = w' := by
  obtain ⟨at_, hat, A, h, c, hD⟩ := H
  have p5 : w.cell? ⟨mb, 5, none⟩ = some (.slice (A 2) S.loc.length (c 2)) := (hD.rows.p 2 (by decide)).1
  have hmax : S.loc.length ≤ maxLen := Nat.le_trans (hD.rows.r 2 (by decide)).le (hD.rows.r 2 (by decide)).max
  unfold maxLen at hmax
  unfold getL at hx
  clear hat
  by_cases h0 : i < 0
  · rw [if_neg (by omega)] at hx
    subst hx
    clear hD
    go_enter Try.func35, Try.ntmps35
    go_wp2_with fail
    go_ret
    exact ⟨rfl, rfl⟩
  · obtain ⟨k, rfl⟩ := Int.eq_ofNat_of_zero_le (show 0 ≤ i by omega)
    by_cases h1 : k < S.loc.length
    · rw [if_pos (by omega)] at hx
      obtain ⟨g5, hh⟩ := hD.place h1
      rw [p5] at g5
      have hA : A 2 = some ⟨h 2, 0, none⟩ := by simp only [Option.some.injEq, Value.slice.injEq] at g5; exact g5.1
      rw [hA] at p5
      have e1 := hh.1
      have hx' : S.loc[k] = x := by rw [← hx]; simp [List.getD, h1]
      rw [hx'] at e1
      clear hD hx hh g5 hA hx' h0
      go_enter Try.func35, Try.ntmps35
      go_wp2_with fail
      go_ret
      exact ⟨rfl, rfl⟩
    · rw [if_neg (by omega)] at hx
      subst hx
      have d1 : (S.loc.length : Int) ≤ k := by omega
      clear hD
      go_enter Try.func35, Try.ntmps35
      go_wp2_with fail
      go_ret
      exact ⟨rfl, rfl⟩
set_option maxHeartbeats 4000000 in
theorem noteR_is (H : RT w mb false AA ac ans S F) (hs : S.nts.length ≤ 90000) (k : Int) :
    Calls Try.prog 34 #[.pointer (some ⟨mb, 0, none⟩), .int .i64 k] w fun e w' => e = .returned (.tuple #[]) ∧ RN w w' mb false AA ac ans (noteT S k) F := by
  have c2 := H.c2.1
  obtain ⟨at_, hat, A, h, c, hD⟩ := H
  have hmb : mb < w.heap.size := hD.rows.p 0 (by decide) |>.lt
  have p3 : w.cell? ⟨mb, 3, none⟩ = some (.slice (A 0) S.acc.length (c 0)) := (hD.rows.p 0 (by decide)).1
  have p4 : w.cell? ⟨mb, 4, none⟩ = some (.slice (A 1) S.nts.length (c 1)) := (hD.rows.p 1 (by decide)).1
  have p4a : ∀ o, (w.alloc o).cell? ⟨mb, 4, none⟩ = some (.slice (A 1) S.nts.length (c 1)) := fun o => (Has.alloc (hD.rows.p 1 (by decide)) o).1
  have HR := Lib.hid (fun (wx : World) (hb : Below w.heap.size w wx) => (hD.rows.r 1 (by decide)).below hb)
  have HO := Lib.hid (fun (w2 w3 : World) (v' : Value) (hb : Below w.heap.size w w2) (hO : OntoK w2 w3 v' 2 (A 1) (h 1) (c 1) S.nts.length (flatNt S.nts) (cellsNt ⟨k, S.acc.length⟩)) => hD.note hb k hO)
  have HA := Lib.hid hat
  clear hD hat
  go_enter Try.func34, Try.ntmps34
  go_upto_region 1 with fail
  have HONE : ∀ u ∈ cellsNt ⟨k, S.acc.length⟩, u.oneCell' = true := by intro u hu; unfold cellsNt at hu; simp at hu; rcases hu with rfl | rfl <;> rfl
  go_region_law (first
    | (refine step_app_k rfl _ _ 27 47 rfl 2 (.agg #[.int .i64 0, .int .i64 0]) 16 underNt infoNt rfl (by decide) (by decide) (HR.out _ (by first | exact bl_drewN_alloc _ _ _ | exact bl_alloc_drew _ _)) (by show S.nts.length ≤ 100000; omega) rfl ⟨_, 0, none⟩ rfl rfl HONE (news_at _ (cellsNt ⟨k, S.acc.length⟩) _ _ rfl) ?_
       intro v' w3 hO
       obtain ⟨A', c', rfl, hh, hN⟩ := HO.out _ _ _ (by first | exact bl_drewN_alloc _ _ _ | exact bl_alloc_drew _ _) hO
       have e1 := hh.1
       have f1 := hh.2
       have F := Lib.hid hN
       clear hO hN hh))
  all_goals
    go_wp2_with fail
    go_end0
    exact ⟨rfl, at_, fun _ => HA.out (by trivial), F.out⟩
end
end Go.Proofs.Ythpdfmjcchcijaa
