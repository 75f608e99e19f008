/- The reference's Out, New. Own work. -/
import Derived.Test.YtjffgppdjdmmgaaTRef
import Derived.Test.YtjffgppdjdmmgaaTTold
import Derived.StillTailTactics
namespace Go.Proofs.Ytjffgppdjdmmgaa
open Go.ChangeShapes Go.WideShapes Go.ChangeAt Go.RowKit CellM TapeM

section
variable {w : World} {mb : Nat} {ov : Bool} {AA : Option Addr} {ac : Nat} {ans : List Int} {S : TS} {F : Nat → Prop}
set_option maxHeartbeats 4000000 in
theorem outR_is (H : RT w mb ov AA ac ans S F) : Calls Try.prog 15 #[.pointer (some ⟨mb, 0, none⟩)] w fun e w' => ∃ o, e = .returned o ∧ OutAt w' o (!ov) S ∧ Below w.heap.size w w' := by
  have hc2 := H.c2
  obtain ⟨at_, hat, A, h, c, hD⟩ := H
  have hl3 : RI w (A 2) (c 2) S.loc := (hD.rows.r 2 (by decide)).ri.2
  have hmb : mb < w.heap.size := hc2.lt
  obtain ⟨W, hW⟩ : ∃ W, W = w.alloc (.cells #[.bool false, .slice none 0 0, .slice none 0 0, .slice none 0 0] 30) := ⟨_, rfl⟩
  have hB : Below w.heap.size w W := by rw [hW]; exact below_alloc _ _
  have c2 : W.cell? ⟨mb, 2, none⟩ = some (.bool ov) := (hc2.below hB hmb).1
  have c3 : W.cell? ⟨mb, 3, none⟩ = some (.slice (A 0) S.acc.length (c 0)) := ((hD.rows.p 0 (by decide)).below hB hmb).1
  have c4 : W.cell? ⟨mb, 4, none⟩ = some (.slice (A 1) S.nts.length (c 1)) := ((hD.rows.p 1 (by decide)).below hB hmb).1
  have c5 : W.cell? ⟨mb, 5, none⟩ = some (.slice (A 2) S.loc.length (c 2)) := ((hD.rows.p 2 (by decide)).below hB hmb).1
  have HU := Lib.hid (fun (wx : World) (hb : Below W.heap.size W wx) => shortR_is wx (A 2) (c 2) S.loc.length S.loc rfl ((hl3.below hB).below hb) _ rfl)
  have HO := Lib.hid (show OutD w S (A 0) (A 1) (A 2) (h 0) (h 1) (c 0) (c 1) (c 2) from ⟨hD.rows.r 0 (by decide), hD.rows.r 1 (by decide), hl3.take _⟩)
  have o0 : W.cell? ⟨w.heap.size, 0, none⟩ = some (.bool false) := by rw [hW]; exact (has_new w _ _ 0 _ rfl).1
  have o1 : W.cell? ⟨w.heap.size, 1, none⟩ = some (.slice none 0 0) := by rw [hW]; exact (has_new w _ _ 1 _ rfl).1
  have o2 : W.cell? ⟨w.heap.size, 2, none⟩ = some (.slice none 0 0) := by rw [hW]; exact (has_new w _ _ 2 _ rfl).1
  have o3 : W.cell? ⟨w.heap.size, 3, none⟩ = some (.slice none 0 0) := by rw [hW]; exact (has_new w _ _ 3 _ rfl).1
  have p0 : W.frozen? ⟨w.heap.size, 0, none⟩ = false := by rw [hW]; exact (has_new w _ _ 0 _ rfl).2
  have p1 : W.frozen? ⟨w.heap.size, 1, none⟩ = false := by rw [hW]; exact (has_new w _ _ 1 _ rfl).2
  have p2 : W.frozen? ⟨w.heap.size, 2, none⟩ = false := by rw [hW]; exact (has_new w _ _ 2 _ rfl).2
  have p3 : W.frozen? ⟨w.heap.size, 3, none⟩ = false := by rw [hW]; exact (has_new w _ _ 3 _ rfl).2
  have HB := Lib.hid hB
  have HW := Lib.hid hW
  clear hD hl3 hat hc2 hB hW
  go_enter Try.func15, Try.ntmps15
  go_upto_region 1 with fail
  rw [← HW.out]
  refine wp_region_still_tail 19 (by kernel_rfl) (by kernel_rfl) ?_
  simp only [List.take_succ_cons, List.take_zero, List.drop_succ_cons, List.drop_zero]
  repeat still_step
  still_call ((HU.out W.drew (Below.drew (Below.refl _ _))).mono fun _ _ h => ⟨h.1, h.2.symm⟩)
  repeat still_step
  refine wpStill_nil ?_
  change wpList _ _ _ _ _ W.drew
  go_wp2_with fail
  refine bodyPost_ret (v := outV (!ov) (A 0) (A 1) (A 2) S.acc.length S.nts.length (shN S.loc) (c 0) (c 1) (c 2)) (by simp [results, Try.results15, go_sem, outV, o0, o1, o2, o3]) rfl ?_
  have hb : Below w.heap.size w ((((W.setCell ⟨w.heap.size, 0, none⟩ (.bool !ov)).setCell ⟨w.heap.size, 1, none⟩ (.slice (A 0) S.acc.length (c 0))).setCell ⟨w.heap.size, 2, none⟩ (.slice (A 1) S.nts.length (c 1))).setCell ⟨w.heap.size, 3, none⟩ (.slice (A 2) (shN S.loc) (c 2))).drew :=
    ((((HB.out.setCell (p := ⟨w.heap.size, 0, none⟩) (Nat.le_refl _) _).setCell (p := ⟨w.heap.size, 1, none⟩) (Nat.le_refl _) _).setCell (p := ⟨w.heap.size, 2, none⟩) (Nat.le_refl _) _).setCell (p := ⟨w.heap.size, 3, none⟩) (Nat.le_refl _) _).drew
  exact ⟨_, rfl, ⟨_, _, _, _, _, _, _, _, rfl, HO.out.below hb⟩, hb⟩
end
end Go.Proofs.Ytjffgppdjdmmgaa
