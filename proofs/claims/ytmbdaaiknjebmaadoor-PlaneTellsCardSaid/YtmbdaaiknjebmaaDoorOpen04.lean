/- The laws of layer 4, from their rows' conditions. Own work. -/
import Derived.Test.YtmbdaaiknjebmaaDoorTells04
import Derived.Test.YtmbdaaiknjebmaaDoorBack04
import Derived.Test.YtmbdaaiknjebmaaDoorFrame
namespace Go.Proofs.YtmbdaaiknjebmaaDoor
open Go.ChangeShapes Go.WideShapes Go.ChangeAt Go.RowKit

theorem gPow : Tryd.prog.globalNamed "internal/strconv.uint64pow10" = some 0 := by kernel_rfl
theorem tyPow : (Tryd.prog.globals[0]?).map (·.type) = some 102 := by kernel_rfl
theorem cellsPow : Tryd.prog.cellsOf 102 = 20 := by kernel_rfl
theorem cellsU64 : Tryd.prog.cellsOf 90 = 1 := by kernel_rfl
theorem cellsNumbers : Tryd.prog.cellsOf 24 = 5 := by kernel_rfl
theorem cellsWalk : Tryd.prog.cellsOf 44 = 5 := by kernel_rfl
theorem cellsTwo : Tryd.prog.cellsOf 58 = 5 := by kernel_rfl
theorem cellsF : Tryd.prog.cellsOf 22 = 1 := by kernel_rfl
theorem cellsI : Tryd.prog.cellsOf 3 = 1 := by kernel_rfl
theorem cellsS : Tryd.prog.cellsOf 9 = 1 := by kernel_rfl
theorem cells8 : Tryd.prog.cellsOf 56 = 1 := by kernel_rfl
theorem cells32 : Tryd.prog.cellsOf 21 = 1 := by kernel_rfl
theorem laidMet_tail {P : Program} {W : World} {x : String × DataW Unit} {rest : List (String × DataW Unit)} (h : laidMet P (x :: rest) W) : laidMet P rest W := by
  obtain ⟨ps, ⟨g, t, cs, fuel, p, q, hg, ht, hv, hd, hr, rfl⟩, hn, hc⟩ := h
  exact ⟨q, hr, (List.nodup_append.1 hn).2.1, fun b off hp => hc b off (List.mem_append_right _ hp)⟩
theorem tab_of {W : World} (h : laidMetH Tryd.prog Rows.planeTellsRow.laid W) : Tab W :=
  Lib.tabIs_of_head (rest := []) gPow tyPow Tryd.underlying102 Tryd.underlying90 cellsU64 cellsPow (laidMet_tail (laidMet_tail h))

section
variable {H : Type} {enc : TypeId × Value → H} {W : World} {base : Nat} {args : Array Value} {ds gs : List (DataW H)} {before : List MemPlace}
set_option maxRecDepth 100000 in
theorem planeTells_law (h : LawIn enc Tryd.prog Tryd.f3 Rows.planeTellsRow.laid W base args ds gs before) :
    Calls Tryd.prog 3 args W fun e W' => e = .returned (.bool true) ∧ Below W.heap.size W W' := by
  have ht := tab_of h.laid
  obtain ⟨hA, rfl, hlt⟩ := h.trod
  have hval := h.val
  rw [Tryd.params3] at hA hval
  obtain ⟨v0, vs0, d0, ds0, p0, q0, hargs, rfl, rfl, h0, r0⟩ := trodAll_cons hA
  obtain ⟨rfl, rfl, rfl⟩ := trodAll_nil r0
  obtain rfl : args = #[v0] := by cases args; simp_all
  obtain ⟨cs, rfl, hsz⟩ := okWide_struct Tryd.underlying24 (hval 0 24 v0 rfl rfl)
  obtain ⟨l⟩ := cs
  match l, hsz.trans cellsNumbers with
  | [c0, c1, c2, c3, c4], _ =>
    obtain ⟨z0, rfl, -⟩ := agg_float Tryd.underlying24 h0 0 _ rfl Tryd.underlying22 c0 (by simp [cellsF])
    obtain ⟨z1, rfl, -⟩ := agg_float Tryd.underlying24 h0 1 _ rfl Tryd.underlying22 c1 (by simp [cellsF])
    obtain ⟨z2, rfl, -⟩ := agg_float Tryd.underlying24 h0 2 _ rfl Tryd.underlying22 c2 (by simp [cellsF])
    obtain ⟨z3, rfl, -⟩ := agg_float Tryd.underlying24 h0 3 _ rfl Tryd.underlying22 c3 (by simp [cellsF])
    obtain ⟨z4, rfl, -⟩ := agg_int Tryd.underlying24 h0 4 _ rfl Tryd.underlying3 c4 (by simp [cellsI])
    exact tells_walk z0 z1 z2 z3 z4 W ht
set_option maxRecDepth 100000 in
theorem planeGoes_law (h : LawIn enc Tryd.prog Tryd.f4 Rows.planeGoesRow.laid W base args ds gs before) :
    Calls Tryd.prog 4 args W fun e W' => e = .returned (.bool true) ∧ Below W.heap.size W W' := by
  have ht := tab_of h.laid
  obtain ⟨hA, rfl, hlt⟩ := h.trod
  have hval := h.val
  rw [Tryd.params4] at hA hval
  obtain ⟨v0, vs0, d0, ds0, p0, q0, hargs, rfl, rfl, h0, r0⟩ := trodAll_cons hA
  obtain ⟨rfl, rfl, rfl⟩ := trodAll_nil r0
  obtain rfl : args = #[v0] := by cases args; simp_all
  obtain ⟨cs, rfl, hsz⟩ := okWide_struct Tryd.underlying44 (hval 0 44 v0 rfl rfl)
  obtain ⟨l⟩ := cs
  match l, hsz.trans cellsWalk with
  | [c0, c1, c2, c3, c4], _ =>
    obtain ⟨z0, rfl, -⟩ := agg_int Tryd.underlying44 h0 0 _ rfl Tryd.underlying3 c0 (by simp [cellsI])
    obtain ⟨z1, rfl, -⟩ := agg_int Tryd.underlying44 h0 1 _ rfl Tryd.underlying3 c1 (by simp [cellsI])
    obtain ⟨z2, rfl, -⟩ := agg_int Tryd.underlying44 h0 2 _ rfl Tryd.underlying3 c2 (by simp [cellsI])
    obtain ⟨z3, rfl, -⟩ := agg_int Tryd.underlying44 h0 3 _ rfl Tryd.underlying3 c3 (by simp [cellsI])
    obtain ⟨z4, rfl, -⟩ := agg_string Tryd.underlying44 h0 4 _ rfl Tryd.underlying9 c4 (by simp [cellsS])
    exact goes_walk z0 z1 z2 z3 z4 W ht
set_option maxRecDepth 100000 in
theorem planeBack_law (h : LawIn enc Tryd.prog Tryd.f5 Rows.planeBackRow.laid W base args ds gs before) :
    Calls Tryd.prog 5 args W fun e W' => e = .returned (.bool true) ∧ Below W.heap.size W W' := by
  have ht := tab_of h.laid
  obtain ⟨hA, rfl, hlt⟩ := h.trod
  have hval := h.val
  rw [Tryd.params5] at hA hval
  obtain ⟨v0, vs0, d0, ds0, p0, q0, hargs, rfl, rfl, h0, r0⟩ := trodAll_cons hA
  obtain ⟨rfl, rfl, rfl⟩ := trodAll_nil r0
  obtain rfl : args = #[v0] := by cases args; simp_all
  obtain ⟨cs, rfl, hsz⟩ := okWide_struct Tryd.underlying58 (hval 0 58 v0 rfl rfl)
  obtain ⟨l⟩ := cs
  match l, hsz.trans cellsTwo with
  | [c0, c1, c2, c3, c4], _ =>
    obtain ⟨z0, rfl, k0⟩ := agg_int Tryd.underlying58 h0 0 _ rfl Tryd.underlying56 c0 (by simp [cells8])
    obtain ⟨z1, rfl, k1⟩ := agg_int Tryd.underlying58 h0 1 _ rfl Tryd.underlying56 c1 (by simp [cells8])
    obtain ⟨z2, rfl, k2⟩ := agg_int Tryd.underlying58 h0 2 _ rfl Tryd.underlying56 c2 (by simp [cells8])
    obtain ⟨z3, rfl, k3⟩ := agg_int Tryd.underlying58 h0 3 _ rfl Tryd.underlying56 c3 (by simp [cells8])
    obtain ⟨z4, rfl, k4⟩ := agg_int Tryd.underlying58 h0 4 _ rfl Tryd.underlying21 c4 (by simp [cells32])
    have b0 := bounds_i8 k0
    have b1 := bounds_i8 k1
    have b2 := bounds_i8 k2
    have b3 := bounds_i8 k3
    have b4 := bounds_i32 k4
    exact back_walk z0 z1 z2 z3 z4 b0 b1 b2 b3 b4 W ht
end
end Go.Proofs.YtmbdaaiknjebmaaDoor
