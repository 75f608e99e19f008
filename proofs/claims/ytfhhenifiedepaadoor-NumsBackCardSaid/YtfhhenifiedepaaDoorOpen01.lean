/- The laws of layer 1, from their rows' conditions. Own work. -/
import Derived.Test.YtfhhenifiedepaaDoorLaw01
import Derived.Test.YtfhhenifiedepaaDoorFrame
namespace Go.Proofs.YtfhhenifiedepaaDoor
open Go.ChangeShapes Go.WideShapes Go.ChangeAt Go.RowKit

theorem gPow : Tryd.prog.globalNamed "internal/strconv.uint64pow10" = some 0 := by kernel_rfl
theorem tyPow : (Tryd.prog.globals[0]?).map (·.type) = some 48 := by kernel_rfl
theorem cellsPow : Tryd.prog.cellsOf 48 = 20 := by kernel_rfl
theorem cellsU64 : Tryd.prog.cellsOf 38 = 1 := by kernel_rfl

theorem cellsParts : Tryd.prog.cellsOf 33 = 5 := by kernel_rfl
theorem cellsU32 : Tryd.prog.cellsOf 30 = 1 := by kernel_rfl
theorem cellsU16 : Tryd.prog.cellsOf 31 = 1 := by kernel_rfl
theorem laidMet_tail {P : Program} {W : World} {x : String × DataW Unit} {rest : List (String × DataW Unit)} (h : laidMet P (x :: rest) W) : laidMet P rest W := by
  obtain ⟨ps, ⟨g, t, cs, fuel, p, q, hg, ht, hv, hd, hr, rfl⟩, hn, hc⟩ := h
  exact ⟨q, hr, (List.nodup_append.1 hn).2.1, fun b off hp => hc b off (List.mem_append_right _ hp)⟩
theorem tab_of {W : World} (h : laidMetH Tryd.prog Rows.numsRoundRow.laid W) : Tab W :=
  Lib.tabIs_of_head (rest := []) gPow tyPow Tryd.underlying48 Tryd.underlying38 cellsU64 cellsPow (laidMet_tail (laidMet_tail h))

section
variable {H : Type} {enc : TypeId × Value → H} {W : World} {base : Nat} {args : Array Value} {ds gs : List (DataW H)} {before : List MemPlace}

theorem numsRound_law (h : LawIn enc Tryd.prog Tryd.f5 Rows.numsRoundRow.laid W base args ds gs before) :
    Calls Tryd.prog 5 args W fun e W' => e = .returned (.bool true) ∧ Below W.heap.size W W' := by
  have ht := tab_of h.laid
  obtain ⟨hA, rfl, hlt⟩ := h.trod
  have hval := h.val
  rw [Tryd.params5] at hA hval
  obtain ⟨v0, vs0, d0, ds0, p0, q0, hargs, rfl, rfl, h0, r0⟩ := trodAll_cons hA
  obtain ⟨v1, vs1, d1, ds1, p1, q1, rfl, rfl, rfl, h1, r1⟩ := trodAll_cons r0
  obtain ⟨rfl, rfl, rfl⟩ := trodAll_nil r1
  obtain rfl : args = #[v0, v1] := by cases args; simp_all
  obtain ⟨a0, rfl, rfl, rfl, w0⟩ := open_int Tryd.underlying21 (hval 0 21 v0 rfl rfl) h0
  obtain ⟨a1, rfl, rfl, rfl, w1⟩ := open_int Tryd.underlying31 (hval 1 31 v1 rfl rfl) h1
  have b0 := bounds_i32 w0
  have b1 := bounds_u16 w1
  exact round_walk a0 a1 b0.1 b0.2 b1.1 b1.2 W ht

theorem numsTells_law (h : LawIn enc Tryd.prog Tryd.f3 Rows.numsTellsRow.laid W base args ds gs before) :
    Calls Tryd.prog 3 args W fun e W' => e = .returned (.bool true) ∧ Below W.heap.size W W' := by
  have ht := tab_of h.laid
  obtain ⟨hA, rfl, hlt⟩ := h.trod
  have hval := h.val
  rw [Tryd.params3] at hA hval
  obtain ⟨v0, vs0, d0, ds0, p0, q0, hargs, rfl, rfl, h0, r0⟩ := trodAll_cons hA
  obtain ⟨v1, vs1, d1, ds1, p1, q1, rfl, rfl, rfl, h1, r1⟩ := trodAll_cons r0
  obtain ⟨v2, vs2, d2, ds2, p2, q2, rfl, rfl, rfl, h2, r2⟩ := trodAll_cons r1
  obtain ⟨rfl, rfl, rfl⟩ := trodAll_nil r2
  obtain rfl : args = #[v0, v1, v2] := by cases args; simp_all
  obtain ⟨a0, rfl, rfl, rfl, w0⟩ := open_int Tryd.underlying3 (hval 0 3 v0 rfl rfl) h0
  obtain ⟨a1, rfl, rfl, rfl, w1⟩ := open_int Tryd.underlying3 (hval 1 3 v1 rfl rfl) h1
  obtain ⟨a2, rfl, rfl, rfl, w2⟩ := open_int Tryd.underlying3 (hval 2 3 v2 rfl rfl) h2
  have b0 := bounds_i64 w0
  exact tells_walk a0 a1 a2 b0.1 b0.2 W ht

theorem numsBack_law (h : LawIn enc Tryd.prog Tryd.f4 Rows.numsBackRow.laid W base args ds gs before) :
    Calls Tryd.prog 4 args W fun e W' => e = .returned (.bool true) ∧ Below W.heap.size W W' := by
  have ht := tab_of h.laid
  obtain ⟨hA, rfl, hlt⟩ := h.trod
  have hval := h.val
  rw [Tryd.params4] at hA hval
  obtain ⟨v0, vs0, d0, ds0, p0, q0, hargs, rfl, rfl, h0, r0⟩ := trodAll_cons hA
  obtain ⟨rfl, rfl, rfl⟩ := trodAll_nil r0
  obtain rfl : args = #[v0] := by cases args; simp_all
  obtain ⟨cs, rfl, hsz⟩ := okWide_struct Tryd.underlying33 (hval 0 33 v0 rfl rfl)
  obtain ⟨l⟩ := cs
  match l, hsz.trans cellsParts with
  | [c0, c1, c2, c3, c4], _ =>
    obtain ⟨z0, rfl, k0⟩ := agg_int Tryd.underlying33 h0 0 _ rfl Tryd.underlying30 c0 (by simp [cellsU32])
    obtain ⟨z1, rfl, k1⟩ := agg_int Tryd.underlying33 h0 1 _ rfl Tryd.underlying30 c1 (by simp [cellsU32])
    obtain ⟨z2, rfl, k2⟩ := agg_int Tryd.underlying33 h0 2 _ rfl Tryd.underlying30 c2 (by simp [cellsU32])
    obtain ⟨z3, rfl, k3⟩ := agg_int Tryd.underlying33 h0 3 _ rfl Tryd.underlying30 c3 (by simp [cellsU32])
    obtain ⟨z4, rfl, k4⟩ := agg_int Tryd.underlying33 h0 4 _ rfl Tryd.underlying31 c4 (by simp [cellsU16])
    have b0 := bounds_u32 k0
    have b1 := bounds_u32 k1
    have b2 := bounds_u32 k2
    have b3 := bounds_u32 k3
    have b4 := bounds_u16 k4
    exact back_walk z0 z1 z2 z3 z4 b0.1 b0.2 b1.1 b1.2 b2.1 b2.2 b3.1 b3.2 b4.1 b4.2 W ht
end
end Go.Proofs.YtfhhenifiedepaaDoor
