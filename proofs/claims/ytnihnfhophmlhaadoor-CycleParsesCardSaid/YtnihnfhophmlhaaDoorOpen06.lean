/- The laws of layer 6, from their rows' conditions. Own work. -/
import Derived.Test.YtnihnfhophmlhaaDoorLaw06c
import Derived.Test.YtnihnfhophmlhaaDoorFrame
import Derived.Lib.LaidTab
import Derived.ChangeMaps5
namespace Go.Proofs.YtnihnfhophmlhaaDoor
open Go.ChangeShapes Go.WideShapes Go.ChangeAt Go.RowKit Cyc

theorem gRing : Tryd.prog.globalNamed "kevel/cycle.beaters" = some 0 := by kernel_rfl
theorem tyRing : (Tryd.prog.globals[0]?).map (·.type) = some 40 := by kernel_rfl
theorem cellsRing : Tryd.prog.cellsOf 40 = 3 := by kernel_rfl
theorem cellsI : Tryd.prog.cellsOf 3 = 1 := by kernel_rfl
theorem tab_of {W : World} (h : laidMetH Tryd.prog Rows.cycleTellsRow.laid W) : Ring W := by
  have h1 : Lib.TabIs Tryd.prog W "kevel/cycle.beaters" .i64 [1, 2, 0] :=
    Lib.tabIs_of_head (rest := []) gRing tyRing Tryd.underlying40 Tryd.underlying3 cellsI cellsRing h
  exact ⟨h1.cell gRing 0 (by decide), h1.cell gRing 1 (by decide), h1.cell gRing 2 (by decide)⟩
theorem str_list (S : ByteArray) (h : S.size ≤ maxLen) : ∃ s : List UInt8, s.length ≤ maxLen ∧ S = ⟨s.toArray⟩ := ⟨S.data.toList, by rw [Array.length_toList]; exact h, by cases S; rfl⟩
section
variable {H : Type} {enc : TypeId × Value → H} {W : World} {base : Nat} {args : Array Value} {ds gs : List (DataW H)} {before : List MemPlace}
/-- A slice of ints that came in reads as a list. -/
theorem ints_of {A : Option Addr} {len cap : Nat} {sp : Nat → Bool} {d : DataW H} {p : List MemPlace} (h : DataW.Trod enc Tryd.prog W 0 sp true 22 (.slice A len cap) d p) : ∃ l : List Int, l.length = len ∧ RI W A cap l := by
  obtain ⟨fuel, hf⟩ := h
  rcases open_ints Tryd.underlying22 Tryd.underlying3 cellsI hf with ⟨hcs, hx⟩ | ⟨a, len', cap', zs, hcs, _, hle, hmax, hall, hx, hcell, hwf⟩
  · have e : Value.slice A len cap = .slice none 0 0 := by simpa [Value.cells] using hcs
    cases e
    exact ⟨[], rfl, RI.nil _⟩
  · have e : Value.slice A len cap = .slice (some a) len' cap' := by simpa [Value.cells] using hcs
    cases e
    have hz : len ≤ zs.length := by rw [hall]; split <;> omega
    refine ⟨zs.take len, by rw [List.length_take]; omega, by rw [List.length_take]; omega, hmax, (fun e => by cases e), fun k hk => ⟨a, rfl, ?_⟩⟩
    rw [List.length_take] at hk
    rw [hcell k (by omega), List.getElem_take, List.getD_eq_getElem?_getD, List.getElem?_eq_getElem (by omega)]
    rfl
theorem cycleTells_law (h : LawIn enc Tryd.prog Tryd.f3 Rows.cycleTellsRow.laid W base args ds gs before) :
    Calls Tryd.prog 3 args W fun e W' => e = .returned (.bool true) ∧ Below W.heap.size W W' := by
  have ht := tab_of h.laid
  obtain ⟨hA, rfl, hlt⟩ := h.trod
  have hval := h.val
  rw [Tryd.params3] at hA hval
  obtain ⟨v0, vs0, d0, ds0, p0, q0, hargs, rfl, rfl, h0, r0⟩ := trodAll_cons hA
  obtain ⟨v1, vs1, d1, ds1, p1, q1, rfl, rfl, rfl, h1, r1⟩ := trodAll_cons r0
  obtain ⟨v2, vs2, d2, ds2, p2, q2, rfl, rfl, rfl, h2, r2⟩ := trodAll_cons r1
  obtain ⟨v3, vs3, d3, ds3, p3, q3, rfl, rfl, rfl, h3, r3⟩ := trodAll_cons r2
  obtain ⟨rfl, rfl, rfl⟩ := trodAll_nil r3
  obtain rfl : args = #[v0, v1, v2, v3] := by cases args; simp_all
  obtain ⟨A0, len0, cap0, rfl⟩ := okWide_slice Tryd.underlying22 (hval 0 22 v0 rfl rfl)
  obtain ⟨l0, hl0, hr0⟩ := ints_of h0
  obtain ⟨A1, len1, cap1, rfl⟩ := okWide_slice Tryd.underlying22 (hval 1 22 v1 rfl rfl)
  obtain ⟨l1, hl1, hr1⟩ := ints_of h1
  obtain ⟨a2, rfl, rfl, rfl, w2⟩ := open_int Tryd.underlying3 (hval 2 3 v2 rfl rfl) h2
  have b2 := bounds_i64 w2
  obtain ⟨a3, rfl, rfl, rfl, w3⟩ := open_int Tryd.underlying3 (hval 3 3 v3 rfl rfl) h3
  have b3 := bounds_i64 w3
  exact tells_walk A0 A1 cap0 cap1 len0 len1 l0 l1 hl0 hl1 a2 a3 W ht hr0 hr1
theorem cycleParses_law (h : LawIn enc Tryd.prog Tryd.f4 Rows.cycleParsesRow.laid W base args ds gs before) :
    Calls Tryd.prog 4 args W fun e W' => e = .returned (.bool true) ∧ Below W.heap.size W W' := by
  have ht := tab_of h.laid
  obtain ⟨hA, rfl, hlt⟩ := h.trod
  have hval := h.val
  rw [Tryd.params4] at hA hval
  obtain ⟨v0, vs0, d0, ds0, p0, q0, hargs, rfl, rfl, h0, r0⟩ := trodAll_cons hA
  obtain ⟨v1, vs1, d1, ds1, p1, q1, rfl, rfl, rfl, h1, r1⟩ := trodAll_cons r0
  obtain ⟨rfl, rfl, rfl⟩ := trodAll_nil r1
  obtain rfl : args = #[v0, v1] := by cases args; simp_all
  obtain ⟨S0, rfl, rfl, rfl, hS0⟩ := Go.ChangeMaps.open_string Tryd.underlying9 (hval 0 9 v0 rfl rfl) h0
  obtain ⟨s0, hs0, rfl⟩ := str_list S0 hS0
  obtain ⟨A1, len1, cap1, rfl⟩ := okWide_slice Tryd.underlying22 (hval 1 22 v1 rfl rfl)
  obtain ⟨l1, hl1, hr1⟩ := ints_of h1
  exact parses_walk s0 hs0 A1 cap1 len1 l1 hl1 W ht hr1
theorem cycleOne_law (h : LawIn enc Tryd.prog Tryd.f5 Rows.cycleOneRow.laid W base args ds gs before) :
    Calls Tryd.prog 5 args W fun e W' => e = .returned (.bool true) ∧ Below W.heap.size W W' := by
  have ht := tab_of h.laid
  obtain ⟨hA, rfl, hlt⟩ := h.trod
  have hval := h.val
  rw [Tryd.params5] at hA hval
  obtain ⟨v0, vs0, d0, ds0, p0, q0, hargs, rfl, rfl, h0, r0⟩ := trodAll_cons hA
  obtain ⟨v1, vs1, d1, ds1, p1, q1, rfl, rfl, rfl, h1, r1⟩ := trodAll_cons r0
  obtain ⟨rfl, rfl, rfl⟩ := trodAll_nil r1
  obtain rfl : args = #[v0, v1] := by cases args; simp_all
  obtain ⟨A0, len0, cap0, rfl⟩ := okWide_slice Tryd.underlying22 (hval 0 22 v0 rfl rfl)
  obtain ⟨l0, hl0, hr0⟩ := ints_of h0
  obtain ⟨A1, len1, cap1, rfl⟩ := okWide_slice Tryd.underlying22 (hval 1 22 v1 rfl rfl)
  obtain ⟨l1, hl1, hr1⟩ := ints_of h1
  exact one_walk A0 A1 cap0 cap1 len0 len1 l0 l1 hl0 hl1 W ht hr0 hr1
end
end Go.Proofs.YtnihnfhophmlhaaDoor
