/- The laws of layer 3, from their rows' conditions. Own work. -/
import Derived.Test.YtgbbbokfdoeniaaReads03
import Derived.Test.YtgbbbokfdoeniaaBack03
import Derived.Test.YtgbbbokfdoeniaaFrame
namespace Go.Proofs.Ytgbbbokfdoeniaa
open Go.ChangeShapes Go.WideShapes Go.ChangeAt Go.RowKit Wire

theorem cellsI : Try.prog.cellsOf 3 = 1 := by kernel_rfl
theorem cellsB : Try.prog.cellsOf 5 = 1 := by kernel_rfl
theorem cellsW : Try.prog.cellsOf 40 = 1 := by kernel_rfl
section
variable {H : Type} {enc : TypeId × Value → H} {W : World} {base : Nat} {args : Array Value} {ds gs : List (DataW H)} {before : List MemPlace}
/-- A slice of ints that came in reads as a list. -/
theorem ints_of {A : Option Addr} {len cap : Nat} {sp : Nat → Bool} {d : DataW H} {p : List MemPlace} (h : DataW.Trod enc Try.prog W 0 sp true 23 (.slice A len cap) d p) : ∃ l : List Int, l.length = len ∧ l.length ≤ maxLen ∧ Reads W A l := by
  obtain ⟨fuel, hf⟩ := h
  rcases open_ints Try.underlying23 Try.underlying3 cellsI hf with ⟨hcs, hx⟩ | ⟨a, len', cap', zs, hcs, _, hle, hmax, hall, hx, hcell, hwf⟩
  · have e : Value.slice A len cap = .slice none 0 0 := by simpa [Value.cells] using hcs
    cases e
    exact ⟨[], rfl, Nat.zero_le _, fun k hk => absurd hk (by simp)⟩
  · have e : Value.slice A len cap = .slice (some a) len' cap' := by simpa [Value.cells] using hcs
    cases e
    have hz : len ≤ zs.length := by rw [hall]; split <;> omega
    refine ⟨zs.take len, by rw [List.length_take]; omega, by rw [List.length_take]; omega, fun k hk => ⟨a, rfl, ?_⟩⟩
    rw [List.length_take] at hk
    rw [hcell k (by omega), List.getElem_take, List.getD_eq_getElem?_getD, List.getElem?_eq_getElem (by omega)]
    rfl
/-- A slice of bytes. -/
theorem bytes_of {A : Option Addr} {len cap : Nat} {sp : Nat → Bool} {d : DataW H} {p : List MemPlace} (h : DataW.Trod enc Try.prog W 0 sp true 22 (.slice A len cap) d p) : ∃ L : List UInt8, L.length = len ∧ BR W W.heap.size A cap L := by
  obtain ⟨fuel, hf⟩ := h
  rcases open_ints Try.underlying22 Try.underlying5 cellsB hf with ⟨hcs, hx⟩ | ⟨a, len', cap', zs, hcs, _, hle, hmax, hall, hx, hcell, hwf⟩
  · have e : Value.slice A len cap = .slice none 0 0 := by simpa [Value.cells] using hcs
    cases e
    exact ⟨[], rfl, BR.nil _ _⟩
  · have e : Value.slice A len cap = .slice (some a) len' cap' := by simpa [Value.cells] using hcs
    cases e
    have hz : len ≤ zs.length := by rw [hall]; split <;> omega
    refine ⟨(zs.take len).map fun z => UInt8.ofNat z.toNat, by rw [List.length_map, List.length_take]; omega, by rw [List.length_map, List.length_take]; omega, hmax, (fun e => by cases e), fun k hk => ⟨a, rfl, ?_⟩⟩
    rw [List.length_map, List.length_take] at hk
    have hc := hcell k (by omega)
    rw [List.getD_eq_getElem?_getD, List.getElem?_eq_getElem (by omega), Option.getD_some] at hc
    have hb := bounds_u8 (hwf zs[k] (List.getElem_mem _))
    refine ⟨by have := cell_lt hc; rwa [add_block] at this, ?_⟩
    rw [hc, List.getElem_map, List.getElem_take]
    congr 2
    simp; omega
/-- A slice of numbers of 32 bits. -/
theorem words_of {A : Option Addr} {len cap : Nat} {sp : Nat → Bool} {d : DataW H} {p : List MemPlace} (h : DataW.Trod enc Try.prog W 0 sp true 39 (.slice A len cap) d p) : ∃ l : List Nat, l.length = len ∧ l.length ≤ maxLen ∧ Reads32 W A l := by
  obtain ⟨fuel, hf⟩ := h
  rcases open_ints Try.underlying39 Try.underlying40 cellsW hf with ⟨hcs, hx⟩ | ⟨a, len', cap', zs, hcs, _, hle, hmax, hall, hx, hcell, hwf⟩
  · have e : Value.slice A len cap = .slice none 0 0 := by simpa [Value.cells] using hcs
    cases e
    exact ⟨[], rfl, Nat.zero_le _, fun k hk => absurd hk (by simp)⟩
  · have e : Value.slice A len cap = .slice (some a) len' cap' := by simpa [Value.cells] using hcs
    cases e
    have hz : len ≤ zs.length := by rw [hall]; split <;> omega
    refine ⟨(zs.take len).map fun z => z.toNat, by rw [List.length_map, List.length_take]; omega, by rw [List.length_map, List.length_take]; omega, fun k hk => ⟨a, rfl, ?_⟩⟩
    rw [List.length_map, List.length_take] at hk
    have hc := hcell k (by omega)
    rw [List.getD_eq_getElem?_getD, List.getElem?_eq_getElem (by omega), Option.getD_some] at hc
    have hb := bounds_u32 (hwf zs[k] (List.getElem_mem _))
    refine ⟨by have := cell_lt hc; rwa [add_block] at this, ?_, ?_⟩
    · rw [hc, List.getElem_map, List.getElem_take]
      congr 2
      omega
    · rw [List.getElem_map, List.getElem_take]; omega

theorem wirePuts_law (h : LawIn enc Try.prog Try.f3 Rows.wirePutsRow.laid W base args ds gs before) :
    Calls Try.prog 3 args W fun e W' => e = .returned (.bool true) ∧ Below W.heap.size W W' := by
  obtain ⟨hA, rfl, hlt⟩ := h.trod
  have hval := h.val
  rw [Try.params3] at hA hval
  obtain ⟨v0, vs0, d0, ds0, p0, q0, hargs, rfl, rfl, h0, r0⟩ := trodAll_cons hA
  obtain ⟨v1, vs1, d1, ds1, p1, q1, rfl, rfl, rfl, h1, r1⟩ := trodAll_cons r0
  obtain ⟨rfl, rfl, rfl⟩ := trodAll_nil r1
  obtain rfl : args = #[v0, v1] := by cases args; simp_all
  obtain ⟨A, len, cap, rfl⟩ := okWide_slice Try.underlying22 (hval 0 22 v0 rfl rfl)
  obtain ⟨A', len', cap', rfl⟩ := okWide_slice Try.underlying23 (hval 1 23 v1 rfl rfl)
  obtain ⟨L, hL, hB⟩ := bytes_of h0
  obtain ⟨l, hl, hm, hr⟩ := ints_of h1
  subst hL; subst hl
  exact puts_walk A cap L A' cap' l W hB hr hm
theorem wireReads_law (h : LawIn enc Try.prog Try.f4 Rows.wireReadsRow.laid W base args ds gs before) :
    Calls Try.prog 4 args W fun e W' => e = .returned (.bool true) ∧ Below W.heap.size W W' := by
  obtain ⟨hA, rfl, hlt⟩ := h.trod
  have hval := h.val
  rw [Try.params4] at hA hval
  obtain ⟨v0, vs0, d0, ds0, p0, q0, hargs, rfl, rfl, h0, r0⟩ := trodAll_cons hA
  obtain ⟨v1, vs1, d1, ds1, p1, q1, rfl, rfl, rfl, h1, r1⟩ := trodAll_cons r0
  obtain ⟨rfl, rfl, rfl⟩ := trodAll_nil r1
  obtain rfl : args = #[v0, v1] := by cases args; simp_all
  obtain ⟨A, len, cap, rfl⟩ := okWide_slice Try.underlying22 (hval 0 22 v0 rfl rfl)
  obtain ⟨A', len', cap', rfl⟩ := okWide_slice Try.underlying23 (hval 1 23 v1 rfl rfl)
  obtain ⟨L, hL, hB⟩ := bytes_of h0
  obtain ⟨l, hl, hm, hr⟩ := ints_of h1
  subst hL; subst hl
  exact reads_walk A cap L A' cap' l W hB hr hm
theorem wireBack_law (h : LawIn enc Try.prog Try.f5 Rows.wireBackRow.laid W base args ds gs before) :
    Calls Try.prog 5 args W fun e W' => e = .returned (.bool true) ∧ Below W.heap.size W W' := by
  obtain ⟨hA, rfl, hlt⟩ := h.trod
  have hval := h.val
  rw [Try.params5] at hA hval
  obtain ⟨v0, vs0, d0, ds0, p0, q0, hargs, rfl, rfl, h0, r0⟩ := trodAll_cons hA
  obtain ⟨v1, vs1, d1, ds1, p1, q1, rfl, rfl, rfl, h1, r1⟩ := trodAll_cons r0
  obtain ⟨rfl, rfl, rfl⟩ := trodAll_nil r1
  obtain rfl : args = #[v0, v1] := by cases args; simp_all
  obtain ⟨A, len, cap, rfl⟩ := okWide_slice Try.underlying39 (hval 0 39 v0 rfl rfl)
  obtain ⟨A', len', cap', rfl⟩ := okWide_slice Try.underlying22 (hval 1 22 v1 rfl rfl)
  obtain ⟨l, hl, hm, hr⟩ := words_of h0
  obtain ⟨L, hL, hB⟩ := bytes_of h1
  subst hL; subst hl
  exact back_walk A cap l A' cap' L W hr hm hB
theorem wireNobody_law (h : LawIn enc Try.prog Try.f6 Rows.wireNobodyRow.laid W base args ds gs before) :
    Calls Try.prog 6 args W fun e W' => e = .returned (.bool true) ∧ Below W.heap.size W W' := by
  obtain ⟨hA, rfl, hlt⟩ := h.trod
  have hval := h.val
  rw [Try.params6] at hA hval
  obtain ⟨v0, vs0, d0, ds0, p0, q0, hargs, rfl, rfl, h0, r0⟩ := trodAll_cons hA
  obtain ⟨rfl, rfl, rfl⟩ := trodAll_nil r0
  obtain rfl : args = #[v0] := by cases args; simp_all
  obtain ⟨a0, rfl, rfl, rfl, w0⟩ := open_int Try.underlying3 (hval 0 3 v0 rfl rfl) h0
  exact nobody_walk a0 W
end
end Go.Proofs.Ytgbbbokfdoeniaa
