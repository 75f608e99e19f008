/- The laws of layer 7, from their rows' conditions. Own work. -/
import Derived.Test.YtdkliknnnolngaaDoorTells07
import Derived.Test.YtdkliknnnolngaaDoorLast07
import Derived.Test.YtdkliknnnolngaaDoorFrame
import Derived.Lib.LaidTab
import Derived.ChangeMaps5
import Derived.Deep.Slices
namespace Go.Proofs.YtdkliknnnolngaaDoor
open Go.ChangeShapes Go.WideShapes Go.ChangeAt Go.RowKit Cyc

theorem gRing : Tryd.prog.globalNamed "kevel/cycle.beaters" = some 0 := by kernel_rfl
theorem tyRing : (Tryd.prog.globals[0]?).map (·.type) = some 55 := by kernel_rfl
theorem cellsRing : Tryd.prog.cellsOf 55 = 3 := by kernel_rfl
theorem cellsI : Tryd.prog.cellsOf 3 = 1 := by kernel_rfl
theorem tab_of {W : World} (h : laidMetH Tryd.prog Rows.stampsTellsRow.laid W) : Ring W := by
  have h1 : Lib.TabIs Tryd.prog W "kevel/cycle.beaters" .i64 [1, 2, 0] :=
    Lib.tabIs_of_head (rest := []) gRing tyRing Tryd.underlying55 Tryd.underlying3 cellsI cellsRing h
  exact ⟨h1.cell gRing 0 (by decide), h1.cell gRing 1 (by decide), h1.cell gRing 2 (by decide)⟩
section
variable {H : Type} {enc : TypeId × Value → H} {W : World} {base : Nat} {args : Array Value} {ds gs : List (DataW H)} {before : List MemPlace}
/-- A value that came in as a slice of ints reads as a list. -/
theorem ints_at {b : Nat} {sp : Nat → Bool} {held : Bool} {fuel : Nat} {v : Value} {x : DataW H × List MemPlace} (hf : DataW.trod enc Tryd.prog W b sp held fuel 31 [v] = some x) : ∃ l : List Int, VI W v l := by
  rcases open_ints Tryd.underlying31 Tryd.underlying3 cellsI hf with ⟨hcs, hx⟩ | ⟨a, len', cap', zs, hcs, _, hle, hmax, hall, hx, hcell, hwf⟩
  · have e : v = .slice none 0 0 := by simpa using hcs
    subst e
    exact ⟨[], none, 0, rfl, RI.nil _⟩
  · have e : v = .slice (some a) len' cap' := by simpa using hcs
    subst e
    have hz : len' ≤ zs.length := by rw [hall]; split <;> omega
    have hl : (zs.take len').length = len' := by rw [List.length_take]; omega
    refine ⟨zs.take len', some a, cap', by rw [hl], by rw [hl]; exact hle, hmax, (fun e => by cases e), fun k hk => ⟨a, rfl, ?_⟩⟩
    rw [hl] at hk
    rw [hcell k (by omega), List.getElem_take, List.getD_eq_getElem?_getD, List.getElem?_eq_getElem (by omega)]
    rfl
theorem cellsRow : Tryd.prog.cellsOf 31 = 1 := by kernel_rfl
/-- A slice of rows that came in. -/
theorem rows_of {A : Option Addr} {len cap : Nat} {sp : Nat → Bool} {d : DataW H} {p : List MemPlace} (h : DataW.Trod enc Tryd.prog W 0 sp true 22 (.slice A len cap) d p) : ∃ L : List (List Int), L.length = len ∧ RR W A cap L := by
  obtain ⟨fuel, hf⟩ := h
  rcases Go.Deep.open_slice1 Tryd.underlying22 cellsRow hf with ⟨hcs, hx⟩ | ⟨a, len', cap', m, n, V, D, Pl, hcs, _, hle, hmax, hm, hx, hall⟩
  · have e : Value.slice A len cap = .slice none 0 0 := by simpa [Value.cells] using hcs
    cases e
    exact ⟨[], rfl, RR.nil _⟩
  · have e : Value.slice A len cap = .slice (some a) len' cap' := by simpa [Value.cells] using hcs
    cases e
    have hlm : len ≤ m := by rw [hm]; split <;> omega
    have hG : ∀ i, ∃ l : List Int, i < len → VI W (V i) l := fun i => by
      by_cases hi : i < len
      · obtain ⟨l, hl⟩ := ints_at (hall i (by omega)).2
        exact ⟨l, fun _ => hl⟩
      · exact ⟨[], fun h => absurd h hi⟩
    refine ⟨(List.range len).map fun i => Classical.choose (hG i), by simp, (List.range len).map V, ⟨by simpa using hle, hmax, (fun e => by cases e), fun k hk => ⟨a, rfl, ?_⟩⟩, by simp, fun k l hl => ?_⟩
    · rw [List.length_map, List.length_range] at hk
      rw [(hall k (by omega)).1]
      simp
    · have hk : k < len := by
        rcases Nat.lt_or_ge k len with h1 | h1
        · exact h1
        · rw [List.getElem?_eq_none (by simpa using h1)] at hl; cases hl
      rw [List.getElem?_map, List.getElem?_range hk] at hl ⊢
      simp only [Option.map_some, Option.some.injEq] at hl ⊢
      exact ⟨_, rfl, by rw [← hl]; exact Classical.choose_spec (hG k) hk⟩
theorem cellsB : Tryd.prog.cellsOf 5 = 1 := by kernel_rfl
/-- A slice of bytes that came in. -/
theorem bytes_of {A : Option Addr} {len cap : Nat} {sp : Nat → Bool} {d : DataW H} {p : List MemPlace} (h : DataW.Trod enc Tryd.prog W 0 sp true 40 (.slice A len cap) d p) : ∃ s : List UInt8, s.length = len ∧ RV W A cap (s.map byteOf) := by
  obtain ⟨fuel, hf⟩ := h
  rcases open_ints Tryd.underlying40 Tryd.underlying5 cellsB hf with ⟨hcs, hx⟩ | ⟨a, len', cap', zs, hcs, _, hle, hmax, hall, hx, hcell, hwf⟩
  · have e : Value.slice A len cap = .slice none 0 0 := by simpa [Value.cells] using hcs
    cases e
    exact ⟨[], rfl, RV.nil _⟩
  · have e : Value.slice A len cap = .slice (some a) len' cap' := by simpa [Value.cells] using hcs
    cases e
    have hz : len ≤ zs.length := by rw [hall]; split <;> omega
    refine ⟨(zs.take len).map fun z => UInt8.ofNat z.toNat, by rw [List.length_map, List.length_take]; omega, by rw [List.length_map, List.length_map, List.length_take]; omega, hmax, (fun e => by cases e), fun k hk => ⟨a, rfl, ?_⟩⟩
    rw [List.length_map, List.length_map, List.length_take] at hk
    have hc := hcell k (by omega)
    rw [List.getD_eq_getElem?_getD, List.getElem?_eq_getElem (by omega), Option.getD_some] at hc
    have hb := bounds_u8 (hwf zs[k] (List.getElem_mem _))
    rw [hc, List.getElem_map, List.getElem_map, List.getElem_take]
    unfold byteOf
    congr 2
    simp; omega
theorem stampsTells_law (h : LawIn enc Tryd.prog Tryd.f3 Rows.stampsTellsRow.laid W base args ds gs before) :
    Calls Tryd.prog 3 args W fun e W' => e = .returned (.bool true) ∧ Below W.heap.size W W' := by
  have ht := tab_of h.laid
  obtain ⟨hA, rfl, hlt⟩ := h.trod
  have hval := h.val
  rw [Tryd.params3] at hA hval
  obtain ⟨v0, vs0, d0, ds0, p0, q0, hargs, rfl, rfl, h0, r0⟩ := trodAll_cons hA
  obtain ⟨v1, vs1, d1, ds1, p1, q1, rfl, rfl, rfl, h1, r1⟩ := trodAll_cons r0
  obtain ⟨v2, vs2, d2, ds2, p2, q2, rfl, rfl, rfl, h2, r2⟩ := trodAll_cons r1
  obtain ⟨v3, vs3, d3, ds3, p3, q3, rfl, rfl, rfl, h3, r3⟩ := trodAll_cons r2
  obtain ⟨rfl, rfl, rfl⟩ := trodAll_nil r3
  obtain rfl : args = #[v0, v1, v2, v3] := by cases args; simp_all
  obtain ⟨A0, len0, cap0, rfl⟩ := okWide_slice Tryd.underlying22 (hval 0 22 v0 rfl rfl)
  obtain ⟨l0, hl0, hr0⟩ := rows_of h0
  obtain ⟨a1, rfl, rfl, rfl, w1⟩ := open_int Tryd.underlying3 (hval 1 3 v1 rfl rfl) h1
  have b1 := bounds_i64 w1
  obtain ⟨a2, rfl, rfl, rfl, w2⟩ := open_int Tryd.underlying3 (hval 2 3 v2 rfl rfl) h2
  have b2 := bounds_i64 w2
  obtain ⟨a3, rfl, rfl, rfl, w3⟩ := open_int Tryd.underlying3 (hval 3 3 v3 rfl rfl) h3
  have b3 := bounds_i64 w3
  exact tells_is A0 cap0 len0 l0 hl0 a1 a2 a3 W ht hr0
theorem stampsLast_law (h : LawIn enc Tryd.prog Tryd.f4 Rows.stampsLastRow.laid W base args ds gs before) :
    Calls Tryd.prog 4 args W fun e W' => e = .returned (.bool true) ∧ Below W.heap.size W W' := by
  have ht := tab_of h.laid
  obtain ⟨hA, rfl, hlt⟩ := h.trod
  have hval := h.val
  rw [Tryd.params4] at hA hval
  obtain ⟨v0, vs0, d0, ds0, p0, q0, hargs, rfl, rfl, h0, r0⟩ := trodAll_cons hA
  obtain ⟨v1, vs1, d1, ds1, p1, q1, rfl, rfl, rfl, h1, r1⟩ := trodAll_cons r0
  obtain ⟨rfl, rfl, rfl⟩ := trodAll_nil r1
  obtain rfl : args = #[v0, v1] := by cases args; simp_all
  obtain ⟨a0, rfl, rfl, rfl, w0⟩ := open_int Tryd.underlying5 (hval 0 5 v0 rfl rfl) h0
  have b0 := bounds_u8 w0
  obtain ⟨A1, len1, cap1, rfl⟩ := okWide_slice Tryd.underlying40 (hval 1 40 v1 rfl rfl)
  obtain ⟨l1, hl1, hr1⟩ := bytes_of h1
  exact lastlaw_is A1 cap1 len1 l1 hl1 a0 b0.1 (by omega) W ht hr1
end
end Go.Proofs.YtdkliknnnolngaaDoor
