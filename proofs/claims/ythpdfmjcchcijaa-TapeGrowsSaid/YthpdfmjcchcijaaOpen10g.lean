/- A law of layer 10, from its row's conditions. Own work. -/
import Derived.Test.YthpdfmjcchcijaaTGrow
import Derived.Test.YthpdfmjcchcijaaFrame
import Derived.ChangeMaps5
import Derived.Deep.Slices
namespace Go.Proofs.Ythpdfmjcchcijaa
open Go.ChangeShapes Go.WideShapes Go.ChangeAt Go.RowKit CellM TapeM

theorem cellsI : Try.prog.cellsOf 3 = 1 := by kernel_rfl
theorem cellsU8 : Try.prog.cellsOf 5 = 1 := by kernel_rfl
theorem cellsOp : Try.prog.cellsOf 60 = 3 := by kernel_rfl
theorem add_block_off (a : Addr) (i j : Nat) (hj : j ≠ 0) : (a.add i).add j = ⟨(a.add i).block, (a.add i).off + j, none⟩ := by
  conv => lhs; unfold Addr.add
  rw [if_neg hj]
  rfl
set_option maxRecDepth 20000
section
variable {H : Type} {enc : TypeId × Value → H} {W : World} {base : Nat} {args : Array Value} {ds gs : List (DataW H)} {before : List MemPlace}
theorem int_at {b fuel : Nat} {sp : Nat → Bool} {held : Bool} {v : Value} {x : DataW H × List MemPlace} (h : DataW.trod enc Try.prog W b sp held fuel 3 [v] = some x) : ∃ z : Int, v = .int .i64 z ∧ (Lit.int .i64 z).wf = true := by
  obtain ⟨z, hz, _, hw⟩ := DataW.trod_int Try.underlying3 h
  exact ⟨z, by simpa using hz, hw⟩
theorem u8_at {b fuel : Nat} {sp : Nat → Bool} {held : Bool} {v : Value} {x : DataW H × List MemPlace} (h : DataW.trod enc Try.prog W b sp held fuel 5 [v] = some x) : ∃ z : Int, v = .int .u8 z ∧ (Lit.int .u8 z).wf = true := by
  obtain ⟨z, hz, _, hw⟩ := DataW.trod_int Try.underlying5 h
  exact ⟨z, by simpa using hz, hw⟩
theorem op_at {b fuel : Nat} {sp : Nat → Bool} {held : Bool} {cs : List Value} {x : DataW H × List MemPlace} (h : DataW.trod enc Try.prog W b sp held fuel 60 cs = some x) : ∃ z : TapeM.Op, cs = [.int .u8 z.k, .int .i64 z.a, .int .i64 z.b] ∧ 0 ≤ z.k ∧ z.k < 256 := by
  obtain ⟨xs, m, _, _, hl, hx, hg⟩ := DataW.trod_struct Try.underlying60 h
  rw [cellsOp] at hl
  match cs, hl with
  | [c0, c1, c2], _ =>
    have hx3 : xs.length = 3 := hx
    have h0 : DataW.trod enc Try.prog W b sp held m 5 (List.take (Try.prog.cellsOf 5) (List.drop 0 [c0, c1, c2])) = xs[0]? := hg 0 _ rfl
    have h1 : DataW.trod enc Try.prog W b sp held m 3 (List.take (Try.prog.cellsOf 3) (List.drop 1 [c0, c1, c2])) = xs[1]? := hg 1 _ rfl
    have h2 : DataW.trod enc Try.prog W b sp held m 3 (List.take (Try.prog.cellsOf 3) (List.drop 2 [c0, c1, c2])) = xs[2]? := hg 2 _ rfl
    rw [List.getElem?_eq_getElem (by omega)] at h0 h1 h2
    rw [cellsU8] at h0
    rw [cellsI] at h1 h2
    obtain ⟨z0, e0, u0⟩ := u8_at (v := c0) h0
    obtain ⟨z1, e1, u1⟩ := int_at (v := c1) h1
    obtain ⟨z2, e2, u2⟩ := int_at (v := c2) h2
    have hb := bounds_u8 u0
    exact ⟨⟨z0, z1, z2⟩, by rw [e0, e1, e2], by simp only; omega, by simp only; omega⟩
/-- A slice of acts that came in. -/
theorem ops_of {A : Option Addr} {len cap : Nat} {sp : Nat → Bool} {d : DataW H} {p : List MemPlace} (h : DataW.Trod enc Try.prog W 0 sp true 22 (.slice A len cap) d p) : ∃ L : List TapeM.Op, L.length = len ∧ RO W A cap L := by
  obtain ⟨fuel, hf⟩ := h
  rcases Go.Deep.open_slice Try.underlying22 hf with ⟨hcs, hx⟩ | ⟨a, len', cap', m, n, D, Pl, hcs, _, hle, hmax, hm, hx, hall⟩
  · have e : Value.slice A len cap = .slice none 0 0 := by simpa [Value.cells] using hcs
    cases e
    exact ⟨[], rfl, Nat.le_refl _, Nat.zero_le _, fun k hk => absurd hk (by simp)⟩
  · have e : Value.slice A len cap = .slice (some a) len' cap' := by simpa [Value.cells] using hcs
    cases e
    have hlm : len ≤ m := by rw [hm]; split <;> omega
    have hG : ∀ i, ∃ z : TapeM.Op, i < len → W.cell? (a.add (i * 3)) = some (.int .u8 z.k) ∧ W.cell? ⟨(a.add (i * 3)).block, (a.add (i * 3)).off + 1, none⟩ = some (.int .i64 z.a) ∧ W.cell? ⟨(a.add (i * 3)).block, (a.add (i * 3)).off + 2, none⟩ = some (.int .i64 z.b) ∧ 0 ≤ z.k ∧ z.k < 256 := fun i => by
      by_cases hi : i < len
      · obtain ⟨cs', hc, ht⟩ := hall i (by omega)
        rw [cellsOp] at hc
        obtain ⟨_, hl, hcell⟩ := World.cells?_some hc
        obtain ⟨z, rfl, hz0, hz1⟩ := op_at ht
        have h1 := hcell 1 (by decide)
        have h2 := hcell 2 (by decide)
        rw [add_block_off _ _ _ (by decide)] at h1 h2
        exact ⟨z, fun _ => ⟨hcell 0 (by decide), h1, h2, hz0, hz1⟩⟩
      · exact ⟨default, fun h => absurd h hi⟩
    refine ⟨(List.range len).map fun i => Classical.choose (hG i), by simp, by simpa using hle, hmax, fun k hk => ⟨a, rfl, ?_⟩⟩
    rw [List.length_map, List.length_range] at hk
    have := Classical.choose_spec (hG k) hk
    simpa using this
theorem ints_of {A : Option Addr} {len cap : Nat} {sp : Nat → Bool} {d : DataW H} {p : List MemPlace} (h : DataW.Trod enc Try.prog W 0 sp true 23 (.slice A len cap) d p) : ∃ l : List Int, l.length = len ∧ RI W A cap l := by
  obtain ⟨fuel, hf⟩ := h
  rcases open_ints Try.underlying23 Try.underlying3 cellsI hf with ⟨hcs, hx⟩ | ⟨a, len', cap', zs, hcs, _, hle, hmax, hall, hx, hcell, hwf⟩
  · have e : Value.slice A len cap = .slice none 0 0 := by simpa [Value.cells] using hcs
    cases e
    exact ⟨[], rfl, RI.nil _⟩
  · have e : Value.slice A len cap = .slice (some a) len' cap' := by simpa [Value.cells] using hcs
    cases e
    have hz : len ≤ zs.length := by rw [hall]; split <;> omega
    refine ⟨zs.take len, by rw [List.length_take]; omega, by rw [List.length_take]; omega, hmax, (fun e => by cases e), fun k hk => ⟨a, rfl, ?_⟩⟩
    rw [List.length_take] at hk
    rw [hcell k (by omega), List.getElem_take, List.getD_eq_getElem?_getD, List.getElem?_eq_getElem (by omega)]
    rfl
theorem tapeGrows_law (h : LawIn enc Try.prog Try.f4 Rows.tapeGrowsRow.laid W base args ds gs before) :
    Calls Try.prog 4 args W fun e W' => e = .returned (.bool true) ∧ Below W.heap.size W W' := by
  obtain ⟨hA, rfl, hlt⟩ := h.trod
  have hval := h.val
  rw [Try.params4] at hA hval
  obtain ⟨v0, vs0, d0, ds0, p0, q0, hargs, rfl, rfl, h0, r0⟩ := trodAll_cons hA
  obtain ⟨v1, vs1, d1, ds1, p1, q1, rfl, rfl, rfl, h1, r1⟩ := trodAll_cons r0
  obtain ⟨v2, vs2, d2, ds2, p2, q2, rfl, rfl, rfl, h2, r2⟩ := trodAll_cons r1
  obtain ⟨v3, vs3, d3, ds3, p3, q3, rfl, rfl, rfl, h3, r3⟩ := trodAll_cons r2
  obtain ⟨rfl, rfl, rfl⟩ := trodAll_nil r3
  obtain rfl : args = #[v0, v1, v2, v3] := by cases args; simp_all
  obtain ⟨A0, len0, cap0, rfl⟩ := okWide_slice Try.underlying22 (hval 0 22 v0 rfl rfl)
  obtain ⟨l0, hl0, hr0⟩ := ops_of h0
  obtain ⟨A1, len1, cap1, rfl⟩ := okWide_slice Try.underlying23 (hval 1 23 v1 rfl rfl)
  obtain ⟨l1, hl1, hr1⟩ := ints_of h1
  obtain ⟨A2, len2, cap2, rfl⟩ := okWide_slice Try.underlying23 (hval 2 23 v2 rfl rfl)
  obtain ⟨l2, hl2, hr2⟩ := ints_of h2
  obtain ⟨a3, rfl, rfl, rfl, w3⟩ := open_int Try.underlying5 (hval 3 5 v3 rfl rfl) h3
  have b3 := bounds_u8 w3
  exact tapeGrows_is W a3 (by omega) A0 A1 A2 cap0 cap1 cap2 len0 len1 len2 l0 l1 l2 hl0 hl1 hl2 hr0 hr1 hr2
end
end Go.Proofs.Ythpdfmjcchcijaa
