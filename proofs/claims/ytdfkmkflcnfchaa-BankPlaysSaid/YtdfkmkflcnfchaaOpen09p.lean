/- A law of layer 9, from its row's conditions. Own work. -/
import Derived.Test.YtdfkmkflcnfchaaActs8
import Derived.Test.YtdfkmkflcnfchaaStrip
import Derived.Test.YtdfkmkflcnfchaaPlays9
import Derived.Test.YtdfkmkflcnfchaaFrame
import Derived.ChangeMaps5
import Derived.Deep.Slices
namespace Go.Proofs.Ytdfkmkflcnfchaa
open Go.ChangeShapes Go.WideShapes Go.ChangeAt Go.RowKit CellM

theorem cellsI : Try.prog.cellsOf 3 = 1 := by kernel_rfl
theorem cellsBo : Try.prog.cellsOf 4 = 1 := by kernel_rfl
theorem cellsSt : Try.prog.cellsOf 48 = 3 := by kernel_rfl
theorem cellsAc : Try.prog.cellsOf 35 = 3 := by kernel_rfl
theorem cellsA2 : Try.prog.cellsOf 37 = 6 := by kernel_rfl
theorem add_block_off (a : Addr) (i j : Nat) (hj : j ≠ 0) : (a.add i).add j = ⟨(a.add i).block, (a.add i).off + j, none⟩ := by
  conv => lhs; unfold Addr.add
  rw [if_neg hj]
  rfl
set_option maxRecDepth 20000
section
variable {H : Type} {enc : TypeId × Value → H} {W : World} {base : Nat} {args : Array Value} {ds gs : List (DataW H)} {before : List MemPlace}
theorem int_at {b fuel : Nat} {sp : Nat → Bool} {held : Bool} {v : Value} {x : DataW H × List MemPlace} (h : DataW.trod enc Try.prog W b sp held fuel 3 [v] = some x) : ∃ z : Int, v = .int .i64 z ∧ (Lit.int .i64 z).wf = true := by
  obtain ⟨z, hz, _, hw⟩ := DataW.trod_int Try.underlying3 h
  exact ⟨z, by simpa using hz, hw⟩
theorem access_at {b fuel : Nat} {sp : Nat → Bool} {held : Bool} {cs : List Value} {x : DataW H × List MemPlace} (h : DataW.trod enc Try.prog W b sp held fuel 35 cs = some x) : ∃ k c v : Int, cs = [.int .i64 k, .int .i64 c, .int .i64 v] ∧ (Lit.int .i64 c).wf = true := by
  obtain ⟨xs, m, _, _, hl, hx, hg⟩ := DataW.trod_struct Try.underlying35 h
  rw [cellsAc] at hl
  match cs, hl with
  | [c0, c1, c2], _ =>
    have hx3 : xs.length = 3 := hx
    have h0 : DataW.trod enc Try.prog W b sp held m 3 (List.take (Try.prog.cellsOf 3) (List.drop 0 [c0, c1, c2])) = xs[0]? := hg 0 _ rfl
    have h1 : DataW.trod enc Try.prog W b sp held m 3 (List.take (Try.prog.cellsOf 3) (List.drop 1 [c0, c1, c2])) = xs[1]? := hg 1 _ rfl
    have h2 : DataW.trod enc Try.prog W b sp held m 3 (List.take (Try.prog.cellsOf 3) (List.drop 2 [c0, c1, c2])) = xs[2]? := hg 2 _ rfl
    rw [cellsI, List.getElem?_eq_getElem (by omega)] at h0 h1 h2
    obtain ⟨z0, e0, u0⟩ := int_at (v := c0) h0
    obtain ⟨z1, e1, u1⟩ := int_at (v := c1) h1
    obtain ⟨z2, e2, u2⟩ := int_at (v := c2) h2
    exact ⟨z0, z1, z2, by rw [e0, e1, e2], u1⟩
theorem act_at {b fuel : Nat} {sp : Nat → Bool} {held : Bool} {cs : List Value} {x : DataW H × List MemPlace} (h : DataW.trod enc Try.prog W b sp held fuel 37 cs = some x) : ∃ z : Ac2, cs = [.bool z.e, .int .i64 z.t, .int .i64 z.n, .int .i64 z.k, .int .i64 z.c, .int .i64 z.v] ∧ (Lit.int .i64 z.c).wf = true := by
  obtain ⟨xs, m, _, _, hl, hx, hg⟩ := DataW.trod_struct Try.underlying37 h
  rw [cellsA2] at hl
  match cs, hl with
  | [c0, c1, c2, c3, c4, c5], _ =>
    have hx4 : xs.length = 4 := hx
    have h0 : DataW.trod enc Try.prog W b sp held m 4 (List.take (Try.prog.cellsOf 4) (List.drop 0 [c0, c1, c2, c3, c4, c5])) = xs[0]? := hg 0 _ rfl
    have h1 : DataW.trod enc Try.prog W b sp held m 3 (List.take (Try.prog.cellsOf 3) (List.drop 1 [c0, c1, c2, c3, c4, c5])) = xs[1]? := hg 1 _ rfl
    have h2 : DataW.trod enc Try.prog W b sp held m 3 (List.take (Try.prog.cellsOf 3) (List.drop 2 [c0, c1, c2, c3, c4, c5])) = xs[2]? := hg 2 _ rfl
    have h3 : DataW.trod enc Try.prog W b sp held m 35 (List.take (Try.prog.cellsOf 35) (List.drop 3 [c0, c1, c2, c3, c4, c5])) = xs[3]? := hg 3 _ rfl
    rw [List.getElem?_eq_getElem (by omega)] at h0 h1 h2 h3
    rw [cellsBo] at h0
    rw [cellsI] at h1 h2
    rw [cellsAc] at h3
    obtain ⟨b0, e0, _⟩ := DataW.trod_bool Try.underlying4 h0
    obtain ⟨z1, e1, u1⟩ := int_at (v := c1) h1
    obtain ⟨z2, e2, u2⟩ := int_at (v := c2) h2
    obtain ⟨k, c, v, e3, uc⟩ := access_at h3
    have e0' : c0 = .bool b0 := by simpa using e0
    have e3' : c3 = .int .i64 k ∧ c4 = .int .i64 c ∧ c5 = .int .i64 v := by simpa using e3
    obtain ⟨rfl, rfl, rfl⟩ := e3'
    exact ⟨⟨b0, z1, z2, k, c, v⟩, by rw [e0', e1, e2], uc⟩
theorem strip_at {b fuel : Nat} {sp : Nat → Bool} {held : Bool} {cs : List Value} {x : DataW H × List MemPlace} (h : DataW.trod enc Try.prog W b sp held fuel 48 cs = some x) : ∃ z : Strip, cs = [.int .i64 z.many, .int .i64 z.kind, .int .i64 z.top] := by
  obtain ⟨xs, m, _, _, hl, hx, hg⟩ := DataW.trod_struct Try.underlying48 h
  rw [cellsSt] at hl
  match cs, hl with
  | [c0, c1, c2], _ =>
    have hx3 : xs.length = 3 := hx
    have h0 : DataW.trod enc Try.prog W b sp held m 3 (List.take (Try.prog.cellsOf 3) (List.drop 0 [c0, c1, c2])) = xs[0]? := hg 0 _ rfl
    have h1 : DataW.trod enc Try.prog W b sp held m 3 (List.take (Try.prog.cellsOf 3) (List.drop 1 [c0, c1, c2])) = xs[1]? := hg 1 _ rfl
    have h2 : DataW.trod enc Try.prog W b sp held m 3 (List.take (Try.prog.cellsOf 3) (List.drop 2 [c0, c1, c2])) = xs[2]? := hg 2 _ rfl
    rw [cellsI, List.getElem?_eq_getElem (by omega)] at h0 h1 h2
    obtain ⟨z0, e0, _⟩ := int_at (v := c0) h0
    obtain ⟨z1, e1, _⟩ := int_at (v := c1) h1
    obtain ⟨z2, e2, _⟩ := int_at (v := c2) h2
    exact ⟨⟨z0, z1, z2⟩, by rw [e0, e1, e2]⟩
/-- A slice of strips that came in. -/
theorem strips_of {A : Option Addr} {len cap : Nat} {sp : Nat → Bool} {d : DataW H} {p : List MemPlace} (h : DataW.Trod enc Try.prog W 0 sp true 22 (.slice A len cap) d p) : ∃ L : List Strip, L.length = len ∧ RS W A cap L := by
  obtain ⟨fuel, hf⟩ := h
  rcases Go.Deep.open_slice Try.underlying22 hf with ⟨hcs, hx⟩ | ⟨a, len', cap', m, n, D, Pl, hcs, _, hle, hmax, hm, hx, hall⟩
  · have e : Value.slice A len cap = .slice none 0 0 := by simpa [Value.cells] using hcs
    cases e
    exact ⟨[], rfl, Nat.le_refl _, Nat.zero_le _, fun k hk => absurd hk (by simp)⟩
  · have e : Value.slice A len cap = .slice (some a) len' cap' := by simpa [Value.cells] using hcs
    cases e
    have hlm : len ≤ m := by rw [hm]; split <;> omega
    have hG : ∀ i, ∃ z : Strip, i < len → W.cell? (a.add (i * 3)) = some (.int .i64 z.many) ∧ W.cell? ⟨(a.add (i * 3)).block, (a.add (i * 3)).off + 1, none⟩ = some (.int .i64 z.kind) ∧ W.cell? ⟨(a.add (i * 3)).block, (a.add (i * 3)).off + 2, none⟩ = some (.int .i64 z.top) := fun i => by
      by_cases hi : i < len
      · obtain ⟨cs', hc, ht⟩ := hall i (by omega)
        rw [cellsSt] at hc
        obtain ⟨_, hl, hcell⟩ := World.cells?_some hc
        obtain ⟨z, rfl⟩ := strip_at ht
        have h1 := hcell 1 (by decide)
        have h2 := hcell 2 (by decide)
        rw [add_block_off _ _ _ (by decide)] at h1 h2
        exact ⟨z, fun _ => ⟨hcell 0 (by decide), h1, h2⟩⟩
      · exact ⟨default, fun h => absurd h hi⟩
    refine ⟨(List.range len).map fun i => Classical.choose (hG i), by simp, by simpa using hle, hmax, fun k hk => ⟨a, rfl, ?_⟩⟩
    rw [List.length_map, List.length_range] at hk
    have := Classical.choose_spec (hG k) hk
    simpa using this
/-- A slice of calls that came in. -/
theorem acts_of {A : Option Addr} {len cap : Nat} {sp : Nat → Bool} {d : DataW H} {p : List MemPlace} (h : DataW.Trod enc Try.prog W 0 sp true 23 (.slice A len cap) d p) : ∃ L : List Ac2, L.length = len ∧ RA W A cap L ∧ ∀ k (hk : k < L.length), (Lit.int .i64 L[k].c).wf = true := by
  obtain ⟨fuel, hf⟩ := h
  rcases Go.Deep.open_slice Try.underlying23 hf with ⟨hcs, hx⟩ | ⟨a, len', cap', m, n, D, Pl, hcs, _, hle, hmax, hm, hx, hall⟩
  · have e : Value.slice A len cap = .slice none 0 0 := by simpa [Value.cells] using hcs
    cases e
    exact ⟨[], rfl, ⟨Nat.le_refl _, Nat.zero_le _, fun k hk => absurd hk (by simp)⟩, fun k hk => absurd hk (by simp)⟩
  · have e : Value.slice A len cap = .slice (some a) len' cap' := by simpa [Value.cells] using hcs
    cases e
    have hlm : len ≤ m := by rw [hm]; split <;> omega
    have hG : ∀ i, ∃ z : Ac2, i < len → W.cell? (a.add (i * 6)) = some (.bool z.e) ∧ W.cell? ⟨(a.add (i * 6)).block, (a.add (i * 6)).off + 1, none⟩ = some (.int .i64 z.t) ∧ W.cell? ⟨(a.add (i * 6)).block, (a.add (i * 6)).off + 2, none⟩ = some (.int .i64 z.n) ∧
        W.cell? ⟨(a.add (i * 6)).block, (a.add (i * 6)).off + 3, none⟩ = some (.int .i64 z.k) ∧ W.cell? ⟨(a.add (i * 6)).block, (a.add (i * 6)).off + 4, none⟩ = some (.int .i64 z.c) ∧ W.cell? ⟨(a.add (i * 6)).block, (a.add (i * 6)).off + 5, none⟩ = some (.int .i64 z.v) ∧ (Lit.int .i64 z.c).wf = true := fun i => by
      by_cases hi : i < len
      · obtain ⟨cs', hc, ht⟩ := hall i (by omega)
        rw [cellsA2] at hc
        obtain ⟨_, hl, hcell⟩ := World.cells?_some hc
        obtain ⟨z, rfl, hwf⟩ := act_at ht
        have h1 := hcell 1 (by decide)
        have h2 := hcell 2 (by decide)
        have h3 := hcell 3 (by decide)
        have h4 := hcell 4 (by decide)
        have h5 := hcell 5 (by decide)
        rw [add_block_off _ _ _ (by decide)] at h1 h2 h3 h4 h5
        exact ⟨z, fun _ => ⟨hcell 0 (by decide), h1, h2, h3, h4, h5, hwf⟩⟩
      · exact ⟨default, fun h => absurd h hi⟩
    refine ⟨(List.range len).map fun i => Classical.choose (hG i), by simp, ⟨by simpa using hle, hmax, fun k hk => ⟨a, rfl, ?_⟩⟩, fun k hk => ?_⟩
    · rw [List.length_map, List.length_range] at hk
      obtain ⟨g0, g1, g2, g3, g4, g5, _⟩ := Classical.choose_spec (hG k) hk
      simpa using (⟨g0, g1, g2, g3, g4, g5⟩ : _ ∧ _ ∧ _ ∧ _ ∧ _ ∧ _)
    · rw [List.length_map, List.length_range] at hk
      have := (Classical.choose_spec (hG k) hk).2.2.2.2.2.2
      simpa using this
theorem bankPlays_law (h : LawIn enc Try.prog Try.f3 Rows.bankPlaysRow.laid W base args ds gs before) :
    Calls Try.prog 3 args W fun e W' => e = .returned (.bool true) ∧ Below W.heap.size W W' := by
  obtain ⟨hA, rfl, hlt⟩ := h.trod
  have hval := h.val
  rw [Try.params3] at hA hval
  obtain ⟨v0, vs0, d0, ds0, p0, q0, hargs, rfl, rfl, h0, r0⟩ := trodAll_cons hA
  obtain ⟨v1, vs1, d1, ds1, p1, q1, rfl, rfl, rfl, h1, r1⟩ := trodAll_cons r0
  obtain ⟨rfl, rfl, rfl⟩ := trodAll_nil r1
  obtain rfl : args = #[v0, v1] := by cases args; simp_all
  obtain ⟨A0, len0, cap0, rfl⟩ := okWide_slice Try.underlying22 (hval 0 22 v0 rfl rfl)
  obtain ⟨l0, hl0, hr0⟩ := strips_of h0
  obtain ⟨A1, len1, cap1, rfl⟩ := okWide_slice Try.underlying23 (hval 1 23 v1 rfl rfl)
  obtain ⟨l1, hl1, hr1⟩ := acts_of h1
  exact plays_is W A0 cap0 len0 l0 hl0 hr0 A1 cap1 len1 l1 hl1 hr1.1 hr1.2
end
end Go.Proofs.Ytdfkmkflcnfchaa
