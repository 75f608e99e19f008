/- A law of layer 11, from its row's conditions. Own work. -/
import Derived.Test.YtjffgppdjdmmgaaTpL
import Derived.Test.YtjffgppdjdmmgaaFrame
import Derived.ChangeMaps5
import Derived.Deep.Slices
namespace Go.Proofs.Ytjffgppdjdmmgaa
open Go.ChangeShapes Go.WideShapes Go.ChangeAt Go.RowKit CellM TapeM

theorem cellsI : Try.prog.cellsOf 3 = 1 := by kernel_rfl
theorem cellsReg : Try.prog.cellsOf 23 = 7 := by kernel_rfl
set_option maxRecDepth 20000
section
variable {H : Type} {enc : TypeId × Value → H} {W : World} {base : Nat} {args : Array Value} {ds gs : List (DataW H)} {before : List MemPlace}
/-- A register that came in by value. -/
theorem reg_of {cs : Array Value} {sp : Nat → Bool} {d : DataW H} {p : List MemPlace} (hsz : cs.size = Try.prog.cellsOf 23) (h : DataW.Trod enc Try.prog W 0 sp true 23 (.agg cs) d p) :
    ∃ k b l n rw rr tp : Int, cs = #[.int .i64 k, .int .i64 b, .int .i64 l, .int .i64 n, .int .i64 rw, .int .i64 rr, .int .i64 tp] := by
  obtain ⟨l⟩ := cs
  match l, hsz.trans cellsReg with
  | [c0, c1, c2, c3, c4, c5, c6], _ =>
    obtain ⟨z0, rfl, -⟩ := agg_int Try.underlying23 h 0 _ rfl Try.underlying3 c0 (by simp [cellsI])
    obtain ⟨z1, rfl, -⟩ := agg_int Try.underlying23 h 1 _ rfl Try.underlying3 c1 (by simp [cellsI])
    obtain ⟨z2, rfl, -⟩ := agg_int Try.underlying23 h 2 _ rfl Try.underlying3 c2 (by simp [cellsI])
    obtain ⟨z3, rfl, -⟩ := agg_int Try.underlying23 h 3 _ rfl Try.underlying3 c3 (by simp [cellsI])
    obtain ⟨z4, rfl, -⟩ := agg_int Try.underlying23 h 4 _ rfl Try.underlying3 c4 (by simp [cellsI])
    obtain ⟨z5, rfl, -⟩ := agg_int Try.underlying23 h 5 _ rfl Try.underlying3 c5 (by simp [cellsI])
    obtain ⟨z6, rfl, -⟩ := agg_int Try.underlying23 h 6 _ rfl Try.underlying3 c6 (by simp [cellsI])
    exact ⟨z0, z1, z2, z3, z4, z5, z6, rfl⟩
theorem ints_of {A : Option Addr} {len cap : Nat} {sp : Nat → Bool} {d : DataW H} {p : List MemPlace} (h : DataW.Trod enc Try.prog W 0 sp true 24 (.slice A len cap) d p) : ∃ l : List Int, l.length = len ∧ RI W A cap l := by
  obtain ⟨fuel, hf⟩ := h
  rcases open_ints Try.underlying24 Try.underlying3 cellsI hf with ⟨hcs, hx⟩ | ⟨a, len', cap', zs, hcs, _, hle, hmax, hall, hx, hcell, hwf⟩
  · have e : Value.slice A len cap = .slice none 0 0 := by simpa [Value.cells] using hcs
    cases e
    exact ⟨[], rfl, RI.nil _⟩
  · have e : Value.slice A len cap = .slice (some a) len' cap' := by simpa [Value.cells] using hcs
    cases e
    have hz : len ≤ zs.length := by rw [hall]; split <;> omega
    refine ⟨zs.take len, by rw [List.length_take]; omega, by rw [List.length_take]; omega, hmax, (fun e => by cases e), fun k hk => ⟨a, rfl, ?_⟩⟩
    rw [List.length_take] at hk
    rw [hcell k (by omega), List.getElem_take, List.getD_eq_getElem?_getD, List.getElem?_eq_getElem (by omega)]
    rfl
theorem trompPlays_law (h : LawIn enc Try.prog Try.f3 Rows.trompPlaysRow.laid W base args ds gs before) :
    Calls Try.prog 3 args W fun e W' => e = .returned (.bool true) ∧ Below W.heap.size W W' := by
  obtain ⟨hA, rfl, hlt⟩ := h.trod
  have hval := h.val
  rw [Try.params3] at hA hval
  obtain ⟨v0, vs0, d0, ds0, p0, q0, hargs, rfl, rfl, h0, r0⟩ := trodAll_cons hA
  obtain ⟨v1, vs1, d1, ds1, p1, q1, rfl, rfl, rfl, h1, r1⟩ := trodAll_cons r0
  obtain ⟨v2, vs2, d2, ds2, p2, q2, rfl, rfl, rfl, h2, r2⟩ := trodAll_cons r1
  obtain ⟨v3, vs3, d3, ds3, p3, q3, rfl, rfl, rfl, h3, r3⟩ := trodAll_cons r2
  obtain ⟨rfl, rfl, rfl⟩ := trodAll_nil r3
  obtain rfl : args = #[v0, v1, v2, v3] := by cases args; simp_all
  obtain ⟨cs0, rfl, hsz0⟩ := okWide_struct Try.underlying23 (hval 0 23 v0 rfl rfl)
  obtain ⟨k0, b0, l0, n0, rw0, rr0, tp0, rfl⟩ := reg_of hsz0 h0
  obtain ⟨A1, len1, cap1, rfl⟩ := okWide_slice Try.underlying24 (hval 1 24 v1 rfl rfl)
  obtain ⟨l1, hl1, hr1⟩ := ints_of h1
  obtain ⟨A2, len2, cap2, rfl⟩ := okWide_slice Try.underlying24 (hval 2 24 v2 rfl rfl)
  obtain ⟨l2, hl2, hr2⟩ := ints_of h2
  obtain ⟨A3, len3, cap3, rfl⟩ := okWide_slice Try.underlying24 (hval 3 24 v3 rfl rfl)
  obtain ⟨l3, hl3, hr3⟩ := ints_of h3
  exact trompPlays_is W k0 b0 l0 n0 rw0 rr0 tp0 A1 A2 A3 cap1 cap2 cap3 len1 len2 len3 l1 l2 l3 hl1 hl2 hl3 hr1 hr2 hr3
end
end Go.Proofs.Ytjffgppdjdmmgaa
