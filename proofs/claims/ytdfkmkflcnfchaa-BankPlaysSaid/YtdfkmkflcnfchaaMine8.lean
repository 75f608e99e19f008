/- One cell behind B; a nil cell. Own work. -/
import Derived.Test.YtdfkmkflcnfchaaNew8
namespace Go.Proofs.Ytdfkmkflcnfchaa
open Go.ChangeShapes Go.WideShapes Go.ChangeAt Go.RowKit CellM

theorem beg_good {S : St} {n : Nat} (h : CellM.Good S n) (t k v : Int) : CellM.Good (beg S t k v) (n + 9) := by
  unfold beg
  split
  · exact h.mono (Nat.le_add_right _ _)
  · split
    · exact begR_good h _
    · exact (begW_good h _ _).mono (by omega)
theorem fin_good {S : St} {n : Nat} (h : CellM.Good S n) (t : Int) : CellM.Good (fin S t) n := by
  unfold fin
  split
  · exact h
  · exact endS_good h _
/-- A cell whose blocks lie behind B, in a world that has left what lies before B. -/
structure Mine (B : Nat) (w0 w : World) (cb : Nat) (S : St) (n : Nat) : Prop where
  at_ : PAt w cb S (fun b => B ≤ b)
  good : CellM.Good S n
  below : Below B w0 w
  size : B ≤ w.heap.size
section
variable {B : Nat} {w0 w w' : World} {cb n : Nat} {S S' : St}
theorem Mine.now (h : Mine B w0 w cb S n) (hn : Now w w' cb S' (fun b => B ≤ b)) {m : Nat} (hg : CellM.Good S' m) : Mine B w0 w' cb S' m :=
  ⟨hn.at_.mono (fun b hb => by
    rcases hb with hb | hb
    · exact hb
    · exact Nat.le_trans h.size hb), hg, h.below.trans (hn.step.below B (fun _ hb => hb) h.size), Nat.le_trans h.size hn.step.kept.size⟩
theorem Mine.grow (h : Mine B w0 w cb S n) (hb : Below w.heap.size w w') : Mine B w0 w' cb S n := ⟨h.at_.below hb, h.good, h.below.trans (hb.mono h.size), Nat.le_trans h.size hb.size⟩
theorem Mine.calls_beg (h : Mine B w0 w cb S n) (hn : n ≤ 90000) (t k cl v : Int) : Calls Try.prog 26 #[.pointer (some ⟨cb, 0, none⟩), .int .i64 t, .agg #[.int .i64 k, .int .i64 cl, .int .i64 v]] w fun e w' => e = .returned (.int .i64 (errB S t k)) ∧ Mine B w0 w' cb (beg S t k v) (n + 9) :=
  (begin_is w cb S _ n t k cl v h.at_ h.good hn).mono fun _ _ ⟨h1, h2⟩ => ⟨h1, h.now h2 (beg_good h.good t k v)⟩
theorem Mine.calls_end (h : Mine B w0 w cb S n) (hn : n ≤ 90000) (t draw : Int) : Calls Try.prog 21 #[.pointer (some ⟨cb, 0, none⟩), .int .i64 t, .int .i64 draw] w fun e w' => e = .returned (.tuple #[.int .i64 (finV S t draw), .int .i64 (errE S t)]) ∧ Mine B w0 w' cb (fin S t) n :=
  (end_is w cb S _ n t draw h.at_ h.good hn).mono fun _ _ ⟨h1, h2⟩ => ⟨h1, h.now h2 (fin_good h.good t)⟩
end
theorem nilBegin (w : World) (t k cl v : Int) : Calls Try.prog 26 #[.pointer none, .int .i64 t, .agg #[.int .i64 k, .int .i64 cl, .int .i64 v]] w fun e w' => e = .returned (.int .i64 2) ∧ Below w.heap.size w w' := by
  go_enter Try.func26, Try.ntmps26
  go_wp2_with fail
  go_ret
  exact ⟨rfl, (Below.refl _ _).alloc (Nat.le_refl _) _⟩
end Go.Proofs.Ytdfkmkflcnfchaa
