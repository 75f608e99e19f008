/- The chapter's example. Own work. -/
import Derived.Test.YtdpbpbbikeikfaaNew8
namespace Go.Proofs.Ytdpbpbbikeikfaa
open Go.ChangeShapes Go.WideShapes Go.ChangeAt Go.RowKit CellM

theorem beg_good {S : St} {n : Nat} (h : CellM.Good S n) (t k v : Int) : CellM.Good (beg S t k v) (n + 9) := by
  unfold beg
  split
  · exact h.mono (Nat.le_add_right _ _)
  · split
    · exact begR_good h _
    · exact (begW_good h _ _).mono (by omega)
theorem fin_good {S : St} {n : Nat} (h : CellM.Good S n) (t : Int) : CellM.Good (fin S t) n := by
  unfold fin
  split
  · exact h
  · exact endS_good h _
/-- A cell whose blocks lie behind B, in a world that has left what lies before B. -/
structure Mine (B : Nat) (w0 w : World) (cb : Nat) (S : St) (n : Nat) : Prop where
  at_ : PAt w cb S (fun b => B ≤ b)
  good : CellM.Good S n
  below : Below B w0 w
  size : B ≤ w.heap.size
section
variable {B : Nat} {w0 w w' : World} {cb n : Nat} {S S' : St}
theorem Mine.now (h : Mine B w0 w cb S n) (hn : Now w w' cb S' (fun b => B ≤ b)) {m : Nat} (hg : CellM.Good S' m) : Mine B w0 w' cb S' m :=
  ⟨hn.at_.mono (fun b hb => by
    rcases hb with hb | hb
    · exact hb
    · exact Nat.le_trans h.size hb), hg, h.below.trans (hn.step.below B (fun _ hb => hb) h.size), Nat.le_trans h.size hn.step.kept.size⟩
theorem Mine.grow (h : Mine B w0 w cb S n) (hb : Below w.heap.size w w') : Mine B w0 w' cb S n := ⟨h.at_.below hb, h.good, h.below.trans (hb.mono h.size), Nat.le_trans h.size hb.size⟩
theorem Mine.calls_beg (h : Mine B w0 w cb S n) (hn : n ≤ 90000) (t k cl v : Int) : Calls Try.prog 10 #[.pointer (some ⟨cb, 0, none⟩), .int .i64 t, .agg #[.int .i64 k, .int .i64 cl, .int .i64 v]] w fun e w' => e = .returned (.int .i64 (errB S t k)) ∧ Mine B w0 w' cb (beg S t k v) (n + 9) :=
  (begin_is w cb S _ n t k cl v h.at_ h.good hn).mono fun _ _ ⟨h1, h2⟩ => ⟨h1, h.now h2 (beg_good h.good t k v)⟩
theorem Mine.calls_end (h : Mine B w0 w cb S n) (hn : n ≤ 90000) (t draw : Int) : Calls Try.prog 8 #[.pointer (some ⟨cb, 0, none⟩), .int .i64 t, .int .i64 draw] w fun e w' => e = .returned (.tuple #[.int .i64 (finV S t draw), .int .i64 (errE S t)]) ∧ Mine B w0 w' cb (fin S t) n :=
  (end_is w cb S _ n t draw h.at_ h.good hn).mono fun _ _ ⟨h1, h2⟩ => ⟨h1, h.now h2 (fin_good h.good t)⟩
theorem Mine.calls_busy (h : Mine B w0 w cb S n) : Calls Try.prog 13 #[.pointer (some ⟨cb, 0, none⟩)] w fun e w' => e = .returned (.int .i64 (busy S 8 : Nat)) ∧ Mine B w0 w' cb S n :=
  (busy_is w cb S _ h.at_).mono fun _ _ ⟨h1, h2⟩ => ⟨h1, h.grow h2⟩
end
theorem nilBegin (w : World) (t k cl v : Int) : Calls Try.prog 10 #[.pointer none, .int .i64 t, .agg #[.int .i64 k, .int .i64 cl, .int .i64 v]] w fun e w' => e = .returned (.int .i64 2) ∧ Below w.heap.size w w' := by
  go_enter Try.func10, Try.ntmps10
  go_wp2_with fail
  go_ret
  exact ⟨rfl, (Below.refl _ _).alloc (Nat.le_refl _) _⟩
def s0 : St := new 1 9
def s1 : St := beg s0 0 2 4
def s2 : St := beg s1 1 1 0
def s3 : St := fin s2 1
def s4 : St := fin s3 0
def s5 : St := beg s4 1 1 0
def s6 : St := fin s5 1
def s7 : St := fin s6 1
set_option maxHeartbeats 4000000 in
set_option maxRecDepth 20000 in
theorem alive_is (w : World) : Calls Try.prog 6 #[] w fun e w' => e = .returned (.bool true) ∧ Below w.heap.size w w' := by
  go_enter Try.func6, Try.ntmps6
  go_wp2_with fail
  refine (new_is w 1 9).mono ?_; rintro e w1 ⟨rfl, hP, hB⟩
  have M := Lib.hid (show Mine w.heap.size w w1 w.heap.size s0 0 from ⟨hP, new_good 1 9, hB, hB.size⟩)
  clear hP hB
  go_wp2_with fail
  refine (M.out.calls_beg (by omega) 0 2 0 4).mono ?_; rintro e w2 ⟨rfl, h2⟩
  rw [show errB s0 0 2 = 0 by decide]
  clear M; have M := Lib.hid (show Mine w.heap.size w w2 w.heap.size s1 9 from h2); clear h2
  go_wp2_with fail
  refine (M.out.calls_beg (by omega) 1 1 0 0).mono ?_; rintro e w3 ⟨rfl, h2⟩
  rw [show errB s1 1 1 = 0 by decide]
  clear M; have M := Lib.hid (show Mine w.heap.size w w3 w.heap.size s2 18 from h2); clear h2
  go_wp2_with fail
  refine (M.out.calls_end (by omega) 1 17).mono ?_; rintro e w4 ⟨rfl, h2⟩
  rw [show finV s2 1 17 = 7 by decide, show errE s2 1 = 0 by decide]
  clear M; have M := Lib.hid (show Mine w.heap.size w w4 w.heap.size s3 18 from h2); clear h2
  go_wp2_with fail
  refine (M.out.calls_end (by omega) 0 0).mono ?_; rintro e w5 ⟨rfl, h2⟩
  rw [show finV s3 0 0 = 0 by decide, show errE s3 0 = 0 by decide]
  clear M; have M := Lib.hid (show Mine w.heap.size w w5 w.heap.size s4 18 from h2); clear h2
  go_wp2_with fail
  refine (M.out.calls_beg (by omega) 1 1 0 0).mono ?_; rintro e w6 ⟨rfl, h2⟩
  rw [show errB s4 1 1 = 0 by decide]
  clear M; have M := Lib.hid (show Mine w.heap.size w w6 w.heap.size s5 27 from h2); clear h2
  go_wp2_with fail
  refine M.out.calls_busy.mono ?_; rintro e w7 ⟨rfl, h2⟩
  rw [show busy s5 8 = 1 by decide]
  clear M; have M := Lib.hid (show Mine w.heap.size w w7 w.heap.size s5 27 from h2); clear h2
  go_wp2_with fail
  refine (M.out.calls_end (by omega) 1 17).mono ?_; rintro e w8 ⟨rfl, h2⟩
  rw [show finV s5 1 17 = 4 by decide, show errE s5 1 = 0 by decide]
  clear M; have M := Lib.hid (show Mine w.heap.size w w8 w.heap.size s6 27 from h2); clear h2
  go_wp2_with fail
  refine (M.out.calls_end (by omega) 1 17).mono ?_; rintro e w9 ⟨rfl, h2⟩
  rw [show finV s6 1 17 = 0 by decide, show errE s6 1 = 7 by decide]
  clear M; have M := Lib.hid (show Mine w.heap.size w w9 w.heap.size s7 27 from h2); clear h2
  go_wp2_with fail
  refine (value_is _ _ _ _ M.out.at_).mono ?_; rintro e w' ⟨rfl, rfl⟩
  rw [show s7.value = 4 by decide]
  go_wp2_with fail
  refine (nilBegin _ _ _ _ _).mono ?_; rintro e wz ⟨rfl, hB⟩
  have HB := Lib.hid hB; clear hB
  go_wp2_with fail
  go_ret
  exact ⟨rfl, M.out.below.trans (HB.out.mono M.out.size)⟩
end Go.Proofs.Ytdpbpbbikeikfaa
