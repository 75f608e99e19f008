/- The cell, what was written, whose access was a read: in memory. Own work. -/
import Derived.Test.YtdpbpbbikeikfaaMay8
namespace Go.Proofs.Ytdpbpbbikeikfaa
open Go.ChangeShapes Go.WideShapes Go.ChangeAt Go.RowKit CellM

/-- The blocks of a cell are there. -/
theorem PAt.tight {w : World} {cb : Nat} {S : St} {F : Nat → Prop} (H : PAt w cb S F) : PAt w cb S (fun b => F b ∧ b < w.heap.size) := by
  obtain ⟨rb, V, pl, h⟩ := H
  refine ⟨rb, V, pl, h.kind, h.top, h.value, h.acc, h.room, h.rooms, h.cand, h.nil, ⟨h.cF, h.kind.lt⟩, fun h2 => ⟨h.rF h2, ?_⟩, fun t ht hc => ⟨h.pF t ht hc, (h.cand t ht hc).lt hc⟩, h.ne, h.place, h.apart⟩
  obtain ⟨x, hx⟩ := h.rooms h2 0 (by omega)
  exact hx.lt
structure MH (B : Nat) (w0 w : World) (cb gR : Nat) (S : St) (V : Value) (Wr : List Int) (R : Nat → Bool) (F : Nat → Prop) (h o c : Nat) : Prop where
  at_ : PAt w cb S F
  tight : ∀ b, F b → b < w.heap.size
  FB : ∀ b, F b → B ≤ b
  cand : Cand w V h o c Wr
  nFh : ¬ F h
  hR : h ≠ gR
  Bh : B ≤ h
  nFR : ¬ F gR
  reads : ∀ t, t < 8 → Has w ⟨gR, t, none⟩ (.bool (R t))
  gB : B ≤ gR
  below : Below B w0 w
  size : B ≤ w.heap.size
  ne : Wr ≠ []
/-- A block that nobody writes. -/
structure Bx (w : World) (bx : Nat) (cs : Array Value) (gR : Nat) (F : Nat → Prop) (h : Nat) : Prop where
  cells : ∀ i x, cs[i]? = some x → Has w ⟨bx, i, none⟩ x
  nF : ¬ F bx
  nR : bx ≠ gR
  nh : bx ≠ h
  lt : bx < w.heap.size
section
variable {B : Nat} {w0 w w' : World} {cb gR : Nat} {S S' : St} {V : Value} {Wr : List Int} {R : Nat → Bool} {F : Nat → Prop} {h o c bx : Nat} {cs : Array Value}
theorem MH.grow (H : MH B w0 w cb gR S V Wr R F h o c) (hb : Below w.heap.size w w') : MH B w0 w' cb gR S V Wr R F h o c :=
  ⟨H.at_.below hb, fun b hF => Nat.lt_of_lt_of_le (H.tight b hF) hb.size, H.FB, H.cand.below hb (H.cand.lt H.ne), H.nFh, H.hR, H.Bh, H.nFR, fun t ht => (H.reads t ht).below hb (H.reads t ht).lt, H.gB, H.below.trans (hb.mono H.size), Nat.le_trans H.size hb.size, H.ne⟩
theorem Bx.grow (H : Bx w bx cs gR F h) (hb : Below w.heap.size w w') : Bx w' bx cs gR F h := ⟨fun i x hx => (H.cells i x hx).below hb H.lt, H.nF, H.nR, H.nh, Nat.lt_of_lt_of_le H.lt hb.size⟩
/-- A new box. -/
theorem MH.box (H : MH B w0 w cb gR S V Wr R F h o c) (cs : Array Value) (t : TypeId) : MH B w0 (w.alloc (.cells cs t)) cb gR S V Wr R F h o c ∧ Bx (w.alloc (.cells cs t)) w.heap.size cs gR F h :=
  ⟨H.grow ((Below.refl _ _).alloc (Nat.le_refl _) _), fun i x hx => has_new _ _ _ _ _ hx, fun hF => Nat.lt_irrefl _ (H.tight _ hF), fun e => by
    have := (H.reads 0 (by decide)).lt
    simp only at this; omega, fun e => by
    have := H.cand.lt H.ne
    omega, by rw [alloc_size]; omega⟩
/-- The cell has answered a call. -/
theorem MH.now (H : MH B w0 w cb gR S V Wr R F h o c) (X : Bx w bx cs gR F h) (hn : Now w w' cb S' F) : ∃ F', MH B w0 w' cb gR S' V Wr R F' h o c ∧ Bx w' bx cs gR F' h := by
  have hk := hn.step.kept
  have hh := H.cand.lt H.ne
  have hg : gR < w.heap.size := (H.reads 0 (by decide)).lt
  have hB := hn.step.below B H.FB H.size
  refine ⟨fun b => More w F b ∧ b < w'.heap.size, ⟨hn.at_.tight, fun b hF => hF.2, fun b hF => ?_, H.cand.keep hk (fun _ _ hF => H.nFh hF), fun hF => ?_, H.hR, H.Bh, fun hF => ?_, fun t ht => hk.has _ _ (H.reads t ht) H.nFR, H.gB, H.below.trans hB, Nat.le_trans H.size hB.size, H.ne⟩, fun i x hx => hk.has _ _ (X.cells i x hx) X.nF, fun hF => ?_, X.nR, X.nh, Nat.lt_of_lt_of_le X.lt hk.size⟩
  · rcases hF.1 with h1 | h1
    · exact H.FB b h1
    · exact Nat.le_trans H.size h1
  · rcases hF.1 with h1 | h1
    · exact H.nFh h1
    · omega
  · rcases hF.1 with h1 | h1
    · exact H.nFR h1
    · omega
  · rcases hF.1 with h1 | h1
    · exact X.nF h1
    · have := X.lt; omega
theorem MH.calls_beg (H : MH B w0 w cb gR S V Wr R F h o c) (X : Bx w bx cs gR F h) {n : Nat} (hG : CellM.Good S n) (hn : n ≤ 90000) (t k cl v : Int) : Calls Try.prog 10 #[.pointer (some ⟨cb, 0, none⟩), .int .i64 t, .agg #[.int .i64 k, .int .i64 cl, .int .i64 v]] w fun e w' => e = .returned (.int .i64 (errB S t k)) ∧
    ∃ F', MH B w0 w' cb gR (beg S t k v) V Wr R F' h o c ∧ Bx w' bx cs gR F' h :=
  (begin_is w cb S F n t k cl v H.at_ hG hn).mono fun _ _ ⟨h1, h2⟩ => ⟨h1, H.now X h2⟩
theorem MH.calls_end (H : MH B w0 w cb gR S V Wr R F h o c) (X : Bx w bx cs gR F h) {n : Nat} (hG : CellM.Good S n) (hn : n ≤ 90000) (t draw : Int) : Calls Try.prog 8 #[.pointer (some ⟨cb, 0, none⟩), .int .i64 t, .int .i64 draw] w fun e w' => e = .returned (.tuple #[.int .i64 (finV S t draw), .int .i64 (errE S t)]) ∧
    ∃ F', MH B w0 w' cb gR (fin S t) V Wr R F' h o c ∧ Bx w' bx cs gR F' h :=
  (end_is w cb S F n t draw H.at_ hG hn).mono fun _ _ ⟨h1, h2⟩ => ⟨h1, H.now X h2⟩
/-- Whose access was a read: one is set. -/
theorem MH.setR (H : MH B w0 w cb gR S V Wr R F h o c) {t : Nat} (ht : t < 8) (b : Bool) : MH B w0 (w.setCell ⟨gR, t, none⟩ (.bool b)) cb gR S V Wr (upd R t b) F h o c := by
  have hk := kept_set w ⟨gR, t, none⟩ (.bool b)
  have hs : (w.setCell ⟨gR, t, none⟩ (.bool b)).heap.size = w.heap.size := by simp [World.setCell]
  refine ⟨H.at_.keep hk (fun p hp => by subst hp; exact H.nFR), fun b hF => by rw [hs]; exact H.tight b hF, H.FB, H.cand.keep hk (fun k _ e => H.hR (by simp only [Addr.mk.injEq] at e; exact e.1)), H.nFh, H.hR, H.Bh, H.nFR, fun u hu => ?_, H.gB, H.below.setCell H.gB _, by rw [hs]; exact H.size, H.ne⟩
  by_cases e : u = t
  · subst e; rw [upd_same]; exact (H.reads u hu).same
  · rw [upd_other _ _ _ e]
    exact hk.has _ _ (H.reads u hu) (fun e2 => e (by simp only [Addr.mk.injEq] at e2; exact e2.2.1))
theorem Bx.setR (X : Bx w bx cs gR F h) (t : Nat) (y : Value) : Bx (w.setCell ⟨gR, t, none⟩ y) bx cs gR F h :=
  ⟨fun i x hx => (kept_set w ⟨gR, t, none⟩ y).has _ _ (X.cells i x hx) (fun e => X.nR (by simp only [Addr.mk.injEq] at e; exact e.1)), X.nF, X.nR, X.nh, Nat.lt_of_lt_of_le X.lt (kept_set w ⟨gR, t, none⟩ y).size⟩
/-- What was written: one more. -/
theorem MH.push (H : MH B w0 w cb gR S V Wr R F h o c) (X : Bx w bx cs gR F h) {V' : Value} {x : Int} (hO : Onto1 w w' V' h o c Wr x) : ∃ h' o' c', MH B w0 w' cb gR S V' (Wr ++ [x]) R F h' o' c' ∧ Bx w' bx cs gR F h' := by
  obtain ⟨h', o', c', hc, hp⟩ := hO.ex
  have hk := hO.kept
  have hB := hO.below B H.Bh H.size
  have hg : gR < w.heap.size := (H.reads 0 (by decide)).lt
  have hnF : ¬ F h' := by
    rcases hp with ⟨rfl, _⟩ | ⟨_, h1⟩
    · exact H.nFh
    · exact fun hF => by have := H.tight _ hF; omega
  have hxb := X.lt
  refine ⟨h', o', c', ⟨H.at_.keep hk (fun p hp2 => by rw [hp2.2]; exact H.nFh), fun b hF => Nat.lt_of_lt_of_le (H.tight b hF) hk.size, H.FB, hc, hnF, ?_, ?_, H.nFR, fun t ht => hk.has _ _ (H.reads t ht) (fun e => H.hR (by have := e.2; simp only [Addr.mk.injEq] at this; exact this.1.symm)), H.gB, H.below.trans hB, Nat.le_trans H.size hB.size, by simp⟩,
    fun i x hx => hk.has _ _ (X.cells i x hx) (fun e => X.nh (by have := e.2; simp only [Addr.mk.injEq] at this; exact this.1)), X.nF, X.nR, ?_, Nat.lt_of_lt_of_le X.lt hk.size⟩
  · rcases hp with ⟨rfl, _⟩ | ⟨_, h1⟩
    · exact H.hR
    · omega
  · rcases hp with ⟨rfl, _⟩ | ⟨_, h1⟩
    · exact H.Bh
    · exact Nat.le_trans H.size h1
  · rcases hp with ⟨rfl, _⟩ | ⟨_, h1⟩
    · exact X.nh
    · omega
end
end Go.Proofs.Ytdpbpbbikeikfaa
