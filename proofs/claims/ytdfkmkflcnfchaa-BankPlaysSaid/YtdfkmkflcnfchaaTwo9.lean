/- Two objects in memory, apart, and a box that nobody writes. Own work. -/
import Derived.Test.YtdfkmkflcnfchaaBUsed
import Derived.Test.YtdfkmkflcnfchaaBNew
namespace Go.Proofs.Ytdfkmkflcnfchaa
open Go.ChangeShapes Go.WideShapes Go.ChangeAt Go.RowKit CellM

/-- Who writes elsewhere leaves it; its blocks are those that are there. -/
structure Frames (P : World → (Nat → Prop) → Prop) : Prop where
  keep : ∀ {w w' : World} {F G : Nat → Prop}, P w F → Step G w w' → (∀ b, G b → ¬ F b) → P w' F
  tight : ∀ {w : World} {F : Nat → Prop}, P w F → P w (fun b => F b ∧ b < w.heap.size)
def BP (bb : Nat) (X : Bk) (q : Nat) : World → (Nat → Prop) → Prop := fun w F => BAt w bb X q F
theorem bp_frames (bb : Nat) (X : Bk) (q : Nat) : Frames (BP bb X q) := ⟨fun h hs hd => BAt.keep h hs hd, fun h => BAt.tight h⟩
def NoObj : World → (Nat → Prop) → Prop := fun _ _ => True
theorem no_frames : Frames NoObj := ⟨fun _ _ _ => trivial, fun _ => trivial⟩
structure TwoD (B : Nat) (w0 w : World) (P R : World → (Nat → Prop) → Prop) (bx : Nat) (cs : Array Value) (F G : Nat → Prop) : Prop where
  p : P w F
  r : R w G
  pt : ∀ b, F b → b < w.heap.size
  rt : ∀ b, G b → b < w.heap.size
  dis : ∀ b, F b → ¬ G b
  FB : ∀ b, F b → B ≤ b
  GB : ∀ b, G b → B ≤ b
  below : Below B w0 w
  size : B ≤ w.heap.size
  cells : ∀ i x, cs[i]? = some x → Has w ⟨bx, i, none⟩ x
  nF : cs ≠ #[] → ¬ F bx ∧ ¬ G bx ∧ bx < w.heap.size
def Two (B : Nat) (w0 w : World) (P R : World → (Nat → Prop) → Prop) (bx : Nat) (cs : Array Value) : Prop := ∃ F G, TwoD B w0 w P R bx cs F G
section
variable {B : Nat} {w0 w w' : World} {P P' R R' : World → (Nat → Prop) → Prop} {bx : Nat} {cs : Array Value} {F G : Nat → Prop}
theorem ne_of_get {cs : Array Value} {i : Nat} {x : Value} (hx : cs[i]? = some x) : cs ≠ #[] := fun e => by rw [e] at hx; simp at hx
theorem TwoD.swap (H : TwoD B w0 w P R bx cs F G) : TwoD B w0 w R P bx cs G F :=
  ⟨H.r, H.p, H.rt, H.pt, fun b hb hf => H.dis b hf hb, H.GB, H.FB, H.below, H.size, H.cells, fun hc => ⟨(H.nF hc).2.1, (H.nF hc).1, (H.nF hc).2.2⟩⟩
theorem Two.swap (H : Two B w0 w P R bx cs) : Two B w0 w R P bx cs := by
  obtain ⟨F, G, H⟩ := H
  exact ⟨G, F, H.swap⟩
theorem TwoD.now (H : TwoD B w0 w P R bx cs F G) (kP : Frames P') (kR : Frames R) (hat : P' w' (More w F)) (hst : Step F w w') : Two B w0 w' P' R bx cs := by
  have hk := hst.kept
  have hB := hst.below B H.FB H.size
  refine ⟨fun b => More w F b ∧ b < w'.heap.size, G, kP.tight hat, kR.keep H.r hst H.dis, fun b hb => hb.2, fun b hb => Nat.lt_of_lt_of_le (H.rt b hb) hk.size, fun b hb hg => ?_, fun b hb => ?_, H.GB, H.below.trans hB, Nat.le_trans H.size hB.size, fun i x hx => hk.has _ _ (H.cells i x hx) (H.nF (ne_of_get hx)).1, fun hc => ⟨fun hb => ?_, (H.nF hc).2.1, Nat.lt_of_lt_of_le (H.nF hc).2.2 hk.size⟩⟩
  · rcases hb.1 with h1 | h1
    · exact H.dis b h1 hg
    · have := H.rt b hg; omega
  · rcases hb.1 with h1 | h1
    · exact H.FB b h1
    · exact Nat.le_trans H.size h1
  · rcases hb.1 with h1 | h1
    · exact (H.nF hc).1 h1
    · have := (H.nF hc).2.2; omega
theorem Two.grow (H : Two B w0 w P R bx cs) (kP : Frames P) (kR : Frames R) (hb : Below w.heap.size w w') : Two B w0 w' P R bx cs := by
  obtain ⟨F, G, H⟩ := H
  exact ⟨F, G, kP.keep H.p (.of_below hb) (fun _ h => h), kR.keep H.r (G := fun _ => False) (.of_below hb) (fun _ h => h.elim), fun b hF => Nat.lt_of_lt_of_le (H.pt b hF) hb.size, fun b hG => Nat.lt_of_lt_of_le (H.rt b hG) hb.size, H.dis, H.FB, H.GB, H.below.trans (hb.mono H.size), Nat.le_trans H.size hb.size,
    fun i x hx => (H.cells i x hx).below hb (H.cells i x hx).lt, fun hc => ⟨(H.nF hc).1, (H.nF hc).2.1, Nat.lt_of_lt_of_le (H.nF hc).2.2 hb.size⟩⟩
/-- A new box. -/
theorem Two.box {bx0 : Nat} {cs0 : Array Value} (H : Two B w0 w P R bx0 cs0) (kP : Frames P) (kR : Frames R) (cs : Array Value) (t : TypeId) : Two B w0 (w.alloc (.cells cs t)) P R w.heap.size cs := by
  have hb : Below w.heap.size w (w.alloc (.cells cs t)) := (Below.refl _ _).alloc (Nat.le_refl _) _
  obtain ⟨F, G, H⟩ := H
  exact ⟨F, G, kP.keep H.p (G := fun _ => False) (.of_below hb) (fun _ h => h.elim), kR.keep H.r (G := fun _ => False) (.of_below hb) (fun _ h => h.elim), fun b hF => Nat.lt_of_lt_of_le (H.pt b hF) hb.size, fun b hG => Nat.lt_of_lt_of_le (H.rt b hG) hb.size, H.dis, H.FB, H.GB, H.below.trans (hb.mono H.size), Nat.le_trans H.size hb.size,
    fun i x hx => has_new _ _ _ _ _ hx, fun _ => ⟨fun hF => Nat.lt_irrefl _ (H.pt _ hF), fun hG => Nat.lt_irrefl _ (H.rt _ hG), by rw [alloc_size]; omega⟩⟩
theorem Two.unbox (H : Two B w0 w P R bx cs) : Two B w0 w P R 0 #[] := by
  obtain ⟨F, G, H⟩ := H
  exact ⟨F, G, H.p, H.r, H.pt, H.rt, H.dis, H.FB, H.GB, H.below, H.size, fun i x hx => by simp at hx, fun hc => absurd rfl hc⟩
theorem Two.at_ (H : Two B w0 w P R bx cs) {i : Nat} {x : Value} (hx : cs[i]? = some x) : w.cell? ⟨bx, i, none⟩ = some x := by
  obtain ⟨F, G, H⟩ := H
  exact (H.cells i x hx).1
theorem Two.base (H : Two B w0 w P R bx cs) : Below B w0 w ∧ B ≤ w.heap.size := by
  obtain ⟨F, G, H⟩ := H
  exact ⟨H.below, H.size⟩
/-- A second object is made. -/
theorem Two.second (H : Two B w0 w P NoObj bx cs) (kP : Frames P) (kR : Frames R) (hr : R w' (fun b => w.heap.size ≤ b)) (hb : Below w.heap.size w w') : Two B w0 w' P R bx cs := by
  obtain ⟨F, G, H⟩ := H
  have hs := hb.size
  refine ⟨F, fun b => w.heap.size ≤ b ∧ b < w'.heap.size, kP.keep H.p (G := fun _ => False) (.of_below hb) (fun _ h => h.elim), kR.tight hr, fun b hF => Nat.lt_of_lt_of_le (H.pt b hF) hb.size, fun b hG => hG.2, fun b hF hG => ?_, H.FB, fun b hG => Nat.le_trans H.size hG.1, H.below.trans (hb.mono H.size), Nat.le_trans H.size hb.size,
    fun i x hx => (H.cells i x hx).below hb (H.cells i x hx).lt, fun hc => ⟨(H.nF hc).1, fun hG => ?_, Nat.lt_of_lt_of_le (H.nF hc).2.2 hb.size⟩⟩
  · have := H.pt b hF; omega
  · have := (H.nF hc).2.2; omega
/-- A first object is made. -/
theorem Two.first (w w' : World) (kP : Frames P) (hp : P w' (fun b => w.heap.size ≤ b)) (hb : Below w.heap.size w w') : Two w.heap.size w w' P NoObj 0 #[] :=
  ⟨fun b => w.heap.size ≤ b ∧ b < w'.heap.size, fun _ => False, kP.tight hp, trivial, fun b h => h.2, fun b h => h.elim, fun b _ h => h, fun b h => h.1, fun b h => h.elim, hb, hb.size, fun i x hx => by simp at hx, fun hc => absurd rfl hc⟩
end
section
variable {B : Nat} {w0 w w' : World} {R : World → (Nat → Prop) → Prop} {bx : Nat} {cs : Array Value} {bb q m : Nat} {X : Bk}
theorem Two.calls_beg (H : Two B w0 w (BP bb X q) R bx cs) (kR : Frames R) (hG : GoodB X m) (hm : m ≤ 90000) (hq : q < 1000000) (t k cl v : Int) : Calls Try.prog 9 #[.pointer (some ⟨bb, 0, none⟩), .int .i64 t, .agg #[.int .i64 k, .int .i64 cl, .int .i64 v]] w fun e w' => e = .returned (.int .i64 (errBB X t k cl)) ∧ Two B w0 w' (BP bb (begBB X t k cl v) (q + 1)) R bx cs := by
  obtain ⟨F, G, H⟩ := H
  exact (beginB_is w bb X q m F t k cl v H.p hG hm hq).mono fun _ _ ⟨h1, h2⟩ => ⟨h1, H.now (bp_frames _ _ _) kR h2.at_ h2.step⟩
theorem Two.calls_end (H : Two B w0 w (BP bb X q) R bx cs) (kR : Frames R) (hG : GoodB X m) (hm : m ≤ 90000) (t draw : Int) : Calls Try.prog 7 #[.pointer (some ⟨bb, 0, none⟩), .int .i64 t, .int .i64 draw] w fun e w' => e = .returned (.tuple #[.int .i64 (finVB X t draw), .int .i64 (errEB X t)]) ∧ Two B w0 w' (BP bb (finBB X t) q) R bx cs := by
  obtain ⟨F, G, H⟩ := H
  exact (endB_is w bb X q m F t draw H.p hG hm).mono fun _ _ ⟨h1, h2⟩ => ⟨h1, H.now (bp_frames _ _ _) kR h2.at_ h2.step⟩
theorem Two.calls_busy (H : Two B w0 w (BP bb X q) R bx cs) (kR : Frames R) (t : Int) (o : Option Int) (ho : busyB X t = o) : Calls Try.prog 11 #[.pointer (some ⟨bb, 0, none⟩), .int .i64 t] w fun e w' => e = .returned (busyV o) ∧ Two B w0 w' (BP bb X q) R bx cs := by
  have H1 := H
  obtain ⟨F, G, H⟩ := H
  obtain ⟨SA, EA, sh, sc, eh, ec, mb, D, pb, Fc, hD⟩ := H.p
  refine (busyP_is hD.d t o ho).mono ?_
  rintro e w' ⟨rfl, q1, rfl⟩
  exact ⟨rfl, H1.grow (bp_frames _ _ _) kR (below_drewN (Below.refl _ _) _)⟩
theorem Two.calls_value (H : Two B w0 w (BP bb X q) R bx cs) (hG : GoodB X m) (n : Int) (hn : (Lit.int .i64 n).wf = true) : Calls Try.prog 13 #[.pointer (some ⟨bb, 0, none⟩), .int .i64 n] w fun e w' => e = .returned (.int .i64 (X.c n).value) ∧ w = w' := by
  obtain ⟨F, G, H⟩ := H
  exact valueB_is w bb X q m _ n H.p hG hn
theorem Two.calls_len (H : Two B w0 w (BP bb X q) R bx cs) (kR : Frames R) (hG : GoodB X m) : Calls Try.prog 20 #[.pointer (some ⟨bb, 0, none⟩)] w fun e w' => e = .returned (.int .i64 (sumS X.L)) ∧ Two B w0 w' (BP bb X q) R bx cs := by
  have H1 := H
  obtain ⟨F, G, H⟩ := H
  obtain ⟨SA, EA, sh, sc, eh, ec, mb, D, pb, Fc, hD⟩ := H.p
  refine (hD.fix.sum hG.ok).mono ?_
  rintro e w' ⟨rfl, q1, rfl⟩
  exact ⟨rfl, H1.grow (bp_frames _ _ _) kR (below_drewN (Below.refl _ _) _)⟩
theorem Two.calls_used (H : Two B w0 w (BP bb X q) R bx cs) (kR : Frames R) (hG : GoodB X m) (hq : q ≤ 1000000) : Calls Try.prog 16 #[.pointer (some ⟨bb, 0, none⟩)] w fun e w' => ∃ A c, e = .returned (.slice A X.no.length c) ∧ RI w' A c (sortI X.no) ∧ Two B w0 w' (BP bb X q) R bx cs ∧ Below w.heap.size w w' := by
  have H1 := H
  obtain ⟨F, G, H⟩ := H
  exact (used_is w bb X q m _ H.p hG hq).mono fun _ _ ⟨A, c, h1, h2, h3⟩ => ⟨A, c, h1, h2, H1.grow (bp_frames _ _ _) kR h3, h3⟩
end
theorem gives_ok {w w' : World} {L : List Strip} {e : Ending} (h : NewGives w L e w') (hL : errS L = 0) : ∃ bb, e = .returned (.tuple #[.pointer (some ⟨bb, 0, none⟩), .int .i64 0]) ∧ GoodB (newB L) 0 ∧ BAt w' bb (newB L) 0 (fun b => w.heap.size ≤ b) ∧ Below w.heap.size w w' := by
  unfold NewGives at h
  rw [if_pos hL] at h
  obtain ⟨bb, he, h1, h2⟩ := h
  exact ⟨bb, he, newB_good hL, h1, h2⟩
theorem gives_bad {w w' : World} {L : List Strip} {e : Ending} (h : NewGives w L e w') (hL : errS L ≠ 0) : e = .returned (.tuple #[.pointer none, .int .i64 (errS L)]) ∧ Below w.heap.size w w' := by
  unfold NewGives at h
  rw [if_neg hL] at h
  exact h
end Go.Proofs.Ytdfkmkflcnfchaa
