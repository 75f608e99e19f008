/- The cell and the reference's cell side by side in memory. Own work. -/
import Derived.Test.YtdpbpbbikeikfaaRBegW8
import Derived.Test.YtdpbpbbikeikfaaREnd8
namespace Go.Proofs.Ytdpbpbbikeikfaa
open Go.ChangeShapes Go.WideShapes Go.ChangeAt Go.RowKit CellM

theorem RAt.tight {w : World} {rc : Nat} {r : Rs} {A : Option Addr} {h c : Nat} {G : Nat → Prop} (H : RAt w rc r A h c G) : RAt w rc r A h c (fun b => G b ∧ b < w.heap.size) :=
  ⟨H.kind, H.top, H.value, H.now, H.l, H.row, ⟨H.rG, H.lt⟩, fun hc => ⟨⟨(H.hG hc).1, by
    obtain ⟨x, hx⟩ := H.row.room 0 (by omega)
    exact hx.lt⟩, (H.hG hc).2⟩⟩
/-- Both cells, and a block that nobody writes. -/
structure PRd (B : Nat) (w0 w : World) (cb rc : Nat) (S : St) (r : Rs) (bx : Nat) (cs : Array Value) (F G : Nat → Prop) (A : Option Addr) (h c : Nat) : Prop where
  p : PAt w cb S F
  g : RAt w rc r A h c G
  pt : ∀ b, F b → b < w.heap.size
  gt : ∀ b, G b → b < w.heap.size
  dis : ∀ b, F b → ¬ G b
  FB : ∀ b, F b → B ≤ b
  GB : ∀ b, G b → B ≤ b
  below : Below B w0 w
  size : B ≤ w.heap.size
  cells : ∀ i x, cs[i]? = some x → Has w ⟨bx, i, none⟩ x
  nF : cs ≠ #[] → ¬ F bx ∧ ¬ G bx ∧ bx < w.heap.size
def PR (B : Nat) (w0 w : World) (cb rc : Nat) (S : St) (r : Rs) (bx : Nat) (cs : Array Value) : Prop := ∃ F G A h c, PRd B w0 w cb rc S r bx cs F G A h c
section
variable {B : Nat} {w0 w w' : World} {cb rc : Nat} {S S' : St} {r r' : Rs} {bx : Nat} {cs : Array Value} {F G : Nat → Prop} {A : Option Addr} {h c : Nat}
theorem ne_of_get {cs : Array Value} {i : Nat} {x : Value} (hx : cs[i]? = some x) : cs ≠ #[] := fun e => by rw [e] at hx; simp at hx
theorem PRd.nowP (H : PRd B w0 w cb rc S r bx cs F G A h c) (hn : Now w w' cb S' F) : PR B w0 w' cb rc S' r bx cs := by
  have hk := hn.step.kept
  have hB := hn.step.below B H.FB H.size
  refine ⟨fun b => More w F b ∧ b < w'.heap.size, G, A, h, c, hn.at_.tight, H.g.keep hk (fun p hp hg => H.dis _ hp hg), fun b hb => hb.2, fun b hb => Nat.lt_of_lt_of_le (H.gt b hb) hk.size, fun b hb hg => ?_, fun b hb => ?_, H.GB, H.below.trans hB, Nat.le_trans H.size hB.size, fun i x hx => hk.has _ _ (H.cells i x hx) (H.nF (ne_of_get hx)).1, fun hc => ⟨fun hb => ?_, (H.nF hc).2.1, Nat.lt_of_lt_of_le (H.nF hc).2.2 hk.size⟩⟩
  · rcases hb.1 with h1 | h1
    · exact H.dis b h1 hg
    · have := H.gt b hg; omega
  · rcases hb.1 with h1 | h1
    · exact H.FB b h1
    · exact Nat.le_trans H.size h1
  · rcases hb.1 with h1 | h1
    · exact (H.nF hc).1 h1
    · have := (H.nF hc).2.2; omega
theorem PRd.nowR (H : PRd B w0 w cb rc S r bx cs F G A h c) (hn : RNow w w' rc r' G) : PR B w0 w' cb rc S r' bx cs := by
  have hk := hn.step.kept
  have hB := hn.step.below B H.GB H.size
  obtain ⟨A', h', c', hR⟩ := hn.at_
  refine ⟨F, fun b => More w G b ∧ b < w'.heap.size, A', h', c', H.p.keep hk (fun p hp hf => H.dis _ hf hp), hR.tight, fun b hb => Nat.lt_of_lt_of_le (H.pt b hb) hk.size, fun b hb => hb.2, fun b hb hg => ?_, H.FB, fun b hb => ?_, H.below.trans hB, Nat.le_trans H.size hB.size, fun i x hx => hk.has _ _ (H.cells i x hx) (H.nF (ne_of_get hx)).2.1, fun hc => ⟨(H.nF hc).1, fun hb => ?_, Nat.lt_of_lt_of_le (H.nF hc).2.2 hk.size⟩⟩
  · rcases hg.1 with h1 | h1
    · exact H.dis b hb h1
    · have := H.pt b hb; omega
  · rcases hb.1 with h1 | h1
    · exact H.GB b h1
    · exact Nat.le_trans H.size h1
  · rcases hb.1 with h1 | h1
    · exact (H.nF hc).2.1 h1
    · have := (H.nF hc).2.2; omega
theorem PR.grow (H : PR B w0 w cb rc S r bx cs) (hb : Below w.heap.size w w') : PR B w0 w' cb rc S r bx cs := by
  obtain ⟨F, G, A, h, c, H⟩ := H
  exact ⟨F, G, A, h, c, H.p.below hb, H.g.below hb, fun b hF => Nat.lt_of_lt_of_le (H.pt b hF) hb.size, fun b hG => Nat.lt_of_lt_of_le (H.gt b hG) hb.size, H.dis, H.FB, H.GB, H.below.trans (hb.mono H.size), Nat.le_trans H.size hb.size,
    fun i x hx => (H.cells i x hx).below hb (H.cells i x hx).lt, fun hc => ⟨(H.nF hc).1, (H.nF hc).2.1, Nat.lt_of_lt_of_le (H.nF hc).2.2 hb.size⟩⟩
/-- A new box. -/
theorem PR.box {bx0 : Nat} {cs0 : Array Value} (H : PR B w0 w cb rc S r bx0 cs0) (cs : Array Value) (t : TypeId) : PR B w0 (w.alloc (.cells cs t)) cb rc S r w.heap.size cs := by
  have hb : Below w.heap.size w (w.alloc (.cells cs t)) := (Below.refl _ _).alloc (Nat.le_refl _) _
  obtain ⟨F, G, A, h, c, H⟩ := H
  exact ⟨F, G, A, h, c, H.p.below hb, H.g.below hb, fun b hF => Nat.lt_of_lt_of_le (H.pt b hF) hb.size, fun b hG => Nat.lt_of_lt_of_le (H.gt b hG) hb.size, H.dis, H.FB, H.GB, H.below.trans (hb.mono H.size), Nat.le_trans H.size hb.size,
    fun i x hx => has_new _ _ _ _ _ hx, fun _ => ⟨fun hF => Nat.lt_irrefl _ (H.pt _ hF), fun hG => Nat.lt_irrefl _ (H.gt _ hG), by rw [alloc_size]; omega⟩⟩
theorem PR.unbox (H : PR B w0 w cb rc S r bx cs) : PR B w0 w cb rc S r 0 #[] := by
  obtain ⟨F, G, A, h, c, H⟩ := H
  exact ⟨F, G, A, h, c, H.p, H.g, H.pt, H.gt, H.dis, H.FB, H.GB, H.below, H.size, fun i x hx => by simp at hx, fun hc => absurd rfl hc⟩
theorem PR.at_ (H : PR B w0 w cb rc S r bx cs) {i : Nat} {x : Value} (hx : cs[i]? = some x) : w.cell? ⟨bx, i, none⟩ = some x := by
  obtain ⟨F, G, A, h, c, H⟩ := H
  exact (H.cells i x hx).1
theorem PR.val (H : PR B w0 w cb rc S r bx cs) : w.cell? ⟨rc, 2, none⟩ = some (.int .i64 r.value) := by
  obtain ⟨F, G, A, h, c, H⟩ := H
  exact H.g.value.1
theorem PR.base (H : PR B w0 w cb rc S r bx cs) : Below B w0 w ∧ B ≤ w.heap.size ∧ rc < w.heap.size := by
  obtain ⟨F, G, A, h, c, H⟩ := H
  exact ⟨H.below, H.size, H.g.lt⟩
theorem PR.calls_begP (H : PR B w0 w cb rc S r bx cs) {n : Nat} (hG : CellM.Good S n) (hn : n ≤ 90000) (t k cl v : Int) : Calls Try.prog 10 #[.pointer (some ⟨cb, 0, none⟩), .int .i64 t, .agg #[.int .i64 k, .int .i64 cl, .int .i64 v]] w fun e w' => e = .returned (.int .i64 (errB S t k)) ∧ PR B w0 w' cb rc (beg S t k v) r bx cs := by
  obtain ⟨F, G, A, h, c, H⟩ := H
  exact (begin_is w cb S F n t k cl v H.p hG hn).mono fun _ _ ⟨h1, h2⟩ => ⟨h1, H.nowP h2⟩
theorem PR.calls_endP (H : PR B w0 w cb rc S r bx cs) {n : Nat} (hG : CellM.Good S n) (hn : n ≤ 90000) (t draw : Int) : Calls Try.prog 8 #[.pointer (some ⟨cb, 0, none⟩), .int .i64 t, .int .i64 draw] w fun e w' => e = .returned (.tuple #[.int .i64 (finV S t draw), .int .i64 (errE S t)]) ∧ PR B w0 w' cb rc (fin S t) r bx cs := by
  obtain ⟨F, G, A, h, c, H⟩ := H
  exact (end_is w cb S F n t draw H.p hG hn).mono fun _ _ ⟨h1, h2⟩ => ⟨h1, H.nowP h2⟩
theorem PR.calls_begR (H : PR B w0 w cb rc S r bx cs) (hl : r.L.length ≤ 100) (hn : 0 ≤ r.now ∧ r.now ≤ 1000) (t k cl v : Int) : Calls Try.prog 11 #[.pointer (some ⟨rc, 0, none⟩), .int .i64 t, .agg #[.int .i64 k, .int .i64 cl, .int .i64 v]] w fun e w' => e = .returned (.int .i64 (errBr r t k)) ∧ PR B w0 w' cb rc S (begr r t k cl v) bx cs := by
  obtain ⟨F, G, A, h, c, H⟩ := H
  exact (beginR_is w rc r A h c G t k cl v H.g hl hn).mono fun _ _ ⟨h1, h2⟩ => ⟨h1, H.nowR h2⟩
theorem PR.calls_endR (H : PR B w0 w cb rc S r bx cs) (hl : r.L.length ≤ 100) (hn : 0 ≤ r.now ∧ r.now ≤ 1000) (t draw : Int) : Calls Try.prog 9 #[.pointer (some ⟨rc, 0, none⟩), .int .i64 t, .int .i64 draw] w fun e w' => e = .returned (.tuple #[.int .i64 (endVr r t draw), .int .i64 (errEr r t)]) ∧ PR B w0 w' cb rc S (endr r t) bx cs := by
  obtain ⟨F, G, A, h, c, H⟩ := H
  exact (endR_is w rc r A h c G t draw H.g hl hn).mono fun _ _ ⟨h1, h2⟩ => ⟨h1, H.nowR h2⟩
theorem PR.calls_value (H : PR B w0 w cb rc S r bx cs) : Calls Try.prog 12 #[.pointer (some ⟨cb, 0, none⟩)] w fun e w' => e = .returned (.int .i64 S.value) ∧ w = w' := by
  obtain ⟨F, G, A, h, c, H⟩ := H
  exact value_is w cb S F H.p
theorem PR.calls_busyP (H : PR B w0 w cb rc S r bx cs) : Calls Try.prog 13 #[.pointer (some ⟨cb, 0, none⟩)] w fun e w' => e = .returned (.int .i64 (CellM.busy S 8 : Nat)) ∧ PR B w0 w' cb rc S r bx cs := by
  have H0 := H
  obtain ⟨F, G, A, h, c, H⟩ := H
  exact (busy_is w cb S F H.p).mono fun _ _ ⟨h1, h2⟩ => ⟨h1, H0.grow h2⟩
theorem PR.calls_busyR (H : PR B w0 w cb rc S r bx cs) : Calls Try.prog 14 #[.pointer (some ⟨rc, 0, none⟩)] w fun e w' => e = .returned (.int .i64 (busyR r.L 8 : Nat)) ∧ w = w' := by
  obtain ⟨F, G, A, h, c, H⟩ := H
  exact busyR_is w rc r A h c G H.g
end
/-- A call of either kind. -/
def stepS (S : St) (a : Ac2) : St := if a.e = true then fin S a.t else beg S a.t a.k a.v
def stepR (r : Rs) (a : Ac2) : Rs := if a.e = true then endr r a.t else begr r a.t a.k a.c a.v
theorem sim_step {S : St} {r : Rs} (h : Sim S r) (a : Ac2) : Sim (stepS S a) (stepR r a) := by
  unfold stepS stepR
  split
  · exact h.fin _
  · exact h.beg _ _ _ _
theorem good_step {S : St} {n : Nat} (h : CellM.Good S n) (a : Ac2) : CellM.Good (stepS S a) (n + 9) := by
  unfold stepS
  split
  · exact (fin_good h _).mono (by omega)
  · exact beg_good h _ _ _
theorem len_step (r : Rs) (a : Ac2) : (stepR r a).L.length ≤ r.L.length + 1 ∧ r.now ≤ (stepR r a).now ∧ (stepR r a).now ≤ r.now + 1 := by
  unfold stepR
  split
  · unfold endr
    split
    · exact ⟨by omega, by omega, by omega⟩
    · simp only [endL, List.length_set]; omega
  · unfold begr
    split
    · exact ⟨by omega, by omega, by omega⟩
    · simp only [List.length_append, List.length_cons, List.length_nil]; omega
/-- The loop's state, k calls made. -/
def PlayAt (B : Nat) (w0 w : World) (cb rc : Nat) (k : Nat) : Prop := ∃ S r, PR B w0 w cb rc S r 0 #[] ∧ Sim S r ∧ CellM.Good S (9 * k) ∧ r.L.length ≤ k ∧ 0 ≤ r.now ∧ r.now ≤ k
theorem play_start (w w1 : World) (kind top : Int) (hP : PAt w1 w.heap.size (new kind top) (fun b => w.heap.size ≤ b)) (hB : Below w.heap.size w w1) (t : TypeId) :
    PlayAt w.heap.size w (w1.alloc (.cells #[.int .i64 kind, .int .i64 top, .int .i64 0, .int .i64 0, .slice none 0 0] t)) w.heap.size w1.heap.size 0 := by
  have hsz := hB.size
  refine ⟨new kind top, newR kind top, ⟨fun b => w.heap.size ≤ b ∧ b < w1.heap.size, fun b => b = w1.heap.size, none, w1.heap.size, 0, hP.tight.alloc _, ⟨has_new _ _ _ 0 _ rfl, has_new _ _ _ 1 _ rfl, has_new _ _ _ 2 _ rfl, has_new _ _ _ 3 _ rfl, has_new _ _ _ 4 _ rfl, RowE.nil _ _, rfl, fun hc => absurd rfl hc⟩, fun b hb => by rw [alloc_size]; omega, fun b hb => by rw [alloc_size]; omega, fun b hb hg => by omega, fun b hb => hb.1, fun b hb => by omega, hB.alloc hsz _, by rw [alloc_size]; omega, fun i x hx => by simp at hx, fun hc => absurd rfl hc⟩, sim_new kind top, new_good kind top, Nat.le_refl _, Int.le_refl _, Int.le_refl _⟩
end Go.Proofs.Ytdpbpbbikeikfaa
