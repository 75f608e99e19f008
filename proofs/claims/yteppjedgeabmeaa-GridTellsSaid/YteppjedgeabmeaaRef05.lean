/- Contracts of kevelref05: lists of points, and looking for one. Own work. -/
import Derived.Test.YteppjedgeabmeaaGrid
import Derived.Test.YteppjedgeabmeaaRefP
import Derived.Laws.AppendOwn
import Derived.Laws.OwnMore
namespace Go.Proofs.Yteppjedgeabmeaa
open Go.ChangeShapes Go.WideShapes Go.ChangeAt Go.RowKit Fl

theorem infoP : (Try.prog.info? 25).map (fun i => (i.zero, i.size, i.bytes)) = some (some (.agg #[.int .i64 0, .int .i64 0, .bool false]), 3, 24) := by kernel_rfl
/-- A point's cells. -/
def cellsP (p : Pt) : List Value := [.int .i64 p.x, .int .i64 p.y, .bool p.ok]
def rowP (l : List Pt) : List Value := l.flatMap cellsP
theorem rowP_snoc (l : List Pt) (p : Pt) : rowP (l ++ [p]) = rowP l ++ cellsP p := by unfold rowP; simp
theorem rowP_get : ∀ (l : List Pt) (k : Nat) (h : k < l.length), (rowP l)[k * 3]? = some (.int .i64 l[k].x) ∧ (rowP l)[k * 3 + 1]? = some (.int .i64 l[k].y) ∧ (rowP l)[k * 3 + 2]? = some (.bool l[k].ok)
  | p :: l, 0, _ => ⟨rfl, rfl, rfl⟩
  | p :: l, k + 1, h => by
    have := rowP_get l k (by simpa using h)
    have e : ∀ j, (rowP (p :: l))[(k + 1) * 3 + j]? = (rowP l)[k * 3 + j]? := by
      intro j
      show (cellsP p ++ rowP l)[(k + 1) * 3 + j]? = _
      rw [List.getElem?_append_right (by show 3 ≤ _; omega)]
      congr 1
      show (k + 1) * 3 + j - 3 = _
      omega
    have e0 := e 0
    rw [Nat.add_zero, Nat.add_zero] at e0
    exact ⟨e0.trans this.1, (e 1).trans this.2.1, (e 2).trans this.2.2⟩
/-- A row of the call's own, that reads as points. -/
def OwnP (w : World) (B : Nat) (v : Value) (l : List Pt) : Prop := w.ownsRow B 25 3 v l.length (rowP l)
/-- The slice's places read as points. -/
def ReadP (w : World) (A : Option Addr) (l : List Pt) : Prop := ∀ k (h : k < l.length), ∃ ad : Addr, A = some ad ∧ ad.block < w.heap.size ∧
  w.cell? (ad.add (k * 3)) = some (.int .i64 l[k].x) ∧ w.cell? (ad.add (k * 3 + 1)) = some (.int .i64 l[k].y) ∧ w.cell? (ad.add (k * 3 + 2)) = some (.bool l[k].ok)
theorem addP_block (a : Addr) (n : Nat) : (a.add n).block = a.block := by unfold Addr.add; split <;> rfl
theorem ReadP.below {w w' : World} {A : Option Addr} {l : List Pt} (h : ReadP w A l) (hb : Below w.heap.size w w') : ReadP w' A l := fun k hk => by
  obtain ⟨ad, e, hlt, h0, h1, h2⟩ := h k hk
  exact ⟨ad, e, Nat.lt_of_lt_of_le hlt hb.size, (hb.cell (by rw [addP_block]; exact hlt)).trans h0, (hb.cell (by rw [addP_block]; exact hlt)).trans h1, (hb.cell (by rw [addP_block]; exact hlt)).trans h2⟩
theorem OwnP.reads {w : World} {B : Nat} {v : Value} {l : List Pt} (h : OwnP w B v l) : ∃ A cap, v = .slice A l.length cap ∧ ReadP w A l := by
  unfold OwnP at h
  rcases h.2 with ⟨hv, h0⟩ | ⟨g, cap, cur, hv, r⟩
  · exact ⟨none, 0, by rw [hv, h0], fun k hk => absurd hk (by omega)⟩
  · refine ⟨some ⟨g, 0, none⟩, cap, hv, fun k hk => ⟨_, rfl, ?_, ?_⟩⟩
    · exact (h.lt g (by rw [hv]; rfl)).2
    · have hc := h.cells (g := g) (by rw [hv]; rfl)
      have hr := rowP_get l k hk
      exact ⟨hc _ _ hr.1, hc _ _ hr.2.1, hc _ _ hr.2.2⟩
set_option maxHeartbeats 1000000 in
theorem listR_is (n : Int) (w : World) :
    Calls Try.prog 8 #[.int .i64 n] w fun e w' => ∃ v, e = .returned v ∧ OwnP w' w.heap.size v (firstN (T (sideN n))) ∧ Below w.heap.size w w' := by
  obtain ⟨i0, hi, hz0, hz1, hz2⟩ := info_parts infoP
  go_enter Try.func8, Try.ntmps8
  go_wp2_with fail
  go_loopw [3, 4, 5] (fun v d y wr => ∃ k : Nat, k ≤ sideN n ∧ d = .int .i64 k ∧ OwnP wr w.heap.size v (firstN (T k)) ∧ Below w.heap.size w wr) (fun _ d _ _ => 64 - (intOf d).toNat)
  case atStart => exact ⟨0, by omega, rfl, World.ownsRow_nil _ _ _ _, Below.refl _ _⟩
  case round =>
    obtain ⟨k, hk, rfl, hown, hB⟩ := hrel
    have h64 := sideN_le n
    by_cases hlt : k < sideN n
    · have hlt1 : (k : Int) < n := by unfold sideN at hlt; omega
      have hlt2 : (k : Int) < 64 := by omega
      have N := Lib.hid hlt; clear hlt
      go_wp2_with fail
      go_loopw [3, 5] (fun v y wr => ∃ j : Nat, j ≤ k + 1 ∧ y = .int .i64 j ∧ OwnP wr w.heap.size v (firstN (T k + j)) ∧ Below w.heap.size w wr) (fun _ y _ => k + 1 - (intOf y).toNat)
      case atStart => exact ⟨0, by omega, rfl, hown, hB⟩
      case round =>
        obtain ⟨j, hj, rfl, hown, hB⟩ := hrel
        by_cases hjk : j ≤ k
        · have hjk' : (j : Int) ≤ (k : Int) := by omega
          have hp := Lib.hid (ptN_at hjk)
          have hT := T_le (k := k) (by omega)
          have hl := firstN_len (T k + j)
          unfold OwnP at hown
          go_wp2_with (at_builtin; refine wpList_append_own _ rfl _ _ 28 rfl w.heap.size 25 i0 (.agg #[.int .i64 0, .int .i64 0, .bool false]) 3 24 Try.underlying28 hi hz0 hz1 hz2 rfl (by decide) _ _ _ rfl (hown.alloc _) ⟨wr.heap.size, 0, none⟩ 1 1 [.int .i64 ((k : Int) - (j : Int)), .int .i64 j, .bool true] rfl rfl ?c1 ?c2 ?c3 ?c4 ?c5 ?_)
          case c1 =>
            intro i u hi
            match i, hi with
            | 0, hi => simp at hi; subst hi; simp [Addr.add]
            | 1, hi => simp at hi; subst hi; simp [Addr.add]
            | 2, hi => simp at hi; subst hi; simp [Addr.add]
          case c2 => intro u hu; simp at hu; rcases hu with rfl | rfl | rfl <;> rfl
          case c3 => unfold maxLen; omega
          case c4 => omega
          case c5 => have := hB.size; simp; omega
          intro v' w1 hown' hgrow _
          have h1 : OwnP w1 w.heap.size v' (firstN (T k + (j + 1))) := by
            rw [show T k + (j + 1) = T k + j + 1 by omega, firstN_succ, hp.out]
            unfold OwnP
            rw [rowP_snoc, List.length_append, firstN_len]
            exact hown'
          have h2 : Below w.heap.size w w1 := (hB.alloc hB.size _).grown hgrow (by have := hB.size; simp; omega) (fun j hj => (hown.lt j hj).1)
          clear hown' hgrow
          go_wp2
          go_roundw
          case rel => exact ⟨j + 1, by omega, by go_num, h1, h2⟩
          case measure => simp [intOf]; omega
        · obtain rfl : j = k + 1 := by omega
          rw [← T_succ] at hown
          have hno : decide (((k + 1 : Nat) : Int) ≤ (k : Int)) = false := by rw [decide_eq_false_iff_not]; omega
          go_wp2_with fail
          exact ⟨⟨k + 1, N.out, by go_num, hown, hB⟩, by simp [intOf]; omega⟩
    · have hm : sideN n = k := by omega
      have hn : decide ((k : Int) < n) = false ∨ (decide ((k : Int) < n) = true ∧ decide ((k : Int) < 64) = false ∧ decide (k < 64) = false) := by
        rw [decide_eq_false_iff_not, decide_eq_true_iff, decide_eq_false_iff_not, decide_eq_false_iff_not]; unfold sideN at hm; omega
      have Hm := Lib.hid hm
      clear hlt hm hk h64
      rcases hn with d1 | ⟨d1, d2, d3⟩
      · go_wp2_with fail
        go_ret
        refine ⟨_, rfl, ?_, hB⟩
        rw [Hm.out]; exact hown
      · go_wp2_with fail
        go_ret
        refine ⟨_, rfl, ?_, hB⟩
        rw [Hm.out]; exact hown
end Go.Proofs.Yteppjedgeabmeaa
