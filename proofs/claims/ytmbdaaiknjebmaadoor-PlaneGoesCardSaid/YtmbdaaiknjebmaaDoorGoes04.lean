/- PlaneGoes' walk. Own work. -/
import Derived.Test.YtmbdaaiknjebmaaDoorLaw04
namespace Go.Proofs.YtmbdaaiknjebmaaDoor
open Go.ChangeShapes Go.WideShapes Go.ChangeAt Go.RowKit Fl

/-- A block of a point's parts. -/
structure Box (w : World) (b : Nat) (p : Pt) : Prop where
  c0 : w.cell? ⟨b, 0, none⟩ = some (.int .i64 p.x)
  c1 : w.cell? ⟨b, 1, none⟩ = some (.int .i64 p.y)
  c2 : w.cell? ⟨b, 2, none⟩ = some (.bool p.ok)
  lt : b < w.heap.size
theorem Box.below {w w' : World} {b B : Nat} {p : Pt} (h : Box w b p) (hb : Below B w w') (hlt : b < B) : Box w' b p :=
  ⟨(hb.cell hlt).trans h.c0, (hb.cell hlt).trans h.c1, (hb.cell hlt).trans h.c2, Nat.lt_of_lt_of_le h.lt hb.size⟩
theorem box_new (w : World) (x y : Int) (ok : Bool) (t : TypeId) : Box (w.alloc (Obj.cells #[.int .i64 x, .int .i64 y, .bool ok] t)) w.heap.size ⟨x, y, ok⟩ :=
  ⟨by simp [World.cell?_alloc_at], by simp [World.cell?_alloc_at], by simp [World.cell?_alloc_at], by simp⟩
theorem box_past {w : World} {b : Nat} {p : Pt} (h : Box w b p) (o : Obj) : Box (w.alloc o) b p := by
  have hb := (Below.refl w.heap.size w).alloc (Nat.le_refl _) o
  exact h.below hb h.lt
theorem goL_in : ∀ (l : List UInt8) (x y : Int), -1048576 ≤ x → x ≤ 1048576 → -1048576 ≤ y → y ≤ 1048576 → (goL l x y).1.In
  | [], x, y, h0, h1, h2, h3 => ⟨h0, h1, h2, h3⟩
  | c :: l, x, y, h0, h1, h2, h3 => by
    unfold goL
    split
    · exact ⟨by decide, by decide, by decide, by decide⟩
    · split
      · rename_i dx dy _ h
        have := part_and _ _ h
        exact goL_in l _ _ this.1.1 this.1.2 this.2.1 this.2.2
      · exact ⟨by decide, by decide, by decide, by decide⟩
theorem goR_of {p : Pt} (hp : p.In) (hok : p.ok = true) {l : List UInt8} (hl : l.length ≤ 9223372036854775807) {r : Pt × Int} (h : goL l p.x p.y = r) (w : World) : Calls Tryd.prog 21 #[pv p, .string ⟨l.toArray⟩] w fun e w' =>
    e = .returned (.tuple #[pv r.1, .int .i64 r.2]) ∧ Below w.heap.size w w' := h ▸ goR_is p hp hok l hl w
theorem wayR_of {p q : Pt} (hp : p.In) (hq : q.In) (h1 : p.ok = true) (h2 : q.ok = true) {r : List UInt8 × Int} (h : wayP (q.x - p.x) (q.y - p.y) = r) (w : World) : Calls Tryd.prog 23 #[pv p, pv q] w fun e w' =>
    e = .returned (.tuple #[.string ⟨r.1.toArray⟩, .int .i64 r.2]) ∧ Below w.heap.size w w' := h ▸ wayR_is p q hp hq h1 h2 w
set_option maxHeartbeats 2000000 in
theorem goes_walk (x y v u : Int) (l : List UInt8) (w : World) (ht : Tab w) :
    Calls Tryd.prog 4 #[.agg #[.int .i64 x, .int .i64 y, .int .i64 v, .int .i64 u, .string ⟨l.toArray⟩]] w fun e w' => e = .returned (.bool true) ∧ Below w.heap.size w w' := by
  have T := Lib.hid ht; clear ht
  have p1 := pw_fi (cl_in x).1 (cl_in x).2 (cl_in y).1 (cl_in y).2
  have p2 := pw_fi (cl_in v).1 (cl_in v).2 (cl_in u).1 (cl_in u).2
  have i1 : (Pt.mk (cl x) (cl y) true).In := ⟨(cl_in x).1, (cl_in x).2, (cl_in y).1, (cl_in y).2⟩
  have i2 : (Pt.mk (cl v) (cl u) true).In := ⟨(cl_in v).1, (cl_in v).2, (cl_in u).1, (cl_in u).2⟩
  have P1 := Lib.hid p1
  have P2 := Lib.hid p2
  have I1 := Lib.hid i1
  have I2 := Lib.hid i2
  clear p1 p2 i1 i2
  by_cases hlen : (300 : Int) < (l.length : Int)
  · go_enter Tryd.func4, Tryd.ntmps4
    go_wp2_with fail
    go_quiet (fail)
    go_wp2_with fail
    have hb0 : ∀ o n, Below w.heap.size w ((w.alloc o).drewN n) := fun o n => below_drewN (by go_grown) n
    refine (alive_is _ (tab_below T.out (hb0 _ _))).mono ?_
    rintro e w1 ⟨rfl, b1⟩
    go_wp2_with fail
    go_ret
    exact ⟨rfl, (hb0 _ _).trans (b1.mono (by simp))⟩
  · have hl : l.length ≤ 9223372036854775807 := by omega
    go_enter Tryd.func4, Tryd.ntmps4
    go_wp2_with fail
    go_quiet (fail)
    go_wp2_with fail
    refine (at_is x y _).mono ?_; rintro e w' ⟨rfl, rfl⟩
    go_wp2_with fail
    refine (at_is v u _).mono ?_; rintro e w' ⟨rfl, rfl⟩
    go_wp2_with fail
    refine (atR_is x y _).mono ?_; rintro e w1 ⟨rfl, b1⟩
    go_wp2_with fail
    refine (atR_is v u _).mono ?_; rintro e w2 ⟨rfl, b2⟩
    have B2 : Hid (Below w.heap.size w w2) := Lib.hid (((below_drewN (show Below w.heap.size w (w.alloc _) by go_grown) nq).trans (b1.mono (by simp))).trans (b2.mono (by have := b1.size; simp at this; omega)))
    clear b1 b2
    unfold pv
    go_wp2_with fail
    refine (is_is ⟨cl x, cl y, true⟩ I1.out _).mono ?_; rintro e w3 ⟨rfl, b3⟩
    have X1 := (box_new w2 (cl x) (cl y) true 27)
    have X2 := (box_new (w2.alloc (Obj.cells #[.int .i64 (cl x), .int .i64 (cl y), .bool true] 27)) (cl v) (cl u) true 27)
    rw [World.size_alloc] at X2
    have Y1 := (box_past X1 _).below b3 (by simp; omega)
    have Y2 := X2.below b3 (by simp)
    have B3 : Hid (Below w.heap.size w w3) := Lib.hid (B2.out.trans ((show Below w.heap.size w2 _ from ((Below.refl _ _).alloc B2.out.size _).alloc (by have := B2.out.size; simp; omega) _).trans (b3.mono (by have := B2.out.size; simp; omega))))
    clear X1 X2 b3
    obtain ⟨n1, hn1⟩ : ∃ n, w2.heap.size = n := ⟨_, rfl⟩
    rw [hn1] at Y1 Y2
    have Z1 := Lib.hid Y1
    have Z2 := Lib.hid Y2
    obtain ⟨c0, c1, c2, clt⟩ := Y1
    obtain ⟨d0, d1, d2, dlt⟩ := Y2
    simp only at c0 c1 c2 d0 d1 d2
    go_wp2_with fail
    refine (is_is ⟨cl v, cl u, true⟩ I2.out _).mono ?_; rintro e w4 ⟨rfl, b4⟩
    have B4 : Hid (Below w.heap.size w w4) := Lib.hid (B3.out.trans (b4.mono B3.out.size))
    have Y1 := Z1.out.below b4 clt
    have Y2 := Z2.out.below b4 dlt
    clear b4 c0 c1 c2 clt d0 d1 d2 dlt Z1 Z2
    have Z1 := Lib.hid Y1
    have Z2 := Lib.hid Y2
    obtain ⟨c0, c1, c2, clt⟩ := Y1
    obtain ⟨d0, d1, d2, dlt⟩ := Y2
    simp only at c0 c1 c2 d0 d1 d2
    obtain ⟨r, hr⟩ : ∃ r, goL l (cl x) (cl y) = r := ⟨_, rfl⟩
    have RI : Hid (r.1.In) := Lib.hid (hr ▸ goL_in l _ _ (cl_in x).1 (cl_in x).2 (cl_in y).1 (cl_in y).2)
    have R := Lib.hid hr; clear hr
    obtain ⟨g, hg⟩ : ∃ g, wayP (cl v - cl x) (cl u - cl y) = g := ⟨_, rfl⟩
    have G := Lib.hid hg; clear hg
    go_wp2_with fail
    refine (go_of P1.out hl R.out _).mono ?_; rintro e w' ⟨rfl, rfl⟩
    go_wp2_with fail
    refine (goR_of (p := ⟨cl x, cl y, true⟩) I1.out rfl hl R.out _).mono ?_; rintro e w5 ⟨rfl, b5⟩
    have B5 : Hid (Below w.heap.size w w5) := Lib.hid (B4.out.trans (b5.mono B4.out.size))
    have Y1 := Z1.out.below b5 clt
    have Y2 := Z2.out.below b5 dlt
    clear b5 c0 c1 c2 clt d0 d1 d2 dlt Z1 Z2
    unfold pv
    go_wp2_with fail
    refine (way_of P1.out P2.out G.out _).mono ?_; rintro e w6 ⟨rfl, b6⟩
    have Y3 := (box_new w5 r.1.x r.1.y r.1.ok 27)
    have Y3 := Y3.below b6 Y3.lt
    have Y1 := (box_past Y1 _).below b6 (by have := Y1.lt; simp; omega)
    have Y2 := (box_past Y2 _).below b6 (by have := Y2.lt; simp; omega)
    have B6 : Hid (Below w.heap.size w w6) := Lib.hid (B5.out.trans ((show Below w.heap.size w5 _ from (Below.refl _ _).alloc B5.out.size _).trans (b6.mono (by have := B5.out.size; simp; omega))))
    clear b6
    obtain ⟨n2, hn2⟩ : ∃ n, w5.heap.size = n := ⟨_, rfl⟩
    rw [hn2] at Y3
    have Z1 := Lib.hid Y1
    have Z2 := Lib.hid Y2
    have Z3 := Lib.hid Y3
    obtain ⟨c0, c1, c2, clt⟩ := Y1
    obtain ⟨d0, d1, d2, dlt⟩ := Y2
    obtain ⟨e0, e1, e2, elt⟩ := Y3
    simp only at c0 c1 c2 d0 d1 d2 e0 e1 e2
    go_wp2_with fail
    refine (wayR_of (p := ⟨cl x, cl y, true⟩) (q := ⟨cl v, cl u, true⟩) I1.out I2.out rfl rfl G.out _).mono ?_; rintro e w7 ⟨rfl, b7⟩
    have B7 : Hid (Below w.heap.size w w7) := Lib.hid (B6.out.trans (b7.mono B6.out.size))
    have Y3 := Z3.out.below b7 elt
    clear b7 c0 c1 c2 clt d0 d1 d2 dlt e0 e1 e2 elt Z1 Z2 Z3
    obtain ⟨e0, e1, e2, elt⟩ := Y3
    simp only at e0 e1 e2
    go_wp2_with fail
    refine (is_is r.1 RI.out _).mono ?_; rintro e w8 ⟨rfl, b8⟩
    have B8 : Hid (Below w.heap.size w w8) := Lib.hid (B7.out.trans (b8.mono B7.out.size))
    clear b8 e0 e1 e2 elt
    go_wp2_with fail
    refine (alive_is _ (tab_below T.out B8.out)).mono ?_; rintro e w9 ⟨rfl, b9⟩
    go_wp2_with fail
    go_ret
    exact ⟨rfl, B8.out.trans (b9.mono B8.out.size)⟩
end Go.Proofs.YtmbdaaiknjebmaaDoor
