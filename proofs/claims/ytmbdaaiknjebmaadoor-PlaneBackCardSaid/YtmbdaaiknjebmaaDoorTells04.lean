/- PlaneTells' walk. Own work. -/
import Derived.Test.YtmbdaaiknjebmaaDoorGoes04
import Derived.Deep.RegionHeld3
namespace Go.Proofs.YtmbdaaiknjebmaaDoor
open Go.ChangeShapes Go.WideShapes Go.ChangeAt Go.RowKit Fl

theorem rotN_zero : ∀ j, (rotN j ⟨0, 0, false⟩).x = 0 ∧ (rotN j ⟨0, 0, false⟩).y = 0
  | 0 => ⟨rfl, rfl⟩
  | j + 1 => by
    have := rotN_zero j
    show (rot _).x = 0 ∧ (rot _).y = 0
    unfold rot; simp only
    omega
theorem ptOf_no {a b : Nat} (h : (ptOf a b).ok = false) : ptOf a b = ⟨0, 0, false⟩ := by
  unfold ptOf at h ⊢
  split at h
  · cases h
  · rfl
theorem turn_tells {a b : Nat} {k : Int} {r : Pt} (h : turnP (ptOf a b) k = r) (w : World) : Calls Tryd.prog 9 #[.complex .f64 a b, .int .i64 k] w fun e w' =>
    e = .returned (.complex .f64 (floatOfInt .f64 r.x) (floatOfInt .f64 r.y)) ∧ Below w.heap.size w w' := by
  subst h
  refine (turn_is a b k w).mono ?_
  rintro e w' ⟨rfl, hb⟩
  refine ⟨?_, hb⟩
  cases hok : (ptOf a b).ok with
  | true => unfold turnP; rw [if_pos hok]
  | false =>
    have hz := rotN_zero (k % 4).toNat
    unfold turnP
    rw [ptOf_no hok, if_neg (by decide), hz.1, hz.2]
theorem turnP_in {p : Pt} (hp : p.In) (k : Int) : (turnP p k).In := by
  unfold turnP
  split
  · exact rotN_in hp _
  · exact ⟨by decide, by decide, by decide, by decide⟩
theorem mk_in (x y : Int) : (Fl.mk x y).In := by
  unfold Fl.mk
  split
  · rename_i h
    have := part_and _ _ h
    exact ⟨this.1.1, this.1.2, this.2.1, this.2.2⟩
  · exact ⟨by decide, by decide, by decide, by decide⟩
theorem prodP_in (p q : Pt) : (prodP p q).In := by
  unfold prodP
  split
  · exact mk_in _ _
  · exact ⟨by decide, by decide, by decide, by decide⟩
theorem ofR_of {a b : Nat} {p : Pt} (h : ptOf a b = p) (w : World) : Calls Tryd.prog 6 #[.float .f64 a, .float .f64 b] w fun e w' => e = .returned (pv p) ∧ Below w.heap.size w w' := h ▸ ofR_is a b w
theorem turnR_of {p : Pt} (hp : p.In) {k : Int} {r : Pt} (h : turnP p k = r) (w : World) : Calls Tryd.prog 10 #[pv p, .int .i64 k] w fun e w' => e = .returned (pv r) ∧ Below w.heap.size w w' := h ▸ turnR_is p hp k w
theorem normR_of {p : Pt} (hp : p.In) {n : Int} (h : normP p = n) (w : World) : Calls Tryd.prog 12 #[pv p] w fun e w' => e = .returned (.int .i64 n) ∧ Below w.heap.size w w' := h ▸ normR_is p hp w
theorem textR_of {p : Pt} (hp : p.In) {t : List UInt8} (h : textP p = t) (w : World) : Calls Tryd.prog 14 #[pv p] w fun e w' => e = .returned (.string ⟨t.toArray⟩) ∧ Below w.heap.size w w' := h ▸ textR_is p hp w
theorem timesR_of {p q r : Pt} (hp : p.In) (hq : q.In) (h : prodP p q = r) (w : World) : Calls Tryd.prog 16 #[pv p, pv q] w fun e w' => e = .returned (pv r) ∧ Below w.heap.size w w' := h ▸ timesR_is p q hp hq w
set_option maxHeartbeats 2000000 in
theorem tells_walk (a b c d : Nat) (k : Int) (w : World) (ht : Tab w) :
    Calls Tryd.prog 3 #[.agg #[.float .f64 a, .float .f64 b, .float .f64 c, .float .f64 d, .int .i64 k]] w fun e w' => e = .returned (.bool true) ∧ Below w.heap.size w w' := by
  have T := Lib.hid ht; clear ht
  obtain ⟨p, hp⟩ : ∃ p, ptOf a b = p := ⟨_, rfl⟩
  obtain ⟨q, hq⟩ : ∃ q, ptOf c d = q := ⟨_, rfl⟩
  have PI : Hid p.In := Lib.hid (hp ▸ ptOf_in a b)
  have QI : Hid q.In := Lib.hid (hq ▸ ptOf_in c d)
  obtain ⟨r, hr⟩ : ∃ r, turnP p k = r := ⟨_, rfl⟩
  obtain ⟨m, hm⟩ : ∃ m, prodP p q = m := ⟨_, rfl⟩
  have RI : Hid r.In := Lib.hid (hr ▸ turnP_in PI.out k)
  have MI : Hid m.In := Lib.hid (hm ▸ prodP_in p q)
  obtain ⟨n, hn⟩ : ∃ n, normP p = n := ⟨_, rfl⟩
  obtain ⟨t, htx⟩ : ∃ t, textP p = t := ⟨_, rfl⟩
  have h1 : turnP (ptOf a b) k = r := by rw [hp, hr]
  have h2 : prodP (ptOf a b) (ptOf c d) = m := by rw [hp, hq, hm]
  have h3 : normP (ptOf a b) = n := by rw [hp, hn]
  have h4 : textP (ptOf a b) = t := by rw [hp, htx]
  have HP := Lib.hid hp
  have HQ := Lib.hid hq
  have HR := Lib.hid hr
  have HM := Lib.hid hm
  have HN := Lib.hid hn
  have HT := Lib.hid htx
  have H1 := Lib.hid h1
  have H2 := Lib.hid h2
  have H3 := Lib.hid h3
  have H4 := Lib.hid h4
  clear hp hq hr hm hn htx h1 h2 h3 h4
  go_enter Tryd.func3, Tryd.ntmps3
  go_wp2_with fail
  go_quiet (fail)
  go_wp2_with fail
  refine (ofR_of HP.out _).mono ?_; rintro e w1 ⟨rfl, b1⟩
  have B1 : Hid (Below w.heap.size w w1) := Lib.hid ((below_drewN (show Below w.heap.size w (w.alloc _) by go_grown) nq).trans (b1.mono (by simp))); clear b1
  go_wp2_with fail
  refine (ofR_of HQ.out _).mono ?_; rintro e w2 ⟨rfl, b2⟩
  have B2 : Hid (Below w.heap.size w w2) := Lib.hid (B1.out.trans (b2.mono B1.out.size)); clear b2
  unfold pv
  go_wp2_with fail
  refine (parts_of HP.out _).mono ?_; rintro e w' ⟨rfl, rfl⟩
  obtain ⟨W, hW⟩ : ∃ W, W = (w2.alloc (Obj.cells #[.int .i64 p.x, .int .i64 p.y, .bool p.ok] 27)).alloc (Obj.cells #[.int .i64 q.x, .int .i64 q.y, .bool q.ok] 27) := ⟨_, rfl⟩
  rw [← hW]
  have X1 := box_past (box_new w2 p.x p.y p.ok 27) (Obj.cells #[.int .i64 q.x, .int .i64 q.y, .bool q.ok] 27)
  have X2 := box_new (w2.alloc (Obj.cells #[.int .i64 p.x, .int .i64 p.y, .bool p.ok] 27)) q.x q.y q.ok 27
  rw [World.size_alloc] at X2
  rw [← hW] at X1 X2
  have B3 : Hid (Below w.heap.size w W) := Lib.hid (hW ▸ B2.out.trans (show Below w.heap.size w2 _ from ((Below.refl _ _).alloc B2.out.size _).alloc (by have := B2.out.size; simp; omega) _))
  clear hW
  obtain ⟨n1, hn1⟩ : ∃ n, w2.heap.size = n := ⟨_, rfl⟩
  rw [hn1] at X1 X2
  rw [hn1]
  have Z1 := Lib.hid X1
  have Z2 := Lib.hid X2
  have hk : ∀ wx, Below W.heap.size W.drew wx → wx.cell? ⟨n1, 0, none⟩ = some (.int .i64 p.x) ∧ wx.cell? ⟨n1, 1, none⟩ = some (.int .i64 p.y) ∧ wx.cell? ⟨n1, 2, none⟩ = some (.bool p.ok) :=
    fun wx hx => ⟨(hx.cell Z1.out.lt).trans Z1.out.c0, (hx.cell Z1.out.lt).trans Z1.out.c1, (hx.cell Z1.out.lt).trans Z1.out.c2⟩
  have HK := Lib.hid hk; clear hk
  have c0 := X1.c0
  have c1 := X1.c1
  have c2 := X1.c2
  have clt := X1.lt
  clear X1 X2
  simp only at c0 c1 c2
  go_wp2_with fail
  go_region_held3 (fun wx => wx.cell? ⟨n1, 0, none⟩ = some (.int .i64 p.x) ∧ wx.cell? ⟨n1, 1, none⟩ = some (.int .i64 p.y) ∧ wx.cell? ⟨n1, 2, none⟩ = some (.bool p.ok))
    (first | exact HK.out _ (Below.refl _ _) | exact HK.out _ HB4.out | exact HK.out _ HB5.out | exact HK.out _ HB6.out | exact HK.out _ HB7.out | exact HK.out _ HB8.out | exact HK.out _ HB9.out)
    (first
      | (go_at_call 9; refine (turn_tells H1.out _).mono ?_; rintro e w4 ⟨rfl, b4⟩; have HB4 : Hid (Below W.heap.size W.drew w4) := Lib.hid b4; clear b4)
      | (go_at_call 10; refine (turnR_of PI.out HR.out _).mono ?_; rintro e w5 ⟨rfl, b5⟩; have HB5 : Hid (Below W.heap.size W.drew w5) := Lib.hid (HB4.out.trans (b5.mono HB4.out.size)); clear b5)
      | (go_at_call 8; refine (is_is r RI.out _).mono ?_; rintro e w6 ⟨rfl, b6⟩; have HB6 : Hid (Below W.heap.size W.drew w6) := Lib.hid (HB5.out.trans (b6.mono HB5.out.size)); clear b6)
      | (go_at_call 11; refine (norm_of H3.out _).mono ?_; rintro e w' ⟨rfl, rfl⟩)
      | (go_at_call 12; refine (normR_of PI.out HN.out _).mono ?_; rintro e w7 ⟨rfl, b7⟩; have HB7 : Hid (Below W.heap.size W.drew w7) := Lib.hid (HB6.out.trans (b7.mono HB6.out.size)); clear b7)
      | (go_at_call 13; refine (text_of H4.out _ (tab_below T.out (B3.out.drew.trans (HB7.out.mono B3.out.size)))).mono ?_; rintro e w8 ⟨rfl, b8⟩; have HB8 : Hid (Below W.heap.size W.drew w8) := Lib.hid (HB7.out.trans (b8.mono HB7.out.size)); clear b8)
      | (go_at_call 14; refine (textR_of PI.out HT.out _).mono ?_; rintro e w9 ⟨rfl, b9⟩; have HB9 : Hid (Below W.heap.size W.drew w9) := Lib.hid (HB8.out.trans (b9.mono HB8.out.size)); clear b9))
  have B9 : Hid (Below w.heap.size w w9) := Lib.hid (B3.out.drew.trans (HB9.out.mono B3.out.size))
  have Y1 : Box w9 n1 ⟨p.x, p.y, p.ok⟩ := Z1.out.below (show Below W.heap.size W w9 from (Below.refl _ W).drew.trans HB9.out) Z1.out.lt
  have Y2 : Box w9 (n1 + 1) ⟨q.x, q.y, q.ok⟩ := Z2.out.below (show Below W.heap.size W w9 from (Below.refl _ W).drew.trans HB9.out) Z2.out.lt
  clear c0 c1 c2 clt HB4 HB5 HB6 HB7 HB8 HB9 HK Z1 Z2
  obtain ⟨c0, c1, c2, clt⟩ := Y1
  obtain ⟨d0, d1, d2, dlt⟩ := Y2
  simp only at c0 c1 c2 d0 d1 d2
  go_wp2_with fail
  refine (times_of H2.out _).mono ?_; rintro e w' ⟨rfl, rfl⟩
  go_wp2_with fail
  refine (timesR_of (p := p) (q := q) PI.out QI.out HM.out _).mono ?_; rintro e w10 ⟨rfl, b10⟩
  have B10 : Hid (Below w.heap.size w w10) := Lib.hid (B9.out.trans (b10.mono B9.out.size)); clear b10
  clear c0 c1 c2 clt d0 d1 d2 dlt
  unfold pv
  go_wp2_with fail
  refine (is_is m MI.out _).mono ?_; rintro e w11 ⟨rfl, b11⟩
  have B11 : Hid (Below w.heap.size w w11) := Lib.hid (B10.out.trans ((show Below w.heap.size w10 _ from (Below.refl _ _).alloc B10.out.size _).trans (b11.mono (by have := B10.out.size; simp; omega)))); clear b11
  go_wp2_with fail
  refine (alive_is _ (tab_below T.out B11.out)).mono ?_; rintro e w12 ⟨rfl, b12⟩
  go_wp2_with fail
  go_ret
  exact ⟨rfl, B11.out.trans (b12.mono B11.out.size)⟩
end Go.Proofs.YtmbdaaiknjebmaaDoor
