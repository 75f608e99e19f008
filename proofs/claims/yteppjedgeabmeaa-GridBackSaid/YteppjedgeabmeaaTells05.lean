/- GridTells' walk. Own work. -/
import Derived.Test.YteppjedgeabmeaaNames05
namespace Go.Proofs.Yteppjedgeabmeaa
open Go.ChangeShapes Go.WideShapes Go.ChangeAt Go.RowKit Fl

theorem listR_of {n : Int} {t : Nat} (h : T (sideN n) = t) (w : World) : Calls Try.prog 8 #[.int .i64 n] w fun e w' =>
    ∃ A cap, e = .returned (.slice A t cap) ∧ Below w.heap.size w w' := by
  refine (listR_is n w).mono ?_
  rintro e w1 ⟨v, rfl, hown, hB⟩
  obtain ⟨A, cap, rfl, hr⟩ := hown.reads
  rw [firstN_len, h]
  exact ⟨A, cap, rfl, hB⟩
theorem onR_of {n : Int} {p : Pt} {q : Bool} (h : inTri p (sideN n) = q) (w : World) : Calls Try.prog 10 #[.int .i64 n, pv p] w fun e w' => e = .returned (.bool q) ∧ Below w.heap.size w w' := h ▸ onR_is n p w
theorem nameR_of {p : Pt} {m : Int} (h : nameP p = m) (w : World) : Calls Try.prog 12 #[pv p] w fun e w' => e = .returned (.int .i64 m) ∧ Below w.heap.size w w' := h ▸ nameR_is p w
theorem diagR_of {p : Pt} (hp : p.In) {m : Int} (h : diagP p = m) (w : World) : Calls Try.prog 14 #[pv p] w fun e w' => e = .returned (.int .i64 m) ∧ Below w.heap.size w w' := h ▸ diagR_is p hp w
theorem ofR_of {a b : Nat} {p : Pt} (h : ptOf a b = p) (w : World) : Calls Try.prog 6 #[.float .f64 a, .float .f64 b] w fun e w' => e = .returned (pv p) ∧ Below w.heap.size w w' := h ▸ ofR_is a b w
set_option maxHeartbeats 2000000 in
theorem tells_walk (n : Int) (a b : Nat) (w : World) : Calls Try.prog 3 #[.int .i64 n, .float .f64 a, .float .f64 b] w fun e w' => e = .returned (.bool true) ∧ Below w.heap.size w w' := by
  obtain ⟨p, hp⟩ : ∃ p, ptOf a b = p := ⟨_, rfl⟩
  have PI : Hid p.In := Lib.hid (hp ▸ ptOf_in a b)
  obtain ⟨t, ht⟩ : ∃ t, T (sideN n) = t := ⟨_, rfl⟩
  obtain ⟨q, hq⟩ : ∃ q, inTri p (sideN n) = q := ⟨_, rfl⟩
  obtain ⟨m, hm⟩ : ∃ m, nameP p = m := ⟨_, rfl⟩
  obtain ⟨d, hd⟩ : ∃ d, diagP p = d := ⟨_, rfl⟩
  have HP := Lib.hid hp
  have HT := Lib.hid ht
  have HQ := Lib.hid hq
  have HM := Lib.hid hm
  have HD := Lib.hid hd
  have GQ : Hid (inTri (ptOf a b) (sideN n) = q) := Lib.hid (by rw [hp, hq])
  have GM : Hid (nameP (ptOf a b) = m) := Lib.hid (by rw [hp, hm])
  have GD : Hid (diagP (ptOf a b) = d) := Lib.hid (by rw [hp, hd])
  clear hp ht hq hm hd
  go_enter Try.func3, Try.ntmps3
  go_wp2_with fail
  refine (ofR_of HP.out _).mono ?_; rintro e w1 ⟨rfl, b1⟩
  have B1 := Lib.hid b1; clear b1
  unfold pv
  go_wp2_with fail
  have X1 := box_new w1 p.x p.y p.ok 25
  obtain ⟨W, hW⟩ : ∃ W, W = w1.alloc (Obj.cells #[.int .i64 p.x, .int .i64 p.y, .bool p.ok] 25) := ⟨_, rfl⟩
  rw [← hW] at X1 ⊢
  have B3 : Hid (Below w.heap.size w W) := Lib.hid (hW ▸ B1.out.alloc B1.out.size _)
  clear hW
  obtain ⟨b', hb⟩ : ∃ b, w1.heap.size = b := ⟨_, rfl⟩
  rw [hb] at X1 ⊢
  have Z1 := Lib.hid X1
  have HK : Hid (∀ wx, Below W.heap.size W.drew wx → wx.cell? ⟨b', 0, none⟩ = some (.int .i64 p.x) ∧ wx.cell? ⟨b', 1, none⟩ = some (.int .i64 p.y) ∧ wx.cell? ⟨b', 2, none⟩ = some (.bool p.ok)) :=
    Lib.hid (fun wx hx => ⟨(hx.cell Z1.out.lt).trans Z1.out.c0, (hx.cell Z1.out.lt).trans Z1.out.c1, (hx.cell Z1.out.lt).trans Z1.out.c2⟩)
  obtain ⟨c0, c1, c2, clt⟩ := X1
  simp only at c0 c1 c2
  clear hb
  go_region_held3 (fun wx => wx.cell? ⟨b', 0, none⟩ = some (.int .i64 p.x) ∧ wx.cell? ⟨b', 1, none⟩ = some (.int .i64 p.y) ∧ wx.cell? ⟨b', 2, none⟩ = some (.bool p.ok))
    (first | exact HK.out _ (Below.refl _ _) | exact HK.out _ HB2.out | exact HK.out _ HB3.out | exact HK.out _ HB4.out | exact HK.out _ HB5.out)
    (first
      | (go_at_call 7; refine (size_as HT.out _).mono ?_; rintro e w' ⟨rfl, rfl⟩)
      | (go_at_call 8; refine (listR_of HT.out _).mono ?_; rintro e w2 ⟨A, cap, rfl, b2⟩; have HB2 : Hid (Below W.heap.size W.drew w2) := Lib.hid b2; clear b2)
      | (go_at_call 9; refine (on_of GQ.out _).mono ?_; rintro e w' ⟨rfl, rfl⟩)
      | (go_at_call 10; refine (onR_of HQ.out _).mono ?_; rintro e w3 ⟨rfl, b3⟩; have HB3 : Hid (Below W.heap.size W.drew w3) := Lib.hid (HB2.out.trans (b3.mono HB2.out.size)); clear b3)
      | (go_at_call 11; refine (name_of GM.out _).mono ?_; rintro e w' ⟨rfl, rfl⟩)
      | (go_at_call 12; refine (nameR_of HM.out _).mono ?_; rintro e w4 ⟨rfl, b4⟩; have HB4 : Hid (Below W.heap.size W.drew w4) := Lib.hid (HB3.out.trans (b4.mono HB3.out.size)); clear b4)
      | (go_at_call 13; refine (diag_of GD.out _).mono ?_; rintro e w' ⟨rfl, rfl⟩)
      | (go_at_call 14; refine (diagR_of PI.out HD.out _).mono ?_; rintro e w5 ⟨rfl, b5⟩; have HB5 : Hid (Below W.heap.size W.drew w5) := Lib.hid (HB4.out.trans (b5.mono HB4.out.size)); clear b5)
      | (go_at_call 15; refine (alive_is _).mono ?_; rintro e w' ⟨rfl, rfl⟩))
  go_wp2_with fail
  go_ret
  exact ⟨rfl, B3.out.drew.trans (HB5.out.mono B3.out.size)⟩
end Go.Proofs.Yteppjedgeabmeaa
