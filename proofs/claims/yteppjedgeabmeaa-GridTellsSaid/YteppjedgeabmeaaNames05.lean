/- GridNames' walk. Own work. -/
import Derived.Test.YteppjedgeabmeaaLaw05
import Derived.Deep.RegionHeld3
namespace Go.Proofs.Yteppjedgeabmeaa
open Go.ChangeShapes Go.WideShapes Go.ChangeAt Go.RowKit Fl

set_option maxHeartbeats 1000000 in
theorem names_walk (n : Int) (w : World) : Calls Try.prog 4 #[.int .i64 n] w fun e w' => e = .returned (.bool true) ∧ Below w.heap.size w w' := by
  have hlist := fun w => listR_is 64 w
  rw [T_side64] at hlist
  have HL := Lib.hid hlist; clear hlist
  obtain ⟨p, hp⟩ : ∃ p, atP n = p := ⟨_, rfl⟩
  have PI : Hid p.In := Lib.hid (hp ▸ atP_in n)
  by_cases hin : 0 ≤ n ∧ n < 2080
  · obtain ⟨k, rfl⟩ : ∃ k : Nat, n = k := ⟨n.toNat, by omega⟩
    have hk : k < 2080 := by omega
    have hk' : (k : Int) < 2080 := by omega
    have hpk : ptN k = p := by rw [← hp]; unfold atP; rw [if_pos hin]; rfl
    have HP := Lib.hid hp
    clear hp hin
    go_enter Try.func4, Try.ntmps4
    go_wp2_with fail
    refine (HL.out _).mono ?_; rintro e w1 ⟨v, rfl, hown, hB⟩
    obtain ⟨A, cap, rfl, hr⟩ := hown.reads
    rw [firstN_len]
    have hr2 : ReadP (w1.alloc (Obj.cells #[.int .i64 0, .int .i64 0, .bool true] 25)) A (firstN 2080) := hr.below ((Below.refl _ _).alloc (Nat.le_refl _) _)
    obtain ⟨ad, rfl, d0, d1, d2⟩ := hr2.get (k := k) (by rw [firstN_len]; exact hk)
    rw [firstN_get, hpk] at d0 d1 d2
    have B1 := Lib.hid hB
    clear hr hr2 hown HL hB hpk
    go_wp2_with fail
    have X1 := box_new w1 p.x p.y p.ok 25
    obtain ⟨W, hW⟩ : ∃ W, W = w1.alloc (Obj.cells #[.int .i64 p.x, .int .i64 p.y, .bool p.ok] 25) := ⟨_, rfl⟩
    rw [← hW] at X1 ⊢
    have B3 : Hid (Below w.heap.size w W) := Lib.hid (hW ▸ B1.out.alloc B1.out.size _)
    clear hW
    obtain ⟨b, hb⟩ : ∃ b, w1.heap.size = b := ⟨_, rfl⟩
    rw [hb] at X1 ⊢
    have Z1 := Lib.hid X1
    have HK : Hid (∀ wx, Below W.heap.size W.drew wx → wx.cell? ⟨b, 0, none⟩ = some (.int .i64 p.x) ∧ wx.cell? ⟨b, 1, none⟩ = some (.int .i64 p.y) ∧ wx.cell? ⟨b, 2, none⟩ = some (.bool p.ok)) :=
      Lib.hid (fun wx hx => ⟨(hx.cell Z1.out.lt).trans Z1.out.c0, (hx.cell Z1.out.lt).trans Z1.out.c1, (hx.cell Z1.out.lt).trans Z1.out.c2⟩)
    obtain ⟨c0, c1, c2, clt⟩ := X1
    simp only at c0 c1 c2
    clear hb
    go_region_held3 (fun wx => wx.cell? ⟨b, 0, none⟩ = some (.int .i64 p.x) ∧ wx.cell? ⟨b, 1, none⟩ = some (.int .i64 p.y) ∧ wx.cell? ⟨b, 2, none⟩ = some (.bool p.ok))
      (first | exact HK.out _ (Below.refl _ _) | exact HK.out _ HB2.out)
      (first
        | (go_at_call 17; refine (gat_of HP.out _).mono ?_; rintro e w' ⟨rfl, rfl⟩)
        | (go_at_call 16; refine (is_is p PI.out _).mono ?_; rintro e w2 ⟨rfl, b2⟩; have HB2 : Hid (Below W.heap.size W.drew w2) := Lib.hid b2; clear b2)
        | (go_at_call 15; refine (alive_is _).mono ?_; rintro e w' ⟨rfl, rfl⟩))
    go_wp2_with fail
    go_ret
    exact ⟨rfl, B3.out.drew.trans (HB2.out.mono B3.out.size)⟩
  · have hp0 : p = ⟨0, 0, true⟩ := by rw [← hp]; unfold atP; rw [if_neg hin]
    have HP := Lib.hid hp
    clear hp
    by_cases h0 : n < 0
    · clear hin
      go_enter Try.func4, Try.ntmps4
      go_wp2_with fail
      refine (HL.out _).mono ?_; rintro e w1 ⟨v, rfl, hown, hB⟩
      obtain ⟨A, cap, rfl, hr⟩ := hown.reads
      rw [firstN_len]
      have B1 := Lib.hid hB
      clear hr hown HL hB
      subst hp0
      go_wp2_with fail
      have X1 := box_new w1 0 0 true 25
      obtain ⟨W, hW⟩ : ∃ W, W = w1.alloc (Obj.cells #[.int .i64 0, .int .i64 0, .bool true] 25) := ⟨_, rfl⟩
      rw [← hW] at X1 ⊢
      have B3 : Hid (Below w.heap.size w W) := Lib.hid (hW ▸ B1.out.alloc B1.out.size _)
      clear hW
      obtain ⟨b, hb⟩ : ∃ b, w1.heap.size = b := ⟨_, rfl⟩
      rw [hb] at X1 ⊢
      have Z1 := Lib.hid X1
      have HK : Hid (∀ wx, Below W.heap.size W.drew wx → wx.cell? ⟨b, 0, none⟩ = some (.int .i64 0) ∧ wx.cell? ⟨b, 1, none⟩ = some (.int .i64 0) ∧ wx.cell? ⟨b, 2, none⟩ = some (.bool true)) :=
        Lib.hid (fun wx hx => ⟨(hx.cell Z1.out.lt).trans Z1.out.c0, (hx.cell Z1.out.lt).trans Z1.out.c1, (hx.cell Z1.out.lt).trans Z1.out.c2⟩)
      obtain ⟨c0, c1, c2, clt⟩ := X1
      simp only at c0 c1 c2
      clear hb
      go_region_held3 (fun wx => wx.cell? ⟨b, 0, none⟩ = some (.int .i64 0) ∧ wx.cell? ⟨b, 1, none⟩ = some (.int .i64 0) ∧ wx.cell? ⟨b, 2, none⟩ = some (.bool true))
        (first | exact HK.out _ (Below.refl _ _) | exact HK.out _ HB2.out)
        (first
          | (go_at_call 17; refine (gat_of HP.out _).mono ?_; rintro e w' ⟨rfl, rfl⟩)
          | (go_at_call 16; refine (is_is ⟨0, 0, true⟩ PI.out _).mono ?_; rintro e w2 ⟨rfl, b2⟩; have HB2 : Hid (Below W.heap.size W.drew w2) := Lib.hid b2; clear b2)
          | (go_at_call 15; refine (alive_is _).mono ?_; rintro e w' ⟨rfl, rfl⟩))
      go_wp2_with fail
      go_ret
      exact ⟨rfl, B3.out.drew.trans (HB2.out.mono B3.out.size)⟩
    · have h1 : decide (n < 2080) = false := by rw [decide_eq_false_iff_not]; omega
      clear hin
      go_enter Try.func4, Try.ntmps4
      go_wp2_with fail
      refine (HL.out _).mono ?_; rintro e w1 ⟨v, rfl, hown, hB⟩
      obtain ⟨A, cap, rfl, hr⟩ := hown.reads
      rw [firstN_len]
      have B1 := Lib.hid hB
      clear hr hown HL hB
      subst hp0
      go_wp2_with fail
      have X1 := box_new w1 0 0 true 25
      obtain ⟨W, hW⟩ : ∃ W, W = w1.alloc (Obj.cells #[.int .i64 0, .int .i64 0, .bool true] 25) := ⟨_, rfl⟩
      rw [← hW] at X1 ⊢
      have B3 : Hid (Below w.heap.size w W) := Lib.hid (hW ▸ B1.out.alloc B1.out.size _)
      clear hW
      obtain ⟨b, hb⟩ : ∃ b, w1.heap.size = b := ⟨_, rfl⟩
      rw [hb] at X1 ⊢
      have Z1 := Lib.hid X1
      have HK : Hid (∀ wx, Below W.heap.size W.drew wx → wx.cell? ⟨b, 0, none⟩ = some (.int .i64 0) ∧ wx.cell? ⟨b, 1, none⟩ = some (.int .i64 0) ∧ wx.cell? ⟨b, 2, none⟩ = some (.bool true)) :=
        Lib.hid (fun wx hx => ⟨(hx.cell Z1.out.lt).trans Z1.out.c0, (hx.cell Z1.out.lt).trans Z1.out.c1, (hx.cell Z1.out.lt).trans Z1.out.c2⟩)
      obtain ⟨c0, c1, c2, clt⟩ := X1
      simp only at c0 c1 c2
      clear hb
      go_region_held3 (fun wx => wx.cell? ⟨b, 0, none⟩ = some (.int .i64 0) ∧ wx.cell? ⟨b, 1, none⟩ = some (.int .i64 0) ∧ wx.cell? ⟨b, 2, none⟩ = some (.bool true))
        (first | exact HK.out _ (Below.refl _ _) | exact HK.out _ HB2.out)
        (first
          | (go_at_call 17; refine (gat_of HP.out _).mono ?_; rintro e w' ⟨rfl, rfl⟩)
          | (go_at_call 16; refine (is_is ⟨0, 0, true⟩ PI.out _).mono ?_; rintro e w2 ⟨rfl, b2⟩; have HB2 : Hid (Below W.heap.size W.drew w2) := Lib.hid b2; clear b2)
          | (go_at_call 15; refine (alive_is _).mono ?_; rintro e w' ⟨rfl, rfl⟩))
      go_wp2_with fail
      go_ret
      exact ⟨rfl, B3.out.drew.trans (HB2.out.mono B3.out.size)⟩
end Go.Proofs.Yteppjedgeabmeaa
