/- tromp: bit, put. Own work. -/
import Derived.Test.YtjffgppdjdmmgaaTWalk
import Derived.Test.YtjffgppdjdmmgaaTpT
import Derived.Test.YtjffgppdjdmmgaaRowT
namespace Go.Proofs.Ytjffgppdjdmmgaa
open Go.ChangeShapes Go.WideShapes Go.ChangeAt Go.RowKit CellM TapeM

/-- Where the cells of a bit may lie. -/
def Near (b l : Int) : Prop := -2199023255552 ≤ b ∧ b ≤ 2199023255552 ∧ -2199023255552 ≤ l ∧ l ≤ 2199023255552
theorem bitT_is (v z : Int) (hz : bitI v = z) (w : World) : Calls Try.prog 33 #[.int .i64 v] w fun e w' => e = .returned (.int .i64 z) ∧ w = w' := by
  by_cases h : v = 0
  · subst h
    obtain rfl : z = 0 := hz.symm
    clear hz
    go_enter Try.func33, Try.ntmps33
    go_wp2_with fail
    go_ret
    exact ⟨rfl, rfl⟩
  · obtain rfl : z = 1 := hz.symm.trans (if_neg h)
    have h1 : (v != 0) = true := by simpa using h
    clear hz
    go_enter Try.func33, Try.ntmps33
    go_wp2_with fail
    go_ret
    exact ⟨rfl, rfl⟩
section
variable (k b l n rw rr tp : Int)
theorem put_does (c d v : Int) (c0 : 0 ≤ c) (c3 : c ≤ 3) (d0 : 0 ≤ d) (d3 : d ≤ 3) (hn : Near b l) :
    Does 34 (fun p => #[p, .agg #[.int .i64 k, .int .i64 b, .int .i64 l, .int .i64 n, .int .i64 rw, .int .i64 rr, .int .i64 tp], .int .i64 c, .int .i64 d, .int .i64 v]) (putT (b + c) (l + d) v) (fun _ => .tuple #[]) := by
  intro C wx K kk R H
  obtain ⟨W, hW⟩ : ∃ W, W = wx.alloc (.cells #[.int .i64 k, .int .i64 b, .int .i64 l, .int .i64 n, .int .i64 rw, .int .i64 rr, .int .i64 tp] 23) := ⟨_, rfl⟩
  have hbW : Below wx.heap.size wx W := by rw [hW]; exact below_alloc _ _
  have hbox : BoxAt W wx.heap.size #[.int .i64 k, .int .i64 b, .int .i64 l, .int .i64 n, .int .i64 rw, .int .i64 rr, .int .i64 tp] := by rw [hW]; exact BoxAt.new _ _ _
  have k2 : Kx K wx W wx.heap.size := .inr ⟨Nat.le_refl _, by rw [hW]; simp⟩
  have x1 := (hbox 1 _ rfl).1
  obtain ⟨n1, n2, n3, n4⟩ := hn
  have HM := Lib.hid ((H.grow hbW).write (Below.refl _ _))
  have HW := Lib.hid hW
  have HBx := Lib.hid (And.intro hbox k2)
  have HK := Lib.hid (Keeps.below (K := K) hbW)
  clear hW hbox hbW H k2
  go_enter Try.func34, Try.ntmps34
  go_upto_region 1 with fail
  rw [← HW.out]
  go_wp2_with fail
  refine HM.out.mono ?_
  rintro e w1 (⟨x, rfl, hN, hK⟩ | ⟨rfl, hs⟩)
  · have hbx := HBx.out.1.keeps hK (.inl HBx.out.2)
    have y2 := (hbx 2 _ rfl).1
    have HM2 := Lib.hid (hN.set (Below.refl _ _))
    have HK2 := Lib.hid hK
    clear hK hN HM hbx x1
    go_wp2_with fail
    refine HM2.out.mono ?_
    rintro e w2 (⟨x, rfl, hN, hK⟩ | ⟨rfl, hs⟩)
    · have HF := Lib.hid (And.intro (hN.less (K := K) (fun b h => .inl (.inl (.inl h)))) (HK.out.trans ((HK2.out.less (fun b h => .inl (.inl h))).trans (hK.less (fun b h => .inl (.inl (.inl h)))))))
      clear hN hK
      go_wp2_with fail
      go_end0
      exact .inl ⟨(), rfl, HF.out.1, HF.out.2⟩
    · exact ⟨rfl, .inr ⟨rfl, hs⟩⟩
  · exact ⟨rfl, .inr ⟨rfl, hs⟩⟩
end
end Go.Proofs.Ytjffgppdjdmmgaa
