/- The reference's steady bit: Bit, Write. Own work. -/
import Derived.Test.YthijoklafbnhlaaTWalkR
import Derived.Test.YthijoklafbnhlaaSdT
import Derived.Test.YthijoklafbnhlaaRowT
namespace Go.Proofs.Ythijoklafbnhlaa
open Go.ChangeShapes Go.WideShapes Go.ChangeAt Go.RowKit CellM TapeM

theorem bitR_is (v : Int) (w : World) : Calls Try.prog 48 #[.int .i64 v] w fun e w' => e = .returned (.int .i64 (bitI v)) ∧ w = w' := by
  by_cases h : v = 0
  · have hb : bitI v = 0 := if_pos h
    subst h
    go_enter Try.func48, Try.ntmps48
    go_wp2_with fail
    go_ret
    exact ⟨rfl, rfl⟩
  · have hb : bitI v = 1 := if_neg h
    have h1 : (v == 0) = false := by simpa using h
    have HB := Lib.hid hb
    clear hb
    go_enter Try.func48, Try.ntmps48
    go_wp2_with fail
    go_ret
    exact ⟨ret_int HB.out.symm, rfl⟩
set_option maxHeartbeats 2000000 in
theorem wrSdR_does (k b l n rw rr tp v : Int) : DoesR 33 (fun p => #[p, .agg #[.int .i64 k, .int .i64 b, .int .i64 l, .int .i64 n, .int .i64 rw, .int .i64 rr, .int .i64 tp], .int .i64 v]) (wrSd b l v) (fun _ => .tuple #[]) := by
  intro C wx K kk R H
  obtain ⟨W, hW⟩ : ∃ W, W = wx.alloc (.cells #[.int .i64 k, .int .i64 b, .int .i64 l, .int .i64 n, .int .i64 rw, .int .i64 rr, .int .i64 tp] 23) := ⟨_, rfl⟩
  have hbW : Below wx.heap.size wx W := by rw [hW]; exact below_alloc _ _
  have hbox : BoxAt W wx.heap.size #[.int .i64 k, .int .i64 b, .int .i64 l, .int .i64 n, .int .i64 rw, .int .i64 rr, .int .i64 tp] := by rw [hW]; exact BoxAt.new _ _ _
  have x1 := (hbox 1 _ rfl).1
  have x2 := (hbox 2 _ rfl).1
  have k2 : Kx K wx W wx.heap.size := .inr ⟨Nat.le_refl _, by rw [hW]; simp⟩
  obtain ⟨x, hN, hG⟩ := ((H.as (wrSd_bind b l v kk)).grow hbW).get
  have HG := Lib.hid hG
  have HN := Lib.hid hN
  have HW := Lib.hid hW
  have HBx := Lib.hid (And.intro hbox k2)
  have HK := Lib.hid (Keeps.below (K := K) hbW)
  clear hG hN hW hbox hbW H k2
  go_enter Try.func33, Try.ntmps33
  go_upto_region 1 with fail
  rw [← HW.out]
  go_wp2_with fail
  refine (bitR_is v _).mono ?_; rintro e w' ⟨rfl, rfl⟩
  go_wp2_with fail
  refine (HG.out _ (Below.refl _ _)).mono ?_; rintro e w' ⟨rfl, rfl⟩
  by_cases he : x = bitI v
  · have z2 : (x == bitI v) = true := by simp [he]
    have hN := HN.out
    rw [if_pos he] at hN
    have HF := Lib.hid (hN.less (K := K) (fun b h => .inl h))
    have HE := Lib.hid he
    clear HN HG he hN
    go_wp2_with fail
    first | go_end0 | refine bodyPost_ret (results_none rfl _ _ _) rfl ?_
    exact ⟨(), rfl, HF.out, HK.out⟩
  · have z2 : (x == bitI v) = false := by simpa using he
    have hN := HN.out
    rw [if_neg he] at hN
    have HM := Lib.hid (hN.write (Below.refl _ _))
    have HE := Lib.hid he
    clear HN HG he hN
    go_wp2_with fail
    refine HM.out.mono ?_
    rintro e w' ⟨x, rfl, hN, hK⟩
    have hbx := HBx.out.1.keeps hK (.inl HBx.out.2)
    have y2 := (hbx 2 _ rfl).1
    have HM2 := Lib.hid (hN.set (Below.refl _ _))
    have HK2 := Lib.hid hK
    clear hK hN HM hbx
    go_wp2_with fail
    refine HM2.out.mono ?_
    rintro e w2 ⟨x, rfl, hN, hK⟩
    have HF := Lib.hid (And.intro (hN.less (K := K) (fun b h => .inl (.inl (.inl h)))) (HK.out.trans ((HK2.out.less (fun b h => .inl (.inl h))).trans (hK.less (fun b h => .inl (.inl (.inl h)))))))
    clear hN hK
    go_wp2_with fail
    go_end0
    exact ⟨(), rfl, HF.out.1, HF.out.2⟩
end Go.Proofs.Ythijoklafbnhlaa
