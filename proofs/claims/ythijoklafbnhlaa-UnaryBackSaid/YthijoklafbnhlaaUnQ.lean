/- unary: put, isUp. Own work. -/
import Derived.Test.YthijoklafbnhlaaUnP
namespace Go.Proofs.Ythijoklafbnhlaa
open Go.ChangeShapes Go.WideShapes Go.ChangeAt Go.RowKit CellM TapeM

def putV (up : Bool) (i : Nat) : Int := if up then upV i else downV i
/-- Where the cells of a number may lie. -/
def Near (b l : Int) : Prop := -2199023255552 ≤ b ∧ b ≤ 2199023255552 ∧ -2199023255552 ≤ l ∧ l ≤ 2199023255552
section
variable (k b l n rw rr tp : Int) (i : Nat)
theorem put_go (up : Bool) (v : Int) (hv : putV up i = v) (u c : Bool) (hu : (!((i : Int) == 0)) = u) (hc : (up == u) = c) (hcv : v = if c then 1 else 0) (hi : i ≤ 255) (hn : Near b l) :
    Does 31 (fun p => #[p, .agg #[.int .i64 k, .int .i64 b, .int .i64 l, .int .i64 n, .int .i64 rw, .int .i64 rr, .int .i64 tp], .int .i64 i, .bool up]) (wrSd (b + i) (l + i) (putV up i)) (fun _ => .tuple #[]) := by
  rw [hv]
  intro C wx K kk R H
  obtain ⟨W, hW⟩ : ∃ W, W = wx.alloc (.cells #[.int .i64 k, .int .i64 b, .int .i64 l, .int .i64 n, .int .i64 rw, .int .i64 rr, .int .i64 tp] 23) := ⟨_, rfl⟩
  have hbW : Below wx.heap.size wx W := by rw [hW]; exact below_alloc _ _
  have hbox : BoxAt W wx.heap.size #[.int .i64 k, .int .i64 b, .int .i64 l, .int .i64 n, .int .i64 rw, .int .i64 rr, .int .i64 tp] := by rw [hW]; exact BoxAt.new _ _ _
  have x0 := (hbox 0 _ rfl).1
  have x1 := (hbox 1 _ rfl).1
  have x2 := (hbox 2 _ rfl).1
  have x3 := (hbox 3 _ rfl).1
  have x4 := (hbox 4 _ rfl).1
  have x5 := (hbox 5 _ rfl).1
  have x6 := (hbox 6 _ rfl).1
  have HU := Lib.hid hu
  have HN := Lib.hid (H.grow hbW)
  have HW := Lib.hid hW
  have HK := Lib.hid (Keeps.below (K := K) hbW)
  have HB := Lib.hid hn
  clear hu H hbox hW hbW hv hn
  cases c
  all_goals
    simp at hcv
    subst hcv
    go_enter Try.func31, Try.ntmps31
    go_upto_region 1 with fail
    rw [← HW.out]
    go_wp2_with fail
    refine (upIsOne_is _ _ HU.out _).mono ?_; rintro e w' ⟨rfl, rfl⟩
    go_wp2_with fail
    refine (bitU_is _ _ _ _ _ _ _ _ hi HB.out.1 HB.out.2.1 HB.out.2.2.1 HB.out.2.2.2 _).mono ?_; rintro e w' ⟨rfl, hb⟩
    have HM := Lib.hid (HN.out.call (wrSd_does 2 (b + i) (l + i) n rw rr 1 _) hb)
    have HK2 := Lib.hid (HK.out.trans (Keeps.less (Keeps.below hb) (fun b h => h)))
    clear hb
    go_wp2_with fail
    refine HM.out.mono ?_
    rintro e w2 (⟨x, rfl, hN, hK⟩ | ⟨rfl, hs⟩)
    · have HF := Lib.hid (And.intro (hN.less (K := K) (fun b h => .inl (.inl h))) (HK2.out.trans (hK.less (fun b h => .inl (.inl h)))))
      clear hN hK
      go_wp2_with fail
      go_end0
      exact .inl ⟨(), rfl, HF.out.1, HF.out.2⟩
    · exact ⟨rfl, .inr ⟨rfl, hs⟩⟩
end
theorem put_does (k b l n rw rr tp : Int) (i : Nat) (up : Bool) (hi : i ≤ 255) (hn : Near b l) : Does 31 (fun p => #[p, .agg #[.int .i64 k, .int .i64 b, .int .i64 l, .int .i64 n, .int .i64 rw, .int .i64 rr, .int .i64 tp], .int .i64 i, .bool up]) (wrSd (b + i) (l + i) (putV up i)) (fun _ => .tuple #[]) := by
  refine put_go k b l n rw rr tp i up _ rfl _ _ rfl rfl ?_ hi hn
  unfold putV upV downV
  by_cases h : i = 0 <;> cases up <;> simp [h]
theorem isUp_int (i : Nat) (x : Int) : ((x == 1) == !((i : Int) == 0)) = isUpB i x := by
  have e : ((i : Int) == 0) = (i == 0) := by rw [Bool.eq_iff_iff, beq_iff_eq, beq_iff_eq]; omega
  rw [e]; rfl
theorem isUp_does (k b l n rw rr tp : Int) (i : Nat) (hi : i ≤ 255) (hn : Near b l) : Does 29 (fun p => #[p, .agg #[.int .i64 k, .int .i64 b, .int .i64 l, .int .i64 n, .int .i64 rw, .int .i64 rr, .int .i64 tp], .int .i64 i]) ((rdSd (b + i)).bind fun y => .ret (isUpB i y)) Value.bool := by
  intro C wx K kk R H
  have H := H.as (Tr.bind_assoc _ _ _)
  obtain ⟨W, hW⟩ : ∃ W, W = wx.alloc (.cells #[.int .i64 k, .int .i64 b, .int .i64 l, .int .i64 n, .int .i64 rw, .int .i64 rr, .int .i64 tp] 23) := ⟨_, rfl⟩
  have hbW : Below wx.heap.size wx W := by rw [hW]; exact below_alloc _ _
  have hbox : BoxAt W wx.heap.size #[.int .i64 k, .int .i64 b, .int .i64 l, .int .i64 n, .int .i64 rw, .int .i64 rr, .int .i64 tp] := by rw [hW]; exact BoxAt.new _ _ _
  have x0 := (hbox 0 _ rfl).1
  have x1 := (hbox 1 _ rfl).1
  have x2 := (hbox 2 _ rfl).1
  have x3 := (hbox 3 _ rfl).1
  have x4 := (hbox 4 _ rfl).1
  have x5 := (hbox 5 _ rfl).1
  have x6 := (hbox 6 _ rfl).1
  obtain ⟨u, hu⟩ : ∃ u, (!((i : Int) == 0)) = u := ⟨_, rfl⟩
  have HU := Lib.hid hu
  have HN := Lib.hid (H.grow hbW)
  have HW := Lib.hid hW
  have HK := Lib.hid (Keeps.below (K := K) hbW)
  have HB := Lib.hid hn
  clear hu H hbox hW hbW hn
  go_enter Try.func29, Try.ntmps29
  go_upto_region 1 with fail
  rw [← HW.out]
  go_wp2_with fail
  refine (bitU_is _ _ _ _ _ _ _ _ hi HB.out.1 HB.out.2.1 HB.out.2.2.1 HB.out.2.2.2 _).mono ?_; rintro e w' ⟨rfl, hb⟩
  have HM := Lib.hid (HN.out.call (rdSd_does 2 (b + i) (l + i) n rw rr 1) hb)
  have HK2 := Lib.hid (HK.out.trans (Keeps.less (Keeps.below hb) (fun b h => h)))
  clear hb
  go_wp2_with fail
  refine HM.out.mono ?_
  rintro e w2 (⟨x, rfl, hN, hK⟩ | ⟨rfl, hs⟩)
  · have HF := Lib.hid (And.intro (hN.less (K := K) (fun b h => .inl (.inl h))) (HK2.out.trans (hK.less (fun b h => .inl (.inl h)))))
    clear hN hK
    go_wp2_with fail
    refine (upIsOne_is _ _ HU.out _).mono ?_; rintro e w' ⟨rfl, rfl⟩
    go_wp2_with fail
    go_ret
    have hE : isUpB i x = ((x == 1) == u) := by rw [← isUp_int, HU.out]
    refine .inl ⟨isUpB i x, ?_, HF.out.1, HF.out.2⟩
    rw [hE]
    rfl
  · exact ⟨rfl, .inr ⟨rfl, hs⟩⟩
end Go.Proofs.Ythijoklafbnhlaa
