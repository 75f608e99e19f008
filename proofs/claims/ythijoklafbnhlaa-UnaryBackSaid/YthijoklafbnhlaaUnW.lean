/- unary: Write, Read. Own work. -/
import Derived.Test.YthijoklafbnhlaaUnQ
namespace Go.Proofs.Ythijoklafbnhlaa
open Go.ChangeShapes Go.WideShapes Go.ChangeAt Go.RowKit CellM TapeM

theorem wrUn_bind (b l : Int) (x : Nat) (kk : Unit → Tr Int) : (wrUn b l x).bind kk = (wrSd (b + x) (l + x) (putV true x)).bind fun _ => (downT b l x).bind kk := Tr.bind_assoc _ _ _
theorem downT_bind (b l : Int) (x : Nat) (kk : Unit → Tr Int) : (downT b l (x + 1)).bind kk = (wrSd (b + x) (l + x) (putV false x)).bind fun _ => (downT b l x).bind kk := Tr.bind_assoc _ _ _
theorem upT_bind (b : Int) (t n i : Nat) (kk : Int → Tr Int) : (upT b t (n + 1) i).bind kk = ((rdSd (b + i)).bind fun y => Tr.ret (isUpB i y)).bind fun u => if u then kk i else (upT b t n (i + 1)).bind kk := by
  show ((rdSd (b + i)).bind fun y => if isUpB i y then Tr.ret (i : Int) else upT b t n (i + 1)).bind kk = _
  rw [Tr.bind_assoc, Tr.bind_assoc]
  congr 1
  funext y
  exact Tr.bind_ite _ _ _ _
set_option maxHeartbeats 4000000 in
theorem wrUn_does (k b l n rw rr tp v : Int) (hn : Near b l) : Does 10 (fun p => #[p, .agg #[.int .i64 k, .int .i64 b, .int .i64 l, .int .i64 n, .int .i64 rw, .int .i64 rr, .int .i64 tp], .int .i64 v]) (wrUn b l (cap (cap 255 tp) v).toNat) (fun _ => .tuple #[]) := by
  intro C wx K kk R H
  obtain ⟨W, hW⟩ : ∃ W, W = wx.alloc (.cells #[.int .i64 k, .int .i64 b, .int .i64 l, .int .i64 n, .int .i64 rw, .int .i64 rr, .int .i64 tp] 23) := ⟨_, rfl⟩
  have hbW : Below wx.heap.size wx W := by rw [hW]; exact below_alloc _ _
  have hbox : BoxAt W wx.heap.size #[.int .i64 k, .int .i64 b, .int .i64 l, .int .i64 n, .int .i64 rw, .int .i64 rr, .int .i64 tp] := by rw [hW]; exact BoxAt.new _ _ _
  have k2 : Kx K wx W wx.heap.size := .inr ⟨Nat.le_refl _, by rw [hW]; simp⟩
  obtain ⟨t, ht⟩ : ∃ t, cap 255 tp = t := ⟨_, rfl⟩
  have ht2 := cap_le 255 tp (by decide)
  have hx2 := cap_le t v (by omega)
  rw [ht] at H
  obtain ⟨x, hx⟩ : ∃ x : Nat, cap t v = (x : Int) := ⟨(cap t v).toNat, by omega⟩
  rw [hx] at H hx2
  rw [Int.toNat_natCast] at H
  have hx3 : x ≤ 255 := by omega
  have x0 := (hbox 0 _ rfl).1
  have x1 := (hbox 1 _ rfl).1
  have x2 := (hbox 2 _ rfl).1
  have x3 := (hbox 3 _ rfl).1
  have x4 := (hbox 4 _ rfl).1
  have x5 := (hbox 5 _ rfl).1
  have x6 := (hbox 6 _ rfl).1
  have HT := Lib.hid ht
  have HX := Lib.hid hx
  have HM := Lib.hid (((H.as (wrUn_bind b l x kk)).grow hbW).call (put_does k b l n rw rr tp x true hx3 hn) (Below.refl _ _))
  have HW := Lib.hid hW
  have HK := Lib.hid (Keeps.below (K := K) hbW)
  have HB := Lib.hid (And.intro hbox k2)
  have HNr := Lib.hid hn
  clear ht hx H hbox hW hbW hn k2 ht2
  go_enter Try.func10, Try.ntmps10
  go_upto_region 1 with fail
  rw [← HW.out]
  go_wp2_with fail
  refine (greatest_is _ _ HT.out _).mono ?_; rintro e w' ⟨rfl, rfl⟩
  go_wp2_with fail
  refine (cut_is _ _ _ HX.out _).mono ?_; rintro e w' ⟨rfl, rfl⟩
  go_wp2_with fail
  refine HM.out.mono ?_
  rintro e w2 (⟨_, rfl, hN, hK⟩ | ⟨rfl, hs⟩)
  · have HG := Lib.hid (And.intro (hN.less (K := Kx K wx W) (fun b h => .inl h)) (hK.less (K := Kx K wx W) (fun b h => .inl h)))
    clear hN hK HM x0 x1 x2 x3 x4 x5 x6
    go_wp2_with fail
    go_loopw [17] (fun i w' => ∃ (j : Nat), j ≤ x ∧ i = .int .i64 j ∧ Hid (Now C w' (Kx K wx W) ((downT b l (x - j)).bind kk) R ∧ Keeps (Kx K wx W) W w')) (fun i _ => x - (intOf i).toNat)
    case atStart => exact ⟨0, Nat.zero_le _, rfl, HG⟩
    case round =>
      obtain ⟨j, hj, rfl, HR⟩ := hrel
      have hbx := HB.out.1.keeps HR.out.2 HB.out.2
      by_cases hlt : j < x
      · have x0 := (hbx 0 _ rfl).1
        have x1 := (hbx 1 _ rfl).1
        have x2 := (hbx 2 _ rfl).1
        have x3 := (hbx 3 _ rfl).1
        have x4 := (hbx 4 _ rfl).1
        have x5 := (hbx 5 _ rfl).1
        have x6 := (hbx 6 _ rfl).1
        obtain ⟨y, hy⟩ : ∃ y, x - j = y + 1 := ⟨x - j - 1, by omega⟩
        have hyx : (x : Int) - 1 - (j : Int) = (y : Int) := by omega
        have hN := HR.out.1
        rw [hy] at hN
        have HM := Lib.hid ((hN.as (downT_bind b l y kk)).call (put_does k b l n rw rr tp y false (by omega) HNr.out) (Below.refl _ _))
        have HK2 := Lib.hid HR.out.2
        have HY := Lib.hid hyx
        have HY2 := Lib.hid hy
        clear hN hyx hbx hy HR
        go_wp2_with fail
        rw [HY.out]
        refine HM.out.mono ?_
        rintro e w2 (⟨_, rfl, hN, hK⟩ | ⟨rfl, hs⟩)
        · have hxy : x - (j + 1) = y := by have := HY2.out; omega
          have HG := Lib.hid (And.intro (hN.less (K := Kx K wx W) (fun b h => .inl h)) (HK2.out.trans (hK.less (fun b h => .inl h))))
          rw [← hxy] at HG
          clear hN hK HM hxy
          go_wp2_with fail
          go_roundw
          case rel => exact ⟨j + 1, by omega, by go_num, HG⟩
          case measure => simp [intOf]; omega
        · exact ⟨rfl, .inr ⟨rfl, hs⟩⟩
      · obtain rfl : j = x := by omega
        have hN := HR.out.1
        rw [Nat.sub_self] at hN
        have HF := Lib.hid (And.intro (Now.less (K := K) hN (fun b h => .inl h)) (HK.out.trans (HR.out.2.less (fun b h => .inl h))))
        clear hN HR hbx
        go_wp2_with fail
        go_end0
        exact .inl ⟨(), rfl, HF.out.1, HF.out.2⟩
  · exact ⟨rfl, .inr ⟨rfl, hs⟩⟩
set_option maxHeartbeats 4000000 in
theorem rdUn_does (k b l n rw rr tp : Int) (hn : Near b l) : Does 9 (fun p => #[p, .agg #[.int .i64 k, .int .i64 b, .int .i64 l, .int .i64 n, .int .i64 rw, .int .i64 rr, .int .i64 tp]]) (rdUn b (cap 255 tp).toNat) (Value.int .i64) := by
  intro C wx K kk R H
  obtain ⟨W, hW⟩ : ∃ W, W = wx.alloc (.cells #[.int .i64 k, .int .i64 b, .int .i64 l, .int .i64 n, .int .i64 rw, .int .i64 rr, .int .i64 tp] 23) := ⟨_, rfl⟩
  have hbW : Below wx.heap.size wx W := by rw [hW]; exact below_alloc _ _
  have hbox : BoxAt W wx.heap.size #[.int .i64 k, .int .i64 b, .int .i64 l, .int .i64 n, .int .i64 rw, .int .i64 rr, .int .i64 tp] := by rw [hW]; exact BoxAt.new _ _ _
  have k2 : Kx K wx W wx.heap.size := .inr ⟨Nat.le_refl _, by rw [hW]; simp⟩
  have ht2 := cap_le 255 tp (by decide)
  obtain ⟨t, ht⟩ : ∃ t : Nat, cap 255 tp = (t : Int) := ⟨(cap 255 tp).toNat, by omega⟩
  rw [ht] at H ht2
  rw [Int.toNat_natCast] at H
  have ht3 : t ≤ 255 := by omega
  have x6 := (hbox 6 _ rfl).1
  have HT := Lib.hid ht
  have HG := Lib.hid (And.intro (show Now C W (Kx K wx W) ((upT b t (t + 1 - 0) 0).bind kk) R from H.grow hbW) (Keeps.refl (Kx K wx W) W))
  have HW := Lib.hid hW
  have HK := Lib.hid (Keeps.below (K := K) hbW)
  have HB := Lib.hid (And.intro hbox k2)
  have HNr := Lib.hid hn
  clear ht H hbox hW hbW hn k2 ht2
  go_enter Try.func9, Try.ntmps9
  go_upto_region 1 with fail
  rw [← HW.out]
  go_wp2_with fail
  refine (greatest_is _ _ HT.out _).mono ?_; rintro e w' ⟨rfl, rfl⟩
  clear x6
  go_wp2_with fail
  go_loopw [12] (fun i w' => ∃ (j : Nat), j ≤ t + 1 ∧ i = .int .i64 j ∧ Hid (Now C w' (Kx K wx W) ((upT b t (t + 1 - j) j).bind kk) R ∧ Keeps (Kx K wx W) W w')) (fun i _ => t + 1 - (intOf i).toNat)
  case atStart => exact ⟨0, Nat.zero_le _, rfl, HG⟩
  case round =>
    obtain ⟨j, hj, rfl, HR⟩ := hrel
    have hbx := HB.out.1.keeps HR.out.2 HB.out.2
    by_cases hlt : j < t + 1
    · have x0 := (hbx 0 _ rfl).1
      have x1 := (hbx 1 _ rfl).1
      have x2 := (hbx 2 _ rfl).1
      have x3 := (hbx 3 _ rfl).1
      have x4 := (hbx 4 _ rfl).1
      have x5 := (hbx 5 _ rfl).1
      have x6 := (hbx 6 _ rfl).1
      obtain ⟨y, hy⟩ : ∃ y, t + 1 - j = y + 1 := ⟨t - j, by omega⟩
      have hN := HR.out.1
      rw [hy] at hN
      have HM := Lib.hid ((hN.as (upT_bind b t y j kk)).call (isUp_does k b l n rw rr tp j (by omega) HNr.out) (Below.refl _ _))
      have HK2 := Lib.hid HR.out.2
      have HY2 := Lib.hid hy
      clear hN hbx hy HR
      go_wp2_with fail
      refine HM.out.mono ?_
      rintro e w2 (⟨u, rfl, hN, hK⟩ | ⟨rfl, hs⟩)
      · have hty : t + 1 - (j + 1) = y := by have := HY2.out; omega
        rw [← hty] at hN
        cases u with
        | true =>
          have hN : Now C w2 _ (kk j) R := hN
          have HF := Lib.hid (And.intro (hN.less (K := K) (fun b h => .inl (.inl h))) (HK.out.trans ((HK2.out.less (fun b h => .inl h)).trans (hK.less (fun b h => .inl (.inl h))))))
          clear hN hK HM hty
          go_wp2_with fail
          go_ret
          exact .inl ⟨(j : Int), rfl, HF.out.1, HF.out.2⟩
        | false =>
          have hN : Now C w2 _ ((upT b t (t + 1 - (j + 1)) (j + 1)).bind kk) R := hN
          have HG := Lib.hid (And.intro (hN.less (K := Kx K wx W) (fun b h => .inl h)) (HK2.out.trans (hK.less (fun b h => .inl h))))
          clear hN hK HM hty
          go_wp2_with fail
          go_roundw
          case rel => exact ⟨j + 1, by omega, by go_num, HG⟩
          case measure => simp [intOf]; omega
      · exact ⟨rfl, .inr ⟨rfl, hs⟩⟩
    · obtain rfl : j = t + 1 := by omega
      have hN := HR.out.1
      rw [Nat.sub_self] at hN
      have hN : Now C wr _ (kk (t : Int)) R := hN
      have HF := Lib.hid (And.intro (hN.less (K := K) (fun b h => .inl h)) (HK.out.trans (HR.out.2.less (fun b h => .inl h))))
      clear hN HR hbx
      go_wp2_with fail
      go_ret
      exact .inl ⟨(t : Int), rfl, HF.out.1, HF.out.2⟩
end Go.Proofs.Ythijoklafbnhlaa
