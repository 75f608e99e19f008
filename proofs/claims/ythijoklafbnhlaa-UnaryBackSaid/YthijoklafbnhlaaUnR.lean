/- The reference's unary number. Own work. -/
import Derived.Test.YthijoklafbnhlaaSdR
import Derived.Test.YthijoklafbnhlaaUnT
import Derived.Test.YthijoklafbnhlaaRWrap
namespace Go.Proofs.Ythijoklafbnhlaa
open Go.ChangeShapes Go.WideShapes Go.ChangeAt Go.RowKit CellM TapeM

theorem clamp1_is (n t z : Int) (hz : cap (cap 1099511627776 t) n = z) (w : World) : Calls Try.prog 15 #[.int .i64 n, .int .i64 t] w fun e w' => e = .returned (.int .i64 z) ∧ w = w' := by
  subst hz
  have hc := cap_le 1099511627776 t (by decide)
  go_enter Try.func15, Try.ntmps15
  go_wp2_with fail
  refine (within_any _ _ (by decide) _).mono ?_; rintro e w' ⟨rfl, rfl⟩
  go_wp2_with fail
  refine (within_any _ _ (by omega) _).mono ?_; rintro e w' ⟨rfl, rfl⟩
  go_wp2_with fail
  go_ret
  exact ⟨rfl, rfl⟩
/-- What is written to bit i, where x is written. -/
def stepV (x i : Nat) : Int := if i = x then upV i else downV i
def allT (b l : Int) (x : Nat) : Nat → Tr Unit
  | 0 => .ret ()
  | n + 1 => (wrSd (b + n) (l + n) (stepV x n)).bind fun _ => allT b l x n
theorem allT_down (b l : Int) (x : Nat) : ∀ n, n ≤ x → allT b l x n = downT b l n
  | 0, _ => rfl
  | n + 1, h => by
    show (wrSd (b + n) (l + n) (stepV x n)).bind _ = (wrSd (b + n) (l + n) (downV n)).bind _
    rw [show stepV x n = downV n from if_neg (by omega)]
    congr 1
    funext _
    exact allT_down b l x n (by omega)
theorem allT_wr (b l : Int) (x : Nat) : wrUn b l x = allT b l x (x + 1) := by
  show _ = (wrSd (b + x) (l + x) (stepV x x)).bind _
  rw [show stepV x x = upV x from if_pos rfl, show (fun _ : Unit => allT b l x x) = fun _ => downT b l x from funext fun _ => allT_down b l x x (Nat.le_refl x)]
  rfl
theorem allT_bind (b l : Int) (x n : Nat) (kk : Unit → Tr Int) : (allT b l x (n + 1)).bind kk = (wrSd (b + n) (l + n) (stepV x n)).bind fun _ => (allT b l x n).bind kk := Tr.bind_assoc _ _ _
theorem upR_bind (b : Int) (t n i : Nat) (kk : Int → Tr Int) : (upT b t (n + 1) i).bind kk = Tr.ask ⟨1, b + i, 0⟩ fun y => if isUpB i y then kk i else (upT b t n (i + 1)).bind kk := by
  show ((rdSd (b + i)).bind fun y => if isUpB i y then Tr.ret (i : Int) else upT b t n (i + 1)).bind kk = _
  rw [Tr.bind_assoc]
  show Tr.ask _ _ = Tr.ask _ _
  congr 1
  funext y
  exact Tr.bind_ite _ _ _ _
def NearR (b l : Int) : Prop := -2199023255552 ≤ b ∧ b ≤ 2199023255552 ∧ -2199023255552 ≤ l ∧ l ≤ 2199023255552
set_option maxHeartbeats 4000000 in
theorem wrUnR_does (k b l n rw rr tp v : Int) (hn : NearR b l) : DoesR 13 (fun p => #[p, .agg #[.int .i64 k, .int .i64 b, .int .i64 l, .int .i64 n, .int .i64 rw, .int .i64 rr, .int .i64 tp], .int .i64 v]) (wrUn b l (cap (cap 255 tp) v).toNat) (fun _ => .tuple #[]) := by
  intro C wx K kk R H
  obtain ⟨W, hW⟩ : ∃ W, W = wx.alloc (.cells #[.int .i64 k, .int .i64 b, .int .i64 l, .int .i64 n, .int .i64 rw, .int .i64 rr, .int .i64 tp] 23) := ⟨_, rfl⟩
  have hbW : Below wx.heap.size wx W := by rw [hW]; exact below_alloc _ _
  have hbox : BoxAt W wx.heap.size #[.int .i64 k, .int .i64 b, .int .i64 l, .int .i64 n, .int .i64 rw, .int .i64 rr, .int .i64 tp] := by rw [hW]; exact BoxAt.new _ _ _
  have k2 : Kx K wx W wx.heap.size := .inr ⟨Nat.le_refl _, by rw [hW]; simp⟩
  obtain ⟨t, ht⟩ : ∃ t, cap 255 tp = t := ⟨_, rfl⟩
  have ht2 := cap_le 255 tp (by decide)
  have hx2 := cap_le t v (by omega)
  rw [ht] at H ht2
  obtain ⟨x, hx⟩ : ∃ x : Nat, cap t v = (x : Int) := ⟨(cap t v).toNat, by omega⟩
  rw [hx] at H hx2
  rw [Int.toNat_natCast, allT_wr] at H
  have hx3 : x ≤ 255 := by omega
  have x6 := (hbox 6 _ rfl).1
  have HT := Lib.hid (show cap (cap 1099511627776 255) tp = t from ht)
  have HX := Lib.hid (show cap (cap 1099511627776 t) v = (x : Int) from by rw [cap_in (m := 1099511627776) (t := t) (by omega) (by omega)]; exact hx)
  have HG := Lib.hid (And.intro (H.grow hbW) (Keeps.refl (Kx K wx W) W))
  have HW := Lib.hid hW
  have HK := Lib.hid (Keeps.below (K := K) hbW)
  have HB := Lib.hid (And.intro hbox k2)
  have HNr := Lib.hid hn
  clear ht hx H hbox hW hbW hn k2 ht2
  go_enter Try.func13, Try.ntmps13
  go_upto_region 1 with fail
  rw [← HW.out]
  go_wp2_with fail
  refine (clamp1_is _ _ _ HT.out _).mono ?_; rintro e w' ⟨rfl, rfl⟩
  go_wp2_with fail
  refine (clamp1_is _ _ _ HX.out _).mono ?_; rintro e w' ⟨rfl, rfl⟩
  clear x6
  go_wp2_with fail
  go_loopw [7] (fun i w' => ∃ (j : Nat), j ≤ x + 1 ∧ i = .int .i64 ((j : Int) - 1) ∧ Hid (NowR C w' (Kx K wx W) ((allT b l x j).bind kk) R ∧ Keeps (Kx K wx W) W w')) (fun i _ => (intOf i + 1).toNat)
  case atStart => exact ⟨x + 1, Nat.le_refl _, by congr 1; omega, HG⟩
  case round =>
    obtain ⟨j, hj, rfl, HR⟩ := hrel
    have hbx := HB.out.1.keeps HR.out.2 HB.out.2
    cases j with
    | zero =>
      have hN := HR.out.1
      have hN : NowR C wr _ (kk ()) R := hN
      have HF := Lib.hid (And.intro (hN.less (K := K) (fun b h => .inl h)) (HK.out.trans (HR.out.2.less (fun b h => .inl h))))
      clear hN HR hbx
      go_wp2_with fail
      go_end0
      exact ⟨(), rfl, HF.out.1, HF.out.2⟩
    | succ j =>
      have x1 := (hbx 1 _ rfl).1
      have x2 := (hbx 2 _ rfl).1
      have e1 : ((j + 1 : Nat) : Int) - 1 = (j : Int) := by omega
      rw [e1]
      obtain ⟨v1, hv1⟩ : ∃ v1, stepV x j = v1 := ⟨_, rfl⟩
      have hN := HR.out.1.as (allT_bind b l x j kk)
      rw [hv1] at hN
      have HM := Lib.hid (hN.call (wrSdR_does 0 (b + j) (l + j) 0 0 0 0 v1) (Below.refl _ _))
      have HK2 := Lib.hid HR.out.2
      have hjx : j ≤ x := by omega
      have hl1 : -2199023255552 ≤ b := HNr.out.1
      have hl2 : b ≤ 2199023255552 := HNr.out.2.1
      have hl3 : -2199023255552 ≤ l := HNr.out.2.2.1
      have hl4 : l ≤ 2199023255552 := HNr.out.2.2.2
      have HV := Lib.hid hv1
      clear hN hbx HR e1 hv1
      have hcs : ((j = x ∧ j = 0) ∧ v1 = 0) ∨ ((j = x ∧ 0 < j) ∧ v1 = 1) ∨ ((j < x ∧ j = 0) ∧ v1 = 1) ∨ ((j < x ∧ 0 < j) ∧ v1 = 0) := by
        rw [← HV.out]
        unfold stepV upV downV
        split <;> split <;> omega
      rcases hcs with ⟨⟨h1, h2⟩, rfl⟩ | ⟨⟨h1, h2⟩, rfl⟩ | ⟨⟨h1, h2⟩, rfl⟩ | ⟨⟨h1, h2⟩, rfl⟩
      all_goals
        first
          | (have q1 : ((j : Int) == (x : Int)) = true := by rw [beq_iff_eq]; omega)
          | (have q1 : ((j : Int) == (x : Int)) = false := by rw [beq_eq_false_iff_ne]; omega)
        first
          | (have q2 : ((j : Int) == 0) = true := by rw [beq_iff_eq]; omega)
          | (have q2 : ((j : Int) == 0) = false := by rw [beq_eq_false_iff_ne]; omega)
        first
          | (have q3 : (0 : Int) < (j : Int) := by omega)
          | (have q3 : ¬ (0 : Int) < (j : Int) := by omega)
        first
          | (have q4 : (j : Int) < (x : Int) := by omega)
          | (have q4 : ¬ (j : Int) < (x : Int) := by omega)
        clear h1 h2
        go_wp2_with fail
        first
          | with_reducible refine HM.out.mono ?_
          | (have e0 : (j : Int) = 0 := by simpa using q2
             rw [e0, Int.add_zero, Int.add_zero] at HM
             with_reducible refine HM.out.mono ?_)
        rintro e w2 ⟨_, rfl, hN, hK⟩
        have HG := Lib.hid (And.intro (hN.less (K := Kx K wx W) (fun b h => .inl h)) (HK2.out.trans (hK.less (fun b h => .inl h))))
        clear hN hK HM
        go_wp2_with fail
        go_roundw
        case rel => exact ⟨j, by omega, by first | rfl | (congr 1; have := eq_of_beq q2; omega), HG⟩
        case measure => first | (simp [intOf]; done) | (simp [intOf]; omega)
set_option maxHeartbeats 4000000 in
theorem rdUnR_does (k b l n rw rr tp : Int) (hn : NearR b l) : DoesR 12 (fun p => #[p, .agg #[.int .i64 k, .int .i64 b, .int .i64 l, .int .i64 n, .int .i64 rw, .int .i64 rr, .int .i64 tp]]) (rdUn b (cap 255 tp).toNat) (Value.int .i64) := by
  intro C wx K kk R H
  obtain ⟨W, hW⟩ : ∃ W, W = wx.alloc (.cells #[.int .i64 k, .int .i64 b, .int .i64 l, .int .i64 n, .int .i64 rw, .int .i64 rr, .int .i64 tp] 23) := ⟨_, rfl⟩
  have hbW : Below wx.heap.size wx W := by rw [hW]; exact below_alloc _ _
  have hbox : BoxAt W wx.heap.size #[.int .i64 k, .int .i64 b, .int .i64 l, .int .i64 n, .int .i64 rw, .int .i64 rr, .int .i64 tp] := by rw [hW]; exact BoxAt.new _ _ _
  have k2 : Kx K wx W wx.heap.size := .inr ⟨Nat.le_refl _, by rw [hW]; simp⟩
  have ht2 := cap_le 255 tp (by decide)
  obtain ⟨t, ht⟩ : ∃ t : Nat, cap 255 tp = (t : Int) := ⟨(cap 255 tp).toNat, by omega⟩
  rw [ht] at H ht2
  rw [Int.toNat_natCast] at H
  have ht3 : t ≤ 255 := by omega
  have x6 := (hbox 6 _ rfl).1
  have HT := Lib.hid (show cap (cap 1099511627776 255) tp = (t : Int) from ht)
  have HG := Lib.hid (And.intro (show NowR C W (Kx K wx W) ((upT b t (t + 1 - 0) 0).bind kk) R from H.grow hbW) (Keeps.refl (Kx K wx W) W))
  have HW := Lib.hid hW
  have HK := Lib.hid (Keeps.below (K := K) hbW)
  have HB := Lib.hid (And.intro hbox k2)
  have HNr := Lib.hid hn
  clear ht H hbox hW hbW hn k2 ht2
  go_enter Try.func12, Try.ntmps12
  go_upto_region 1 with fail
  rw [← HW.out]
  go_wp2_with fail
  refine (clamp1_is _ _ _ HT.out _).mono ?_; rintro e w' ⟨rfl, rfl⟩
  clear x6
  go_wp2_with fail
  go_loopw [6] (fun i w' => ∃ (j : Nat), j ≤ t + 1 ∧ i = .int .i64 j ∧ Hid (NowR C w' (Kx K wx W) ((upT b t (t + 1 - j) j).bind kk) R ∧ Keeps (Kx K wx W) W w')) (fun i _ => t + 1 - (intOf i).toNat)
  case atStart => exact ⟨0, Nat.zero_le _, rfl, HG⟩
  case round =>
    obtain ⟨j, hj, rfl, HR⟩ := hrel
    have hbx := HB.out.1.keeps HR.out.2 HB.out.2
    by_cases hlt : j < t + 1
    · have x1 := (hbx 1 _ rfl).1
      obtain ⟨y, hy⟩ : ∃ y, t + 1 - j = y + 1 := ⟨t - j, by omega⟩
      have hN := HR.out.1
      rw [hy] at hN
      have HM := Lib.hid ((hN.as (upR_bind b t y j kk)).read (Below.refl _ _))
      have HK2 := Lib.hid HR.out.2
      have HY2 := Lib.hid hy
      have hl1 : -2199023255552 ≤ b := HNr.out.1
      have hl2 : b ≤ 2199023255552 := HNr.out.2.1
      have hle : ¬ (t : Int) < (j : Int) := by omega
      clear hN hbx hy HR
      go_wp2_with fail
      refine HM.out.mono ?_
      rintro e w2 ⟨z, rfl, hN, hK⟩
      have hty : t + 1 - (j + 1) = y := by have := HY2.out; omega
      rw [← hty] at hN
      have hcs : (((j : Int) = 0 ∧ z = 1) ∧ isUpB j z = false) ∨ (((j : Int) = 0 ∧ z ≠ 1) ∧ isUpB j z = true) ∨ (((0 : Int) < (j : Int) ∧ z = 1) ∧ isUpB j z = true) ∨ (((0 : Int) < (j : Int) ∧ z ≠ 1) ∧ isUpB j z = false) := by
        by_cases h1 : j = 0
        · by_cases h2 : z = 1
          · exact .inl ⟨⟨by omega, h2⟩, by subst h1; subst h2; rfl⟩
          · exact .inr (.inl ⟨⟨by omega, h2⟩, by subst h1; simp [isUpB, h2]⟩)
        · by_cases h2 : z = 1
          · exact .inr (.inr (.inl ⟨⟨by omega, h2⟩, by simp [isUpB, h1, h2]⟩))
          · exact .inr (.inr (.inr ⟨⟨by omega, h2⟩, by unfold isUpB; rw [beq_eq_false_iff_ne.2 h2, beq_eq_false_iff_ne.2 h1]; rfl⟩))
      have HKK := Lib.hid (HK2.out.trans (hK.less (fun b h => .inl h)))
      have HNN := Lib.hid (hN.less (K := Kx K wx W) (fun b h => .inl h))
      clear hN hK HM hty HK2
      rcases hcs with ⟨⟨h1, h2⟩, h3⟩ | ⟨⟨h1, h2⟩, h3⟩ | ⟨⟨h1, h2⟩, h3⟩ | ⟨⟨h1, h2⟩, h3⟩
      all_goals
        first
          | (have q1 : ((j : Int) == 0) = true := by rw [beq_iff_eq]; omega)
          | (have q1 : ((j : Int) == 0) = false := by rw [beq_eq_false_iff_ne]; omega)
        first
          | (have q2 : (z == 1) = true := by rw [beq_iff_eq]; omega)
          | (have q2 : (z == 1) = false := by rw [beq_eq_false_iff_ne]; omega)
        first
          | (have q3 : (z != 1) = true := by rw [bne_iff_ne]; omega)
          | (have q3 : (z != 1) = false := by rw [bne_eq_false_iff_eq]; omega)
        first
          | (have q4 : 0 < j := by omega)
          | (have q4 : ¬ 0 < j := by omega)
        first
          | (have q5 : (0 : Int) < (j : Int) := by omega)
          | (have q5 : ¬ (0 : Int) < (j : Int) := by omega)
        have hN : NowR C w2 (Kx K wx W) (if isUpB j z = true then kk j else (upT b t (t + 1 - (j + 1)) (j + 1)).bind kk) R := HNN.out
        rw [h3] at hN
        clear h1 h2 h3
      · have HG := Lib.hid (And.intro (show NowR C w2 (Kx K wx W) ((upT b t (t + 1 - (j + 1)) (j + 1)).bind kk) R from hN) HKK.out)
        clear hN
        go_wp2_with fail
        go_roundw
        case rel => exact ⟨j + 1, by omega, by go_num, HG⟩
        case measure => simp [intOf]; omega
      · have HF := Lib.hid (And.intro (NowR.less (K := K) (show NowR C w2 (Kx K wx W) (kk j) R from hN) (fun b h => .inl h)) (HK.out.trans (HKK.out.less (fun b h => .inl h))))
        clear hN
        go_wp2_with fail
        go_ret
        exact ⟨(j : Int), rfl, HF.out.1, HF.out.2⟩
      · have HF := Lib.hid (And.intro (NowR.less (K := K) (show NowR C w2 (Kx K wx W) (kk j) R from hN) (fun b h => .inl h)) (HK.out.trans (HKK.out.less (fun b h => .inl h))))
        clear hN
        go_wp2_with fail
        go_ret
        exact ⟨(j : Int), rfl, HF.out.1, HF.out.2⟩
      · have HG := Lib.hid (And.intro (show NowR C w2 (Kx K wx W) ((upT b t (t + 1 - (j + 1)) (j + 1)).bind kk) R from hN) HKK.out)
        clear hN
        go_wp2_with fail
        go_roundw
        case rel => exact ⟨j + 1, by omega, by go_num, HG⟩
        case measure => simp [intOf]; omega
    · obtain rfl : j = t + 1 := by omega
      have hN := HR.out.1
      rw [Nat.sub_self] at hN
      have hN : NowR C wr _ (kk (t : Int)) R := hN
      have HF := Lib.hid (And.intro (hN.less (K := K) (fun b h => .inl h)) (HK.out.trans (HR.out.2.less (fun b h => .inl h))))
      have hle : (t : Int) < ((t + 1 : Nat) : Int) := by omega
      clear hN HR hbx
      go_wp2_with fail
      go_ret
      exact ⟨(t : Int), rfl, HF.out.1, HF.out.2⟩
end Go.Proofs.Ythijoklafbnhlaa
