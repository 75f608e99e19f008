/- The reference's bit out of three: Write, Read. Own work. -/
import Derived.Test.YtjffgppdjdmmgaaTWalkR
import Derived.Test.YtjffgppdjdmmgaaTpW
namespace Go.Proofs.Ytjffgppdjdmmgaa
open Go.ChangeShapes Go.WideShapes Go.ChangeAt Go.RowKit CellM TapeM

theorem NowR.alike {C : Ctx} {wr : World} {K : Nat → Prop} {t u : Tr Int} {R : Res} (H : NowR C wr K t R) (h : Tr.Alike C.ans t u) : NowR C wr K u R := by
  obtain ⟨S, G, ov, hA, hT, ⟨ho, hL⟩ | ho⟩ := H
  · obtain ⟨n, hn, hb⟩ := hL.nts
    exact ⟨S, G, ov, hA, hT, .inl ⟨ho, (h.run S).symm.trans hL.run, hL.acc, hL.loc, n, h.nb n hn, hb⟩⟩
  · exact ⟨S, G, ov, hA, hT, .inr ho⟩
theorem bitR_is (v z : Int) (hz : bitI v = z) (w : World) : Calls Try.prog 39 #[.int .i64 v] w fun e w' => e = .returned (.int .i64 z) ∧ w = w' := by
  by_cases h : v = 0
  · subst h
    obtain rfl : z = 0 := hz.symm
    clear hz
    go_enter Try.func39, Try.ntmps39
    go_wp2_with fail
    go_ret
    exact ⟨rfl, rfl⟩
  · obtain rfl : z = 1 := hz.symm.trans (if_neg h)
    have h1 : (v == 0) = false := by simpa using h
    clear hz
    go_enter Try.func39, Try.ntmps39
    go_wp2_with fail
    go_ret
    exact ⟨rfl, rfl⟩
theorem wrTpR_bind (b l v : Int) (kk : Unit → Tr Int) : (wrTpR b l v).bind kk = .get l fun x => if x = bitI v then kk () else .ask ⟨2, b, bitI v⟩ fun _ => .set l (bitI v) (.get (l + 1) fun w => .ask ⟨1, b + 2, 0⟩ fun y => if y = w then .ask ⟨2, b + 1, other w⟩ fun _ => .set (l + 1) (other w) (kk ()) else kk ()) := by
  show Tr.get l _ = Tr.get l _
  congr 1
  funext x
  rw [Tr.bind_ite]
  congr 1
  show Tr.ask _ (fun _ => Tr.set _ _ (Tr.get _ _)) = Tr.ask _ (fun _ => Tr.set _ _ (Tr.get _ _))
  congr 1
  funext _
  congr 2
  funext w
  show Tr.ask _ _ = Tr.ask _ _
  congr 1
  funext y
  exact Tr.bind_ite _ _ _ _
section
variable (k b l n rw rr tp : Int)
set_option maxHeartbeats 4000000 in
theorem wrTpR_does (v : Int) (hn : Near b l) : DoesR 13 (fun p => #[p, .agg #[.int .i64 k, .int .i64 b, .int .i64 l, .int .i64 n, .int .i64 rw, .int .i64 rr, .int .i64 tp], .int .i64 v]) (wrTp b l v) (fun _ => .tuple #[]) := by
  intro C wx K kk R H
  obtain ⟨W, hW⟩ : ∃ W, W = wx.alloc (.cells #[.int .i64 k, .int .i64 b, .int .i64 l, .int .i64 n, .int .i64 rw, .int .i64 rr, .int .i64 tp] 23) := ⟨_, rfl⟩
  have hbW : Below wx.heap.size wx W := by rw [hW]; exact below_alloc _ _
  have hbox : BoxAt W wx.heap.size #[.int .i64 k, .int .i64 b, .int .i64 l, .int .i64 n, .int .i64 rw, .int .i64 rr, .int .i64 tp] := by rw [hW]; exact BoxAt.new _ _ _
  have k2 : Kx K wx W wx.heap.size := .inr ⟨Nat.le_refl _, by rw [hW]; simp⟩
  obtain ⟨n1, n2, n3, n4⟩ := hn
  obtain ⟨bi, hbi⟩ : ∃ bi, bitI v = bi := ⟨_, rfl⟩
  have HF := Lib.hid (And.intro (((H.alike (wrTp_alike C.ans b l v kk)).as (wrTpR_bind b l v kk)).grow hbW) (Keeps.refl (Kx K wx W) W))
  rw [hbi] at HF
  have HW := Lib.hid hW
  have HI := Lib.hid hbi
  have HBx := Lib.hid (And.intro hbox k2)
  have HK := Lib.hid (Keeps.below (K := K) hbW)
  clear hW hbox hbW H k2 hbi
  go_enter Try.func13, Try.ntmps13
  go_upto_region 1 with fail
  rw [← HW.out]
  go_wp2_with fail
  refine (bitR_is _ _ HI.out _).mono ?_; rintro e w' ⟨rfl, rfl⟩
  have HB := Lib.hid (HBx.out.1.keeps HF.out.2 HBx.out.2)
  have x0 := (HB.out 0 _ rfl).1
  have x1 := (HB.out 1 _ rfl).1
  have x2 := (HB.out 2 _ rfl).1
  obtain ⟨x, hN, hG⟩ := HF.out.1.get
  have HG := Lib.hid (hG _ (Below.refl _ _))
  have HF1 := Lib.hid (And.intro hN HF.out.2)
  clear hN hG
  go_wp2_with fail
  refine (HG.out).mono ?_; rintro e w' ⟨rfl, rfl⟩
  clear HG HB HF x0 x1 x2
  by_cases he : x = bi
  · have z2 : (x == bi) = true := by simp [he]
    have HF2 := Lib.hid (And.intro (NowR.as HF1.out.1 (if_pos he)) HF1.out.2)
    clear HF1
    clear he
    have HE := Lib.hid (And.intro (NowR.less (K := K) HF2.out.1 (fun b h => .inl h)) (HK.out.trans (HF2.out.2.less (fun b h => .inl h))))
    clear HF2
    go_wp2_with fail
    first | go_end0 | refine bodyPost_ret (results_none rfl _ _ _) rfl ?_
    exact ⟨(), rfl, HE.out.1, HE.out.2⟩
  · have z2 : (x == bi) = false := by simpa using he
    have HF2 := Lib.hid (And.intro (NowR.as HF1.out.1 (if_neg he)) HF1.out.2)
    clear HF1
    clear he
    have HB := Lib.hid (HBx.out.1.keeps HF2.out.2 HBx.out.2)
    have x0 := (HB.out 0 _ rfl).1
    have x1 := (HB.out 1 _ rfl).1
    have x2 := (HB.out 2 _ rfl).1
    have HM := Lib.hid (HF2.out.1.write (Below.refl _ _))
    go_wp2_with fail
    refine HM.out.mono ?_
    rintro e w1 ⟨_, rfl, hN, hK⟩
    have HF3 := Lib.hid (And.intro (hN.less (K := Kx K wx W) (fun b h => .inl h)) (HF2.out.2.trans (hK.less (K := Kx K wx W) (fun b h => .inl h))))
    clear hN hK HM HB HF2 x0 x1 x2
    have HB := Lib.hid (HBx.out.1.keeps HF3.out.2 HBx.out.2)
    have x0 := (HB.out 0 _ rfl).1
    have x1 := (HB.out 1 _ rfl).1
    have x2 := (HB.out 2 _ rfl).1
    have HM := Lib.hid (HF3.out.1.set (Below.refl _ _))
    go_wp2_with fail
    refine HM.out.mono ?_
    rintro e w2 ⟨_, rfl, hN, hK⟩
    have HF4 := Lib.hid (And.intro (hN.less (K := Kx K wx W) (fun b h => .inl h)) (HF3.out.2.trans (hK.less (K := Kx K wx W) (fun b h => .inl h))))
    clear hN hK HM HB HF3 x0 x1 x2
    have HB := Lib.hid (HBx.out.1.keeps HF4.out.2 HBx.out.2)
    have x0 := (HB.out 0 _ rfl).1
    have x1 := (HB.out 1 _ rfl).1
    have x2 := (HB.out 2 _ rfl).1
    obtain ⟨y0, hN, hG⟩ := HF4.out.1.get
    have HG := Lib.hid (hG _ (Below.refl _ _))
    have HF5 := Lib.hid (And.intro hN HF4.out.2)
    clear hN hG
    go_wp2_with fail
    refine (HG.out).mono ?_; rintro e w' ⟨rfl, rfl⟩
    clear HG HB HF4 x0 x1 x2
    have HB := Lib.hid (HBx.out.1.keeps HF5.out.2 HBx.out.2)
    have x0 := (HB.out 0 _ rfl).1
    have x1 := (HB.out 1 _ rfl).1
    have x2 := (HB.out 2 _ rfl).1
    have HM := Lib.hid (HF5.out.1.read (Below.refl _ _))
    go_wp2_with fail
    refine HM.out.mono ?_
    rintro e w3 ⟨y, rfl, hN, hK⟩
    obtain ⟨ov, hov1, hov2⟩ := hN.over
    have q1 := hov1.1
    have HF6 := Lib.hid (And.intro (hN.less (K := Kx K wx W) (fun b h => .inl h)) (HF5.out.2.trans (hK.less (K := Kx K wx W) (fun b h => .inl h))))
    have HO := Lib.hid (fun (h : ov = true) u => (hov2 h u).less (K := Kx K wx W) (fun b h => .inl h))
    clear hN hK HM HB HF5 hov1 hov2 x0 x1 x2
    by_cases he : y = y0
    · have z3 : (y == y0) = true := by simp [he]
      cases ov with
      | true =>
        have HF7 := Lib.hid (And.intro (HO.out rfl (kk ())) HF6.out.2)
        clear HF6 HO he
        have HE := Lib.hid (And.intro (NowR.less (K := K) HF7.out.1 (fun b h => .inl h)) (HK.out.trans (HF7.out.2.less (fun b h => .inl h))))
        clear HF7
        go_wp2_with fail
        first | go_end0 | refine bodyPost_ret (results_none rfl _ _ _) rfl ?_
        exact ⟨(), rfl, HE.out.1, HE.out.2⟩
      | false =>
        obtain ⟨o, ho⟩ : ∃ o, other y0 = o := ⟨_, rfl⟩
        have HF7 := Lib.hid (And.intro (NowR.as HF6.out.1 (if_pos he)) HF6.out.2)
        clear HF6
        rw [ho] at HF7
        have HV := Lib.hid (show Go.RowKit.wrap64 (1 - y0) = o from ho)
        clear ho HO he
        have HB := Lib.hid (HBx.out.1.keeps HF7.out.2 HBx.out.2)
        have x0 := (HB.out 0 _ rfl).1
        have x1 := (HB.out 1 _ rfl).1
        have x2 := (HB.out 2 _ rfl).1
        have HM := Lib.hid (HF7.out.1.write (Below.refl _ _))
        go_wp2_with fail
        rw [HV.out]
        refine HM.out.mono ?_
        rintro e w4 ⟨_, rfl, hN, hK⟩
        have HF8 := Lib.hid (And.intro (hN.less (K := Kx K wx W) (fun b h => .inl h)) (HF7.out.2.trans (hK.less (K := Kx K wx W) (fun b h => .inl h))))
        clear hN hK HM HB HF7 x0 x1 x2
        clear q1
        have HB := Lib.hid (HBx.out.1.keeps HF8.out.2 HBx.out.2)
        have x0 := (HB.out 0 _ rfl).1
        have x1 := (HB.out 1 _ rfl).1
        have x2 := (HB.out 2 _ rfl).1
        have HM := Lib.hid (HF8.out.1.set (Below.refl _ _))
        go_wp2_with fail
        rw [HV.out]
        refine HM.out.mono ?_
        rintro e w5 ⟨_, rfl, hN, hK⟩
        have HF9 := Lib.hid (And.intro (hN.less (K := Kx K wx W) (fun b h => .inl h)) (HF8.out.2.trans (hK.less (K := Kx K wx W) (fun b h => .inl h))))
        clear hN hK HM HB HF8 x0 x1 x2
        have HE := Lib.hid (And.intro (NowR.less (K := K) HF9.out.1 (fun b h => .inl h)) (HK.out.trans (HF9.out.2.less (fun b h => .inl h))))
        clear HF9
        go_wp2_with fail
        first | go_end0 | refine bodyPost_ret (results_none rfl _ _ _) rfl ?_
        exact ⟨(), rfl, HE.out.1, HE.out.2⟩
    · have z3 : (y == y0) = false := by simpa using he
      have HF7 := Lib.hid (And.intro (NowR.as HF6.out.1 (if_neg he)) HF6.out.2)
      clear HF6
      clear HO he
      have HE := Lib.hid (And.intro (NowR.less (K := K) HF7.out.1 (fun b h => .inl h)) (HK.out.trans (HF7.out.2.less (fun b h => .inl h))))
      clear HF7
      go_wp2_with fail
      first | go_end0 | refine bodyPost_ret (results_none rfl _ _ _) rfl ?_
      exact ⟨(), rfl, HE.out.1, HE.out.2⟩
set_option maxHeartbeats 8000000 in
theorem rdTpR_does (hn : Near b l) : DoesR 12 (fun p => #[p, .agg #[.int .i64 k, .int .i64 b, .int .i64 l, .int .i64 n, .int .i64 rw, .int .i64 rr, .int .i64 tp]]) (rdTp b l) (Value.int .i64) := by
  intro C wx K kk R H
  obtain ⟨W, hW⟩ : ∃ W, W = wx.alloc (.cells #[.int .i64 k, .int .i64 b, .int .i64 l, .int .i64 n, .int .i64 rw, .int .i64 rr, .int .i64 tp] 23) := ⟨_, rfl⟩
  have hbW : Below wx.heap.size wx W := by rw [hW]; exact below_alloc _ _
  have hbox : BoxAt W wx.heap.size #[.int .i64 k, .int .i64 b, .int .i64 l, .int .i64 n, .int .i64 rw, .int .i64 rr, .int .i64 tp] := by rw [hW]; exact BoxAt.new _ _ _
  have k2 : Kx K wx W wx.heap.size := .inr ⟨Nat.le_refl _, by rw [hW]; simp⟩
  obtain ⟨n1, n2, n3, n4⟩ := hn
  have HF := Lib.hid (And.intro ((H.as (rdTp_bind b l kk)).grow hbW) (Keeps.refl (Kx K wx W) W))
  have HW := Lib.hid hW
  have HBx := Lib.hid (And.intro hbox k2)
  have HK := Lib.hid (Keeps.below (K := K) hbW)
  clear hW hbox hbW H k2
  go_enter Try.func12, Try.ntmps12
  go_upto_region 1 with fail
  rw [← HW.out]
  have HB := Lib.hid (HBx.out.1.keeps HF.out.2 HBx.out.2)
  skip
  refine wp_region_x (S := fun w' => BoxAt w' wx.heap.size #[.int .i64 k, .int .i64 b, .int .i64 l, .int .i64 n, .int .i64 rw, .int .i64 rr, .int .i64 tp]) (by kernel_rfl) (HB.out.grow (Below.refl _ _).drew) ?_
  clear HB
  refine wpAnyX_take (i := 0) (oi := ⟨_, _, _, _, _, _⟩) (v := ?_) rfl (by kernel_rfl) (by kernel_rfl) (by kernel_rfl) (fun _ _ _ h => h) (YieldsX.val (by rfl) (fun wS hS => ?_)) ?_
  rotate_left 1
  · go_simp; try rfl
  simp only [Act.put, List.setIfInBounds_toArray, List.set_cons_zero, List.set_cons_succ]
  refine wpAnyX_take (i := 1) (oi := ⟨_, _, _, _, _, _⟩) (v := ?_) rfl (by kernel_rfl) (by kernel_rfl) (by kernel_rfl) (fun _ _ _ h => h) (YieldsX.val (by rfl) (fun wS hS => ?_)) ?_
  rotate_left 1
  · go_simp; try rfl
  simp only [Act.put, List.setIfInBounds_toArray, List.set_cons_zero, List.set_cons_succ]
  refine wpAnyX_take (i := 2) (oi := ⟨_, _, _, _, _, _⟩) (v := ?_) rfl (by kernel_rfl) (by kernel_rfl) (by kernel_rfl) (fun _ _ _ h => h) (YieldsX.val (by rfl) (fun wS hS => ?_)) ?_
  rotate_left 1
  · have d1 := (hS 1 _ rfl).1; go_simp; try rfl
  simp only [Act.put, List.setIfInBounds_toArray, List.set_cons_zero, List.set_cons_succ]
  refine wpAnyX_take (i := 3) (oi := ⟨_, _, _, _, _, _⟩) (v := .int .i64 (b + 1)) rfl (by kernel_rfl) (by kernel_rfl) (by kernel_rfl) (fun _ _ _ h => h) (YieldsX.val (by rfl) (fun wS hS => ?_)) ?_
  · go_simp; (try rfl); first | done | (unfold other; unfold Go.RowKit.wrap64; exact IntKind.wrap_i64 _) | (simp only [other, Go.RowKit.wrap64]; exact IntKind.wrap_i64 _) | (rw [IntKind.wrap_i64]; omega) | (simp only [IntKind.wrap_i64]; omega)
  simp only [Act.put, List.setIfInBounds_toArray, List.set_cons_zero, List.set_cons_succ]
  refine wpAnyX_take (i := 5) (oi := ⟨_, _, _, _, _, _⟩) (v := ?_) rfl (by kernel_rfl) (by kernel_rfl) (by kernel_rfl) (fun _ _ _ h => h) (YieldsX.val (by rfl) (fun wS hS => ?_)) ?_
  rotate_left 1
  · go_simp; try rfl
  simp only [Act.put, List.setIfInBounds_toArray, List.set_cons_zero, List.set_cons_succ]
  refine wpAnyX_take (i := 6) (oi := ⟨_, _, _, _, _, _⟩) (v := ?_) rfl (by kernel_rfl) (by kernel_rfl) (by kernel_rfl) (fun _ _ _ h => h) (YieldsX.val (by rfl) (fun wS hS => ?_)) ?_
  rotate_left 1
  · go_simp; try rfl
  simp only [Act.put, List.setIfInBounds_toArray, List.set_cons_zero, List.set_cons_succ]
  refine wpAnyX_take (i := 7) (oi := ⟨_, _, _, _, _, _⟩) (v := ?_) rfl (by kernel_rfl) (by kernel_rfl) (by kernel_rfl) (fun _ _ _ h => h) (YieldsX.val (by rfl) (fun wS hS => ?_)) ?_
  rotate_left 1
  · have d2 := (hS 2 _ rfl).1; go_simp; try rfl
  simp only [Act.put, List.setIfInBounds_toArray, List.set_cons_zero, List.set_cons_succ]
  refine wpAnyX_take (i := 8) (oi := ⟨_, _, _, _, _, _⟩) (v := .int .i64 (l + 2)) rfl (by kernel_rfl) (by kernel_rfl) (by kernel_rfl) (fun _ _ _ h => h) (YieldsX.val (by rfl) (fun wS hS => ?_)) ?_
  · go_simp; (try rfl); first | done | (unfold other; unfold Go.RowKit.wrap64; exact IntKind.wrap_i64 _) | (simp only [other, Go.RowKit.wrap64]; exact IntKind.wrap_i64 _) | (rw [IntKind.wrap_i64]; omega) | (simp only [IntKind.wrap_i64]; omega)
  simp only [Act.put, List.setIfInBounds_toArray, List.set_cons_zero, List.set_cons_succ]
  refine wpAnyX_ready (rs := [4]) (by kernel_rfl) (by simp) (fun wb h1 e1 => ?_)
  refine EachX.cons (o := ⟨_, _, _, _, _, _⟩) rfl (fun KK hK => ?_) EachX.nil
  go_simp
  refine (NowR.read (cl := b + 1) HF.out.1 (Ext.trans (show Ext W W.drew from (Below.refl _ _).drew) e1)).mono ?_
  rintro e wc ⟨y, rfl, hN, hK⟩
  have HA := Lib.hid (And.intro (hN.less (K := Kx K wx W) (fun b h => .inl h)) ((HF.out.2.trans (Keeps.below (Ext.trans (show Ext W W.drew from (Below.refl _ _).drew) e1))).trans (hK.less (K := Kx K wx W) (fun b h => .inl h))))
  clear hN hK HF e1
  refine hK.out _ _ (HBx.out.1.keeps HA.out.2 HBx.out.2) ?_
  obtain ⟨r, hN, hG⟩ := HA.out.1.get
  have HG := Lib.hid hG
  have HA2 := Lib.hid (And.intro hN HA.out.2)
  clear hN hG HA
  refine wpAnyX_ready (rs := [9]) (by kernel_rfl) (by simp) (fun wd h3 e3 => ?_)
  refine EachX.cons (o := ⟨_, _, _, _, _, _⟩) rfl (fun KK hK => ?_) EachX.nil
  go_simp
  refine (HG.out _ e3).mono ?_; rintro e we ⟨rfl, rfl⟩
  refine hK.out _ _ h3 ?_
  refine wpAnyX_take (i := 10) (oi := ⟨_, _, _, _, _, _⟩) (v := .bool (y == r)) rfl (by kernel_rfl) (by kernel_rfl) (by kernel_rfl) (fun _ _ _ h => h) (YieldsX.val (by rfl) (fun wS hS => ?_)) ?_
  · go_simp; (try rfl); first | done | (unfold other; unfold Go.RowKit.wrap64; exact IntKind.wrap_i64 _) | (simp only [other, Go.RowKit.wrap64]; exact IntKind.wrap_i64 _) | (rw [IntKind.wrap_i64]; omega) | (simp only [IntKind.wrap_i64]; omega)
  simp only [Act.put, List.setIfInBounds_toArray, List.set_cons_zero, List.set_cons_succ]
  refine wpAnyX_done (by kernel_rfl) (fun wf h5 e5 => ?_) _
  have HF1 := Lib.hid (And.intro (NowR.less (K := Kx K wx W) (HA2.out.1.grow (Ext.trans e3 e5)) (fun b h => .inl h)) (HA2.out.2.trans (Keeps.below (Ext.trans e3 e5))))
  clear HA2 HG h5 h3 h1 e3 e5
  by_cases he : y = r
  · have z3 : (y == r) = true := by simp [he]
    have z4 : (y != r) = false := by simp [he]
    have HF2 := Lib.hid (And.intro (NowR.as HF1.out.1 (if_pos (by simp [he]))) HF1.out.2)
    clear HF1
    clear he
    have HB := Lib.hid (HBx.out.1.keeps HF2.out.2 HBx.out.2)
    have x0 := (HB.out 0 _ rfl).1
    have x1 := (HB.out 1 _ rfl).1
    have x2 := (HB.out 2 _ rfl).1
    obtain ⟨z, hN, hG⟩ := HF2.out.1.get
    have HG := Lib.hid (hG _ (Below.refl _ _))
    have HF3 := Lib.hid (And.intro hN HF2.out.2)
    clear hN hG
    go_wp2_with fail
    refine (HG.out).mono ?_; rintro e w' ⟨rfl, rfl⟩
    clear HG HB HF2 x0 x1 x2
    have HE := Lib.hid (And.intro (NowR.less (K := K) HF3.out.1 (fun b h => .inl h)) (HK.out.trans (HF3.out.2.less (fun b h => .inl h))))
    clear HF3
    go_wp2_with fail
    go_ret
    exact ⟨z, rfl, HE.out.1, HE.out.2⟩
  · have z3 : (y == r) = false := by simpa using he
    have z4 : (y != r) = true := by simpa using he
    have HF2 := Lib.hid (And.intro (NowR.as HF1.out.1 (if_neg (by simpa using he))) HF1.out.2)
    clear HF1
    clear he
    have HB := Lib.hid (HBx.out.1.keeps HF2.out.2 HBx.out.2)
    have x0 := (HB.out 0 _ rfl).1
    have x1 := (HB.out 1 _ rfl).1
    have x2 := (HB.out 2 _ rfl).1
    have HM := Lib.hid (HF2.out.1.read (Below.refl _ _))
    go_wp2_with fail
    refine HM.out.mono ?_
    rintro e w1 ⟨x, rfl, hN, hK⟩
    have HF3 := Lib.hid (And.intro (hN.less (K := Kx K wx W) (fun b h => .inl h)) (HF2.out.2.trans (hK.less (K := Kx K wx W) (fun b h => .inl h))))
    clear hN hK HM HB HF2 x0 x1 x2
    have HB := Lib.hid (HBx.out.1.keeps HF3.out.2 HBx.out.2)
    go_upto_region 4 with fail
    refine wp_region_x (S := fun w' => BoxAt w' wx.heap.size #[.int .i64 k, .int .i64 b, .int .i64 l, .int .i64 n, .int .i64 rw, .int .i64 rr, .int .i64 tp]) (by kernel_rfl) (HB.out.grow (Below.refl _ _).drew) ?_
    clear HB
    refine wpAnyX_take (i := 0) (oi := ⟨_, _, _, _, _, _⟩) (v := ?_) rfl (by kernel_rfl) (by kernel_rfl) (by kernel_rfl) (fun _ _ _ h => h) (YieldsX.val (by rfl) (fun wS hS => ?_)) ?_
    rotate_left 1
    · go_simp; try rfl
    simp only [Act.put, List.setIfInBounds_toArray, List.set_cons_zero, List.set_cons_succ]
    refine wpAnyX_take (i := 1) (oi := ⟨_, _, _, _, _, _⟩) (v := ?_) rfl (by kernel_rfl) (by kernel_rfl) (by kernel_rfl) (fun _ _ _ h => h) (YieldsX.val (by rfl) (fun wS hS => ?_)) ?_
    rotate_left 1
    · go_simp; try rfl
    simp only [Act.put, List.setIfInBounds_toArray, List.set_cons_zero, List.set_cons_succ]
    refine wpAnyX_take (i := 2) (oi := ⟨_, _, _, _, _, _⟩) (v := ?_) rfl (by kernel_rfl) (by kernel_rfl) (by kernel_rfl) (fun _ _ _ h => h) (YieldsX.val (by rfl) (fun wS hS => ?_)) ?_
    rotate_left 1
    · have d1 := (hS 1 _ rfl).1; go_simp; try rfl
    simp only [Act.put, List.setIfInBounds_toArray, List.set_cons_zero, List.set_cons_succ]
    refine wpAnyX_take (i := 3) (oi := ⟨_, _, _, _, _, _⟩) (v := .int .i64 (b + 1)) rfl (by kernel_rfl) (by kernel_rfl) (by kernel_rfl) (fun _ _ _ h => h) (YieldsX.val (by rfl) (fun wS hS => ?_)) ?_
    · go_simp; (try rfl); first | done | (unfold other; unfold Go.RowKit.wrap64; exact IntKind.wrap_i64 _) | (simp only [other, Go.RowKit.wrap64]; exact IntKind.wrap_i64 _) | (rw [IntKind.wrap_i64]; omega) | (simp only [IntKind.wrap_i64]; omega)
    simp only [Act.put, List.setIfInBounds_toArray, List.set_cons_zero, List.set_cons_succ]
    refine wpAnyX_take (i := 5) (oi := ⟨_, _, _, _, _, _⟩) (v := ?_) rfl (by kernel_rfl) (by kernel_rfl) (by kernel_rfl) (fun _ _ _ h => h) (YieldsX.val (by rfl) (fun wS hS => ?_)) ?_
    rotate_left 1
    · go_simp; try rfl
    simp only [Act.put, List.setIfInBounds_toArray, List.set_cons_zero, List.set_cons_succ]
    refine wpAnyX_take (i := 6) (oi := ⟨_, _, _, _, _, _⟩) (v := ?_) rfl (by kernel_rfl) (by kernel_rfl) (by kernel_rfl) (fun _ _ _ h => h) (YieldsX.val (by rfl) (fun wS hS => ?_)) ?_
    rotate_left 1
    · go_simp; try rfl
    simp only [Act.put, List.setIfInBounds_toArray, List.set_cons_zero, List.set_cons_succ]
    refine wpAnyX_take (i := 7) (oi := ⟨_, _, _, _, _, _⟩) (v := ?_) rfl (by kernel_rfl) (by kernel_rfl) (by kernel_rfl) (fun _ _ _ h => h) (YieldsX.val (by rfl) (fun wS hS => ?_)) ?_
    rotate_left 1
    · have d2 := (hS 2 _ rfl).1; go_simp; try rfl
    simp only [Act.put, List.setIfInBounds_toArray, List.set_cons_zero, List.set_cons_succ]
    refine wpAnyX_take (i := 8) (oi := ⟨_, _, _, _, _, _⟩) (v := .int .i64 (l + 2)) rfl (by kernel_rfl) (by kernel_rfl) (by kernel_rfl) (fun _ _ _ h => h) (YieldsX.val (by rfl) (fun wS hS => ?_)) ?_
    · go_simp; (try rfl); first | done | (unfold other; unfold Go.RowKit.wrap64; exact IntKind.wrap_i64 _) | (simp only [other, Go.RowKit.wrap64]; exact IntKind.wrap_i64 _) | (rw [IntKind.wrap_i64]; omega) | (simp only [IntKind.wrap_i64]; omega)
    simp only [Act.put, List.setIfInBounds_toArray, List.set_cons_zero, List.set_cons_succ]
    refine wpAnyX_ready (rs := [4]) (by kernel_rfl) (by simp) (fun wib h1 e1 => ?_)
    refine EachX.cons (o := ⟨_, _, _, _, _, _⟩) rfl (fun KK hK => ?_) EachX.nil
    go_simp
    refine (NowR.read (cl := b + 1) HF3.out.1 (Ext.trans (show Ext w1 w1.drew from (Below.refl _ _).drew) e1)).mono ?_
    rintro e wic ⟨y, rfl, hN, hK⟩
    have HA := Lib.hid (And.intro (hN.less (K := Kx K wx W) (fun b h => .inl h)) ((HF3.out.2.trans (Keeps.below (Ext.trans (show Ext w1 w1.drew from (Below.refl _ _).drew) e1))).trans (hK.less (K := Kx K wx W) (fun b h => .inl h))))
    clear hN hK HF3 e1
    refine hK.out _ _ (HBx.out.1.keeps HA.out.2 HBx.out.2) ?_
    obtain ⟨r, hN, hG⟩ := HA.out.1.get
    have HG := Lib.hid hG
    have HA2 := Lib.hid (And.intro hN HA.out.2)
    clear hN hG HA
    refine wpAnyX_ready (rs := [9]) (by kernel_rfl) (by simp) (fun wid h3 e3 => ?_)
    refine EachX.cons (o := ⟨_, _, _, _, _, _⟩) rfl (fun KK hK => ?_) EachX.nil
    go_simp
    refine (HG.out _ e3).mono ?_; rintro e wie ⟨rfl, rfl⟩
    refine hK.out _ _ h3 ?_
    refine wpAnyX_take (i := 10) (oi := ⟨_, _, _, _, _, _⟩) (v := .bool (y != r)) rfl (by kernel_rfl) (by kernel_rfl) (by kernel_rfl) (fun _ _ _ h => h) (YieldsX.val (by rfl) (fun wS hS => ?_)) ?_
    · go_simp; (try rfl); first | done | (unfold other; unfold Go.RowKit.wrap64; exact IntKind.wrap_i64 _) | (simp only [other, Go.RowKit.wrap64]; exact IntKind.wrap_i64 _) | (rw [IntKind.wrap_i64]; omega) | (simp only [IntKind.wrap_i64]; omega)
    simp only [Act.put, List.setIfInBounds_toArray, List.set_cons_zero, List.set_cons_succ]
    refine wpAnyX_done (by kernel_rfl) (fun wif h5 e5 => ?_) _
    have HF4 := Lib.hid (And.intro (NowR.less (K := Kx K wx W) (HA2.out.1.grow (Ext.trans e3 e5)) (fun b h => .inl h)) (HA2.out.2.trans (Keeps.below (Ext.trans e3 e5))))
    clear HA2 HG h5 h3 h1 e3 e5
    by_cases he : y = r
    · have z3 : (y == r) = true := by simp [he]
      have z4 : (y != r) = false := by simp [he]
      have HF5 := Lib.hid (And.intro (NowR.as (NowR.as HF4.out.1 (if_pos (by simp [he]))) (rdLast_bind b l x kk)) HF4.out.2)
      clear HF4
      clear he
      have HB := Lib.hid (HBx.out.1.keeps HF5.out.2 HBx.out.2)
      go_upto_region 8 with fail
      refine wp_region_x (S := fun w' => BoxAt w' wx.heap.size #[.int .i64 k, .int .i64 b, .int .i64 l, .int .i64 n, .int .i64 rw, .int .i64 rr, .int .i64 tp]) (by kernel_rfl) (HB.out.grow (Below.refl _ _).drew) ?_
      clear HB
      refine wpAnyX_take (i := 0) (oi := ⟨_, _, _, _, _, _⟩) (v := ?_) rfl (by kernel_rfl) (by kernel_rfl) (by kernel_rfl) (fun _ _ _ h => h) (YieldsX.val (by rfl) (fun wS hS => ?_)) ?_
      rotate_left 1
      · go_simp; try rfl
      simp only [Act.put, List.setIfInBounds_toArray, List.set_cons_zero, List.set_cons_succ]
      refine wpAnyX_take (i := 1) (oi := ⟨_, _, _, _, _, _⟩) (v := ?_) rfl (by kernel_rfl) (by kernel_rfl) (by kernel_rfl) (fun _ _ _ h => h) (YieldsX.val (by rfl) (fun wS hS => ?_)) ?_
      rotate_left 1
      · go_simp; try rfl
      simp only [Act.put, List.setIfInBounds_toArray, List.set_cons_zero, List.set_cons_succ]
      refine wpAnyX_take (i := 2) (oi := ⟨_, _, _, _, _, _⟩) (v := ?_) rfl (by kernel_rfl) (by kernel_rfl) (by kernel_rfl) (fun _ _ _ h => h) (YieldsX.val (by rfl) (fun wS hS => ?_)) ?_
      rotate_left 1
      · have d2 := (hS 2 _ rfl).1; go_simp; try rfl
      simp only [Act.put, List.setIfInBounds_toArray, List.set_cons_zero, List.set_cons_succ]
      refine wpAnyX_take (i := 3) (oi := ⟨_, _, _, _, _, _⟩) (v := .int .i64 (l + 3)) rfl (by kernel_rfl) (by kernel_rfl) (by kernel_rfl) (fun _ _ _ h => h) (YieldsX.val (by rfl) (fun wS hS => ?_)) ?_
      · go_simp; (try rfl); first | done | (unfold other; unfold Go.RowKit.wrap64; exact IntKind.wrap_i64 _) | (simp only [other, Go.RowKit.wrap64]; exact IntKind.wrap_i64 _) | (rw [IntKind.wrap_i64]; omega) | (simp only [IntKind.wrap_i64]; omega)
      simp only [Act.put, List.setIfInBounds_toArray, List.set_cons_zero, List.set_cons_succ]
      refine wpAnyX_take (i := 4) (oi := ⟨_, _, _, _, _, _⟩) (v := ?_) rfl (by kernel_rfl) (by kernel_rfl) (by kernel_rfl) (fun _ _ _ h => h) (YieldsX.val (by rfl) (fun wS hS => ?_)) ?_
      rotate_left 1
      · go_simp; try rfl
      simp only [Act.put, List.setIfInBounds_toArray, List.set_cons_zero, List.set_cons_succ]
      refine wpAnyX_take (i := 5) (oi := ⟨_, _, _, _, _, _⟩) (v := ?_) rfl (by kernel_rfl) (by kernel_rfl) (by kernel_rfl) (fun _ _ _ h => h) (YieldsX.val (by rfl) (fun wS hS => ?_)) ?_
      rotate_left 1
      · go_simp; try rfl
      simp only [Act.put, List.setIfInBounds_toArray, List.set_cons_zero, List.set_cons_succ]
      refine wpAnyX_take (i := 6) (oi := ⟨_, _, _, _, _, _⟩) (v := ?_) rfl (by kernel_rfl) (by kernel_rfl) (by kernel_rfl) (fun _ _ _ h => h) (YieldsX.val (by rfl) (fun wS hS => ?_)) ?_
      rotate_left 1
      · have d1 := (hS 1 _ rfl).1; go_simp; try rfl
      simp only [Act.put, List.setIfInBounds_toArray, List.set_cons_zero, List.set_cons_succ]
      refine wpAnyX_ready (rs := [7]) (by kernel_rfl) (by simp) (fun wlb h1 e1 => ?_)
      refine EachX.cons (o := ⟨_, _, _, _, _, _⟩) rfl (fun KK hK => ?_) EachX.nil
      go_simp
      refine (NowR.read (cl := b) HF5.out.1 (Ext.trans (show Ext wif wif.drew from (Below.refl _ _).drew) e1)).mono ?_
      rintro e wlc ⟨y, rfl, hN, hK⟩
      have HA := Lib.hid (And.intro (hN.less (K := Kx K wx W) (fun b h => .inl h)) ((HF5.out.2.trans (Keeps.below (Ext.trans (show Ext wif wif.drew from (Below.refl _ _).drew) e1))).trans (hK.less (K := Kx K wx W) (fun b h => .inl h))))
      clear hN hK HF5 e1
      refine hK.out _ _ (HBx.out.1.keeps HA.out.2 HBx.out.2) ?_
      refine wpAnyX_ready (rs := [8]) (by kernel_rfl) (by simp) (fun wld h3 e3 => ?_)
      refine EachX.cons (o := ⟨_, _, _, _, _, _⟩) rfl (fun KK hK => ?_) EachX.nil
      go_simp
      refine (HA.out.1.set e3).mono ?_
      rintro e wle ⟨_, rfl, hN, hK⟩
      have HA2 := Lib.hid (And.intro (hN.less (K := Kx K wx W) (fun b h => .inl h)) ((HA.out.2.trans (Keeps.below e3)).trans (hK.less (K := Kx K wx W) (fun b h => .inl h))))
      clear hN hK HA e3
      refine hK.out _ _ (HBx.out.1.keeps HA2.out.2 HBx.out.2) ?_
      refine wpAnyX_done (by kernel_rfl) (fun wlf h5 e5 => ?_) _
      have TA := Lib.hid (And.intro (NowR.less (K := Kx K wx W) (HA2.out.1.grow e5) (fun b h => .inl h)) (HA2.out.2.trans (Keeps.below e5)))
      clear HA2 h5 h3 h1 e5
      have HB := Lib.hid (HBx.out.1.keeps TA.out.2 HBx.out.2)
      go_upto_region 9 with fail
      refine wp_region_x (S := fun w' => BoxAt w' wx.heap.size #[.int .i64 k, .int .i64 b, .int .i64 l, .int .i64 n, .int .i64 rw, .int .i64 rr, .int .i64 tp]) (by kernel_rfl) (HB.out.grow (Below.refl _ _).drew) ?_
      clear HB
      refine wpAnyX_take (i := 0) (oi := ⟨_, _, _, _, _, _⟩) (v := ?_) rfl (by kernel_rfl) (by kernel_rfl) (by kernel_rfl) (fun _ _ _ h => h) (YieldsX.val (by rfl) (fun wS hS => ?_)) ?_
      rotate_left 1
      · go_simp; try rfl
      simp only [Act.put, List.setIfInBounds_toArray, List.set_cons_zero, List.set_cons_succ]
      refine wpAnyX_take (i := 1) (oi := ⟨_, _, _, _, _, _⟩) (v := ?_) rfl (by kernel_rfl) (by kernel_rfl) (by kernel_rfl) (fun _ _ _ h => h) (YieldsX.val (by rfl) (fun wS hS => ?_)) ?_
      rotate_left 1
      · go_simp; try rfl
      simp only [Act.put, List.setIfInBounds_toArray, List.set_cons_zero, List.set_cons_succ]
      refine wpAnyX_take (i := 2) (oi := ⟨_, _, _, _, _, _⟩) (v := ?_) rfl (by kernel_rfl) (by kernel_rfl) (by kernel_rfl) (fun _ _ _ h => h) (YieldsX.val (by rfl) (fun wS hS => ?_)) ?_
      rotate_left 1
      · have d1 := (hS 1 _ rfl).1; go_simp; try rfl
      simp only [Act.put, List.setIfInBounds_toArray, List.set_cons_zero, List.set_cons_succ]
      refine wpAnyX_take (i := 3) (oi := ⟨_, _, _, _, _, _⟩) (v := .int .i64 (b + 1)) rfl (by kernel_rfl) (by kernel_rfl) (by kernel_rfl) (fun _ _ _ h => h) (YieldsX.val (by rfl) (fun wS hS => ?_)) ?_
      · go_simp; (try rfl); first | done | (unfold other; unfold Go.RowKit.wrap64; exact IntKind.wrap_i64 _) | (simp only [other, Go.RowKit.wrap64]; exact IntKind.wrap_i64 _) | (rw [IntKind.wrap_i64]; omega) | (simp only [IntKind.wrap_i64]; omega)
      simp only [Act.put, List.setIfInBounds_toArray, List.set_cons_zero, List.set_cons_succ]
      refine wpAnyX_take (i := 5) (oi := ⟨_, _, _, _, _, _⟩) (v := ?_) rfl (by kernel_rfl) (by kernel_rfl) (by kernel_rfl) (fun _ _ _ h => h) (YieldsX.val (by rfl) (fun wS hS => ?_)) ?_
      rotate_left 1
      · go_simp; try rfl
      simp only [Act.put, List.setIfInBounds_toArray, List.set_cons_zero, List.set_cons_succ]
      refine wpAnyX_take (i := 6) (oi := ⟨_, _, _, _, _, _⟩) (v := ?_) rfl (by kernel_rfl) (by kernel_rfl) (by kernel_rfl) (fun _ _ _ h => h) (YieldsX.val (by rfl) (fun wS hS => ?_)) ?_
      rotate_left 1
      · go_simp; try rfl
      simp only [Act.put, List.setIfInBounds_toArray, List.set_cons_zero, List.set_cons_succ]
      refine wpAnyX_take (i := 7) (oi := ⟨_, _, _, _, _, _⟩) (v := ?_) rfl (by kernel_rfl) (by kernel_rfl) (by kernel_rfl) (fun _ _ _ h => h) (YieldsX.val (by rfl) (fun wS hS => ?_)) ?_
      rotate_left 1
      · have d2 := (hS 2 _ rfl).1; go_simp; try rfl
      simp only [Act.put, List.setIfInBounds_toArray, List.set_cons_zero, List.set_cons_succ]
      refine wpAnyX_take (i := 8) (oi := ⟨_, _, _, _, _, _⟩) (v := .int .i64 (l + 2)) rfl (by kernel_rfl) (by kernel_rfl) (by kernel_rfl) (fun _ _ _ h => h) (YieldsX.val (by rfl) (fun wS hS => ?_)) ?_
      · go_simp; (try rfl); first | done | (unfold other; unfold Go.RowKit.wrap64; exact IntKind.wrap_i64 _) | (simp only [other, Go.RowKit.wrap64]; exact IntKind.wrap_i64 _) | (rw [IntKind.wrap_i64]; omega) | (simp only [IntKind.wrap_i64]; omega)
      simp only [Act.put, List.setIfInBounds_toArray, List.set_cons_zero, List.set_cons_succ]
      refine wpAnyX_ready (rs := [4]) (by kernel_rfl) (by simp) (fun wkb h1 e1 => ?_)
      refine EachX.cons (o := ⟨_, _, _, _, _, _⟩) rfl (fun KK hK => ?_) EachX.nil
      go_simp
      refine (NowR.read (cl := b + 1) TA.out.1 (Ext.trans (show Ext wlf wlf.drew from (Below.refl _ _).drew) e1)).mono ?_
      rintro e wkc ⟨y, rfl, hN, hK⟩
      have HA := Lib.hid (And.intro (hN.less (K := Kx K wx W) (fun b h => .inl h)) ((TA.out.2.trans (Keeps.below (Ext.trans (show Ext wlf wlf.drew from (Below.refl _ _).drew) e1))).trans (hK.less (K := Kx K wx W) (fun b h => .inl h))))
      clear hN hK TA e1
      refine hK.out _ _ (HBx.out.1.keeps HA.out.2 HBx.out.2) ?_
      obtain ⟨r, hN, hG⟩ := HA.out.1.get
      have HG := Lib.hid hG
      have HA2 := Lib.hid (And.intro hN HA.out.2)
      clear hN hG HA
      refine wpAnyX_ready (rs := [9]) (by kernel_rfl) (by simp) (fun wkd h3 e3 => ?_)
      refine EachX.cons (o := ⟨_, _, _, _, _, _⟩) rfl (fun KK hK => ?_) EachX.nil
      go_simp
      refine (HG.out _ e3).mono ?_; rintro e wke ⟨rfl, rfl⟩
      refine hK.out _ _ h3 ?_
      refine wpAnyX_take (i := 10) (oi := ⟨_, _, _, _, _, _⟩) (v := .bool (y == r)) rfl (by kernel_rfl) (by kernel_rfl) (by kernel_rfl) (fun _ _ _ h => h) (YieldsX.val (by rfl) (fun wS hS => ?_)) ?_
      · go_simp; (try rfl); first | done | (unfold other; unfold Go.RowKit.wrap64; exact IntKind.wrap_i64 _) | (simp only [other, Go.RowKit.wrap64]; exact IntKind.wrap_i64 _) | (rw [IntKind.wrap_i64]; omega) | (simp only [IntKind.wrap_i64]; omega)
      simp only [Act.put, List.setIfInBounds_toArray, List.set_cons_zero, List.set_cons_succ]
      refine wpAnyX_done (by kernel_rfl) (fun wkf h5 e5 => ?_) _
      have TB := Lib.hid (And.intro (NowR.less (K := Kx K wx W) (HA2.out.1.grow (Ext.trans e3 e5)) (fun b h => .inl h)) (HA2.out.2.trans (Keeps.below (Ext.trans e3 e5))))
      clear HA2 HG h5 h3 h1 e3 e5
      by_cases he : y = r
      · have z3 : (y == r) = true := by simp [he]
        have z4 : (y != r) = false := by simp [he]
        have TC := Lib.hid (And.intro (NowR.as TB.out.1 (if_pos (by simp [he]))) TB.out.2)
        clear TB
        clear he
        have HB := Lib.hid (HBx.out.1.keeps TC.out.2 HBx.out.2)
        have x0 := (HB.out 0 _ rfl).1
        have x1 := (HB.out 1 _ rfl).1
        have x2 := (HB.out 2 _ rfl).1
        obtain ⟨z, hN, hG⟩ := TC.out.1.get
        have HG := Lib.hid (hG _ (Below.refl _ _))
        have TD := Lib.hid (And.intro hN TC.out.2)
        clear hN hG
        go_wp2_with fail
        refine (HG.out).mono ?_; rintro e w' ⟨rfl, rfl⟩
        clear HG HB TC x0 x1 x2
        have HE := Lib.hid (And.intro (NowR.less (K := K) TD.out.1 (fun b h => .inl h)) (HK.out.trans (TD.out.2.less (fun b h => .inl h))))
        clear TD
        go_wp2_with fail
        go_ret
        exact ⟨z, rfl, HE.out.1, HE.out.2⟩
      · have z3 : (y == r) = false := by simpa using he
        have z4 : (y != r) = true := by simpa using he
        have TC := Lib.hid (And.intro (NowR.as TB.out.1 (if_neg (by simpa using he))) TB.out.2)
        clear TB
        clear he
        have HB := Lib.hid (HBx.out.1.keeps TC.out.2 HBx.out.2)
        go_upto_region 11 with fail
        refine wp_region_x (S := fun w' => BoxAt w' wx.heap.size #[.int .i64 k, .int .i64 b, .int .i64 l, .int .i64 n, .int .i64 rw, .int .i64 rr, .int .i64 tp]) (by kernel_rfl) (HB.out.grow (Below.refl _ _).drew) ?_
        clear HB
        refine wpAnyX_take (i := 0) (oi := ⟨_, _, _, _, _, _⟩) (v := ?_) rfl (by kernel_rfl) (by kernel_rfl) (by kernel_rfl) (fun _ _ _ h => h) (YieldsX.val (by rfl) (fun wS hS => ?_)) ?_
        rotate_left 1
        · go_simp; try rfl
        simp only [Act.put, List.setIfInBounds_toArray, List.set_cons_zero, List.set_cons_succ]
        refine wpAnyX_take (i := 1) (oi := ⟨_, _, _, _, _, _⟩) (v := ?_) rfl (by kernel_rfl) (by kernel_rfl) (by kernel_rfl) (fun _ _ _ h => h) (YieldsX.val (by rfl) (fun wS hS => ?_)) ?_
        rotate_left 1
        · go_simp; try rfl
        simp only [Act.put, List.setIfInBounds_toArray, List.set_cons_zero, List.set_cons_succ]
        refine wpAnyX_take (i := 2) (oi := ⟨_, _, _, _, _, _⟩) (v := ?_) rfl (by kernel_rfl) (by kernel_rfl) (by kernel_rfl) (fun _ _ _ h => h) (YieldsX.val (by rfl) (fun wS hS => ?_)) ?_
        rotate_left 1
        · have d2 := (hS 2 _ rfl).1; go_simp; try rfl
        simp only [Act.put, List.setIfInBounds_toArray, List.set_cons_zero, List.set_cons_succ]
        refine wpAnyX_take (i := 3) (oi := ⟨_, _, _, _, _, _⟩) (v := .int .i64 (l + 3)) rfl (by kernel_rfl) (by kernel_rfl) (by kernel_rfl) (fun _ _ _ h => h) (YieldsX.val (by rfl) (fun wS hS => ?_)) ?_
        · go_simp; (try rfl); first | done | (unfold other; unfold Go.RowKit.wrap64; exact IntKind.wrap_i64 _) | (simp only [other, Go.RowKit.wrap64]; exact IntKind.wrap_i64 _) | (rw [IntKind.wrap_i64]; omega) | (simp only [IntKind.wrap_i64]; omega)
        simp only [Act.put, List.setIfInBounds_toArray, List.set_cons_zero, List.set_cons_succ]
        refine wpAnyX_take (i := 4) (oi := ⟨_, _, _, _, _, _⟩) (v := ?_) rfl (by kernel_rfl) (by kernel_rfl) (by kernel_rfl) (fun _ _ _ h => h) (YieldsX.val (by rfl) (fun wS hS => ?_)) ?_
        rotate_left 1
        · go_simp; try rfl
        simp only [Act.put, List.setIfInBounds_toArray, List.set_cons_zero, List.set_cons_succ]
        refine wpAnyX_take (i := 5) (oi := ⟨_, _, _, _, _, _⟩) (v := ?_) rfl (by kernel_rfl) (by kernel_rfl) (by kernel_rfl) (fun _ _ _ h => h) (YieldsX.val (by rfl) (fun wS hS => ?_)) ?_
        rotate_left 1
        · go_simp; try rfl
        simp only [Act.put, List.setIfInBounds_toArray, List.set_cons_zero, List.set_cons_succ]
        refine wpAnyX_take (i := 6) (oi := ⟨_, _, _, _, _, _⟩) (v := ?_) rfl (by kernel_rfl) (by kernel_rfl) (by kernel_rfl) (fun _ _ _ h => h) (YieldsX.val (by rfl) (fun wS hS => ?_)) ?_
        rotate_left 1
        · have d1 := (hS 1 _ rfl).1; go_simp; try rfl
        simp only [Act.put, List.setIfInBounds_toArray, List.set_cons_zero, List.set_cons_succ]
        refine wpAnyX_ready (rs := [7]) (by kernel_rfl) (by simp) (fun wmb h1 e1 => ?_)
        refine EachX.cons (o := ⟨_, _, _, _, _, _⟩) rfl (fun KK hK => ?_) EachX.nil
        go_simp
        refine (NowR.read (cl := b) TC.out.1 (Ext.trans (show Ext wkf wkf.drew from (Below.refl _ _).drew) e1)).mono ?_
        rintro e wmc ⟨y, rfl, hN, hK⟩
        have HA := Lib.hid (And.intro (hN.less (K := Kx K wx W) (fun b h => .inl h)) ((TC.out.2.trans (Keeps.below (Ext.trans (show Ext wkf wkf.drew from (Below.refl _ _).drew) e1))).trans (hK.less (K := Kx K wx W) (fun b h => .inl h))))
        clear hN hK TC e1
        refine hK.out _ _ (HBx.out.1.keeps HA.out.2 HBx.out.2) ?_
        refine wpAnyX_ready (rs := [8]) (by kernel_rfl) (by simp) (fun wmd h3 e3 => ?_)
        refine EachX.cons (o := ⟨_, _, _, _, _, _⟩) rfl (fun KK hK => ?_) EachX.nil
        go_simp
        refine (HA.out.1.set e3).mono ?_
        rintro e wme ⟨_, rfl, hN, hK⟩
        have HA2 := Lib.hid (And.intro (hN.less (K := Kx K wx W) (fun b h => .inl h)) ((HA.out.2.trans (Keeps.below e3)).trans (hK.less (K := Kx K wx W) (fun b h => .inl h))))
        clear hN hK HA e3
        refine hK.out _ _ (HBx.out.1.keeps HA2.out.2 HBx.out.2) ?_
        refine wpAnyX_done (by kernel_rfl) (fun wmf h5 e5 => ?_) _
        have TD := Lib.hid (And.intro (NowR.less (K := Kx K wx W) (HA2.out.1.grow e5) (fun b h => .inl h)) (HA2.out.2.trans (Keeps.below e5)))
        clear HA2 h5 h3 h1 e5
        have HE := Lib.hid (And.intro (NowR.less (K := K) TD.out.1 (fun b h => .inl h)) (HK.out.trans (TD.out.2.less (fun b h => .inl h))))
        clear TD
        go_wp2_with fail
        go_ret
        exact ⟨x, rfl, HE.out.1, HE.out.2⟩
    · have z3 : (y == r) = false := by simpa using he
      have z4 : (y != r) = true := by simpa using he
      have HF5 := Lib.hid (And.intro (NowR.as HF4.out.1 (if_neg (by simpa using he))) HF4.out.2)
      clear HF4
      clear he
      have HB := Lib.hid (HBx.out.1.keeps HF5.out.2 HBx.out.2)
      have x0 := (HB.out 0 _ rfl).1
      have x1 := (HB.out 1 _ rfl).1
      have x2 := (HB.out 2 _ rfl).1
      obtain ⟨xf, hN, hG⟩ := HF5.out.1.get
      have HG := Lib.hid (hG _ (Below.refl _ _))
      have HF6 := Lib.hid (And.intro hN HF5.out.2)
      clear hN hG
      go_wp2_with fail
      refine (HG.out).mono ?_; rintro e w' ⟨rfl, rfl⟩
      clear HG HB HF5 x0 x1 x2
      obtain ⟨o, ho⟩ : ∃ o, other xf = o := ⟨_, rfl⟩
      have HF7 := Lib.hid (And.intro (show NowR C wif (Kx K wx W) (Tr.ask ⟨2, b + 2, other xf⟩ fun _ => Tr.set (l + 2) (other xf) ((rdLast b l x).bind kk)) R from HF6.out.1) HF6.out.2)
      rw [ho] at HF7
      have HV := Lib.hid (show Go.RowKit.wrap64 (1 - xf) = o from ho)
      clear ho HF6
      have HB := Lib.hid (HBx.out.1.keeps HF7.out.2 HBx.out.2)
      have x0 := (HB.out 0 _ rfl).1
      have x1 := (HB.out 1 _ rfl).1
      have x2 := (HB.out 2 _ rfl).1
      have HM := Lib.hid (HF7.out.1.write (Below.refl _ _))
      go_wp2_with fail
      rw [HV.out]
      refine HM.out.mono ?_
      rintro e w2 ⟨_, rfl, hN, hK⟩
      have HF8 := Lib.hid (And.intro (hN.less (K := Kx K wx W) (fun b h => .inl h)) (HF7.out.2.trans (hK.less (K := Kx K wx W) (fun b h => .inl h))))
      clear hN hK HM HB HF7 x0 x1 x2
      have HB := Lib.hid (HBx.out.1.keeps HF8.out.2 HBx.out.2)
      have x0 := (HB.out 0 _ rfl).1
      have x1 := (HB.out 1 _ rfl).1
      have x2 := (HB.out 2 _ rfl).1
      have HM := Lib.hid (HF8.out.1.set (Below.refl _ _))
      go_wp2_with fail
      refine HM.out.mono ?_
      rintro e w3 ⟨_, rfl, hN, hK⟩
      have HF9 := Lib.hid (And.intro (hN.less (K := Kx K wx W) (fun b h => .inl h)) (HF8.out.2.trans (hK.less (K := Kx K wx W) (fun b h => .inl h))))
      clear hN hK HM HB HF8 x0 x1 x2
      have HF5 := Lib.hid (And.intro (NowR.as HF9.out.1 (rdLast_bind b l x kk)) HF9.out.2)
      clear HF9
      have HB := Lib.hid (HBx.out.1.keeps HF5.out.2 HBx.out.2)
      go_upto_region 8 with fail
      refine wp_region_x (S := fun w' => BoxAt w' wx.heap.size #[.int .i64 k, .int .i64 b, .int .i64 l, .int .i64 n, .int .i64 rw, .int .i64 rr, .int .i64 tp]) (by kernel_rfl) (HB.out.grow (Below.refl _ _).drew) ?_
      clear HB
      refine wpAnyX_take (i := 0) (oi := ⟨_, _, _, _, _, _⟩) (v := ?_) rfl (by kernel_rfl) (by kernel_rfl) (by kernel_rfl) (fun _ _ _ h => h) (YieldsX.val (by rfl) (fun wS hS => ?_)) ?_
      rotate_left 1
      · go_simp; try rfl
      simp only [Act.put, List.setIfInBounds_toArray, List.set_cons_zero, List.set_cons_succ]
      refine wpAnyX_take (i := 1) (oi := ⟨_, _, _, _, _, _⟩) (v := ?_) rfl (by kernel_rfl) (by kernel_rfl) (by kernel_rfl) (fun _ _ _ h => h) (YieldsX.val (by rfl) (fun wS hS => ?_)) ?_
      rotate_left 1
      · go_simp; try rfl
      simp only [Act.put, List.setIfInBounds_toArray, List.set_cons_zero, List.set_cons_succ]
      refine wpAnyX_take (i := 2) (oi := ⟨_, _, _, _, _, _⟩) (v := ?_) rfl (by kernel_rfl) (by kernel_rfl) (by kernel_rfl) (fun _ _ _ h => h) (YieldsX.val (by rfl) (fun wS hS => ?_)) ?_
      rotate_left 1
      · have d2 := (hS 2 _ rfl).1; go_simp; try rfl
      simp only [Act.put, List.setIfInBounds_toArray, List.set_cons_zero, List.set_cons_succ]
      refine wpAnyX_take (i := 3) (oi := ⟨_, _, _, _, _, _⟩) (v := .int .i64 (l + 3)) rfl (by kernel_rfl) (by kernel_rfl) (by kernel_rfl) (fun _ _ _ h => h) (YieldsX.val (by rfl) (fun wS hS => ?_)) ?_
      · go_simp; (try rfl); first | done | (unfold other; unfold Go.RowKit.wrap64; exact IntKind.wrap_i64 _) | (simp only [other, Go.RowKit.wrap64]; exact IntKind.wrap_i64 _) | (rw [IntKind.wrap_i64]; omega) | (simp only [IntKind.wrap_i64]; omega)
      simp only [Act.put, List.setIfInBounds_toArray, List.set_cons_zero, List.set_cons_succ]
      refine wpAnyX_take (i := 4) (oi := ⟨_, _, _, _, _, _⟩) (v := ?_) rfl (by kernel_rfl) (by kernel_rfl) (by kernel_rfl) (fun _ _ _ h => h) (YieldsX.val (by rfl) (fun wS hS => ?_)) ?_
      rotate_left 1
      · go_simp; try rfl
      simp only [Act.put, List.setIfInBounds_toArray, List.set_cons_zero, List.set_cons_succ]
      refine wpAnyX_take (i := 5) (oi := ⟨_, _, _, _, _, _⟩) (v := ?_) rfl (by kernel_rfl) (by kernel_rfl) (by kernel_rfl) (fun _ _ _ h => h) (YieldsX.val (by rfl) (fun wS hS => ?_)) ?_
      rotate_left 1
      · go_simp; try rfl
      simp only [Act.put, List.setIfInBounds_toArray, List.set_cons_zero, List.set_cons_succ]
      refine wpAnyX_take (i := 6) (oi := ⟨_, _, _, _, _, _⟩) (v := ?_) rfl (by kernel_rfl) (by kernel_rfl) (by kernel_rfl) (fun _ _ _ h => h) (YieldsX.val (by rfl) (fun wS hS => ?_)) ?_
      rotate_left 1
      · have d1 := (hS 1 _ rfl).1; go_simp; try rfl
      simp only [Act.put, List.setIfInBounds_toArray, List.set_cons_zero, List.set_cons_succ]
      refine wpAnyX_ready (rs := [7]) (by kernel_rfl) (by simp) (fun wlb h1 e1 => ?_)
      refine EachX.cons (o := ⟨_, _, _, _, _, _⟩) rfl (fun KK hK => ?_) EachX.nil
      go_simp
      refine (NowR.read (cl := b) HF5.out.1 (Ext.trans (show Ext w3 w3.drew from (Below.refl _ _).drew) e1)).mono ?_
      rintro e wlc ⟨y, rfl, hN, hK⟩
      have HA := Lib.hid (And.intro (hN.less (K := Kx K wx W) (fun b h => .inl h)) ((HF5.out.2.trans (Keeps.below (Ext.trans (show Ext w3 w3.drew from (Below.refl _ _).drew) e1))).trans (hK.less (K := Kx K wx W) (fun b h => .inl h))))
      clear hN hK HF5 e1
      refine hK.out _ _ (HBx.out.1.keeps HA.out.2 HBx.out.2) ?_
      refine wpAnyX_ready (rs := [8]) (by kernel_rfl) (by simp) (fun wld h3 e3 => ?_)
      refine EachX.cons (o := ⟨_, _, _, _, _, _⟩) rfl (fun KK hK => ?_) EachX.nil
      go_simp
      refine (HA.out.1.set e3).mono ?_
      rintro e wle ⟨_, rfl, hN, hK⟩
      have HA2 := Lib.hid (And.intro (hN.less (K := Kx K wx W) (fun b h => .inl h)) ((HA.out.2.trans (Keeps.below e3)).trans (hK.less (K := Kx K wx W) (fun b h => .inl h))))
      clear hN hK HA e3
      refine hK.out _ _ (HBx.out.1.keeps HA2.out.2 HBx.out.2) ?_
      refine wpAnyX_done (by kernel_rfl) (fun wlf h5 e5 => ?_) _
      have TA := Lib.hid (And.intro (NowR.less (K := Kx K wx W) (HA2.out.1.grow e5) (fun b h => .inl h)) (HA2.out.2.trans (Keeps.below e5)))
      clear HA2 h5 h3 h1 e5
      have HB := Lib.hid (HBx.out.1.keeps TA.out.2 HBx.out.2)
      go_upto_region 9 with fail
      refine wp_region_x (S := fun w' => BoxAt w' wx.heap.size #[.int .i64 k, .int .i64 b, .int .i64 l, .int .i64 n, .int .i64 rw, .int .i64 rr, .int .i64 tp]) (by kernel_rfl) (HB.out.grow (Below.refl _ _).drew) ?_
      clear HB
      refine wpAnyX_take (i := 0) (oi := ⟨_, _, _, _, _, _⟩) (v := ?_) rfl (by kernel_rfl) (by kernel_rfl) (by kernel_rfl) (fun _ _ _ h => h) (YieldsX.val (by rfl) (fun wS hS => ?_)) ?_
      rotate_left 1
      · go_simp; try rfl
      simp only [Act.put, List.setIfInBounds_toArray, List.set_cons_zero, List.set_cons_succ]
      refine wpAnyX_take (i := 1) (oi := ⟨_, _, _, _, _, _⟩) (v := ?_) rfl (by kernel_rfl) (by kernel_rfl) (by kernel_rfl) (fun _ _ _ h => h) (YieldsX.val (by rfl) (fun wS hS => ?_)) ?_
      rotate_left 1
      · go_simp; try rfl
      simp only [Act.put, List.setIfInBounds_toArray, List.set_cons_zero, List.set_cons_succ]
      refine wpAnyX_take (i := 2) (oi := ⟨_, _, _, _, _, _⟩) (v := ?_) rfl (by kernel_rfl) (by kernel_rfl) (by kernel_rfl) (fun _ _ _ h => h) (YieldsX.val (by rfl) (fun wS hS => ?_)) ?_
      rotate_left 1
      · have d1 := (hS 1 _ rfl).1; go_simp; try rfl
      simp only [Act.put, List.setIfInBounds_toArray, List.set_cons_zero, List.set_cons_succ]
      refine wpAnyX_take (i := 3) (oi := ⟨_, _, _, _, _, _⟩) (v := .int .i64 (b + 1)) rfl (by kernel_rfl) (by kernel_rfl) (by kernel_rfl) (fun _ _ _ h => h) (YieldsX.val (by rfl) (fun wS hS => ?_)) ?_
      · go_simp; (try rfl); first | done | (unfold other; unfold Go.RowKit.wrap64; exact IntKind.wrap_i64 _) | (simp only [other, Go.RowKit.wrap64]; exact IntKind.wrap_i64 _) | (rw [IntKind.wrap_i64]; omega) | (simp only [IntKind.wrap_i64]; omega)
      simp only [Act.put, List.setIfInBounds_toArray, List.set_cons_zero, List.set_cons_succ]
      refine wpAnyX_take (i := 5) (oi := ⟨_, _, _, _, _, _⟩) (v := ?_) rfl (by kernel_rfl) (by kernel_rfl) (by kernel_rfl) (fun _ _ _ h => h) (YieldsX.val (by rfl) (fun wS hS => ?_)) ?_
      rotate_left 1
      · go_simp; try rfl
      simp only [Act.put, List.setIfInBounds_toArray, List.set_cons_zero, List.set_cons_succ]
      refine wpAnyX_take (i := 6) (oi := ⟨_, _, _, _, _, _⟩) (v := ?_) rfl (by kernel_rfl) (by kernel_rfl) (by kernel_rfl) (fun _ _ _ h => h) (YieldsX.val (by rfl) (fun wS hS => ?_)) ?_
      rotate_left 1
      · go_simp; try rfl
      simp only [Act.put, List.setIfInBounds_toArray, List.set_cons_zero, List.set_cons_succ]
      refine wpAnyX_take (i := 7) (oi := ⟨_, _, _, _, _, _⟩) (v := ?_) rfl (by kernel_rfl) (by kernel_rfl) (by kernel_rfl) (fun _ _ _ h => h) (YieldsX.val (by rfl) (fun wS hS => ?_)) ?_
      rotate_left 1
      · have d2 := (hS 2 _ rfl).1; go_simp; try rfl
      simp only [Act.put, List.setIfInBounds_toArray, List.set_cons_zero, List.set_cons_succ]
      refine wpAnyX_take (i := 8) (oi := ⟨_, _, _, _, _, _⟩) (v := .int .i64 (l + 2)) rfl (by kernel_rfl) (by kernel_rfl) (by kernel_rfl) (fun _ _ _ h => h) (YieldsX.val (by rfl) (fun wS hS => ?_)) ?_
      · go_simp; (try rfl); first | done | (unfold other; unfold Go.RowKit.wrap64; exact IntKind.wrap_i64 _) | (simp only [other, Go.RowKit.wrap64]; exact IntKind.wrap_i64 _) | (rw [IntKind.wrap_i64]; omega) | (simp only [IntKind.wrap_i64]; omega)
      simp only [Act.put, List.setIfInBounds_toArray, List.set_cons_zero, List.set_cons_succ]
      refine wpAnyX_ready (rs := [4]) (by kernel_rfl) (by simp) (fun wkb h1 e1 => ?_)
      refine EachX.cons (o := ⟨_, _, _, _, _, _⟩) rfl (fun KK hK => ?_) EachX.nil
      go_simp
      refine (NowR.read (cl := b + 1) TA.out.1 (Ext.trans (show Ext wlf wlf.drew from (Below.refl _ _).drew) e1)).mono ?_
      rintro e wkc ⟨y, rfl, hN, hK⟩
      have HA := Lib.hid (And.intro (hN.less (K := Kx K wx W) (fun b h => .inl h)) ((TA.out.2.trans (Keeps.below (Ext.trans (show Ext wlf wlf.drew from (Below.refl _ _).drew) e1))).trans (hK.less (K := Kx K wx W) (fun b h => .inl h))))
      clear hN hK TA e1
      refine hK.out _ _ (HBx.out.1.keeps HA.out.2 HBx.out.2) ?_
      obtain ⟨r, hN, hG⟩ := HA.out.1.get
      have HG := Lib.hid hG
      have HA2 := Lib.hid (And.intro hN HA.out.2)
      clear hN hG HA
      refine wpAnyX_ready (rs := [9]) (by kernel_rfl) (by simp) (fun wkd h3 e3 => ?_)
      refine EachX.cons (o := ⟨_, _, _, _, _, _⟩) rfl (fun KK hK => ?_) EachX.nil
      go_simp
      refine (HG.out _ e3).mono ?_; rintro e wke ⟨rfl, rfl⟩
      refine hK.out _ _ h3 ?_
      refine wpAnyX_take (i := 10) (oi := ⟨_, _, _, _, _, _⟩) (v := .bool (y == r)) rfl (by kernel_rfl) (by kernel_rfl) (by kernel_rfl) (fun _ _ _ h => h) (YieldsX.val (by rfl) (fun wS hS => ?_)) ?_
      · go_simp; (try rfl); first | done | (unfold other; unfold Go.RowKit.wrap64; exact IntKind.wrap_i64 _) | (simp only [other, Go.RowKit.wrap64]; exact IntKind.wrap_i64 _) | (rw [IntKind.wrap_i64]; omega) | (simp only [IntKind.wrap_i64]; omega)
      simp only [Act.put, List.setIfInBounds_toArray, List.set_cons_zero, List.set_cons_succ]
      refine wpAnyX_done (by kernel_rfl) (fun wkf h5 e5 => ?_) _
      have TB := Lib.hid (And.intro (NowR.less (K := Kx K wx W) (HA2.out.1.grow (Ext.trans e3 e5)) (fun b h => .inl h)) (HA2.out.2.trans (Keeps.below (Ext.trans e3 e5))))
      clear HA2 HG h5 h3 h1 e3 e5
      by_cases he : y = r
      · have z3 : (y == r) = true := by simp [he]
        have z4 : (y != r) = false := by simp [he]
        have TC := Lib.hid (And.intro (NowR.as TB.out.1 (if_pos (by simp [he]))) TB.out.2)
        clear TB
        clear he
        have HB := Lib.hid (HBx.out.1.keeps TC.out.2 HBx.out.2)
        have x0 := (HB.out 0 _ rfl).1
        have x1 := (HB.out 1 _ rfl).1
        have x2 := (HB.out 2 _ rfl).1
        obtain ⟨z, hN, hG⟩ := TC.out.1.get
        have HG := Lib.hid (hG _ (Below.refl _ _))
        have TD := Lib.hid (And.intro hN TC.out.2)
        clear hN hG
        go_wp2_with fail
        refine (HG.out).mono ?_; rintro e w' ⟨rfl, rfl⟩
        clear HG HB TC x0 x1 x2
        have HE := Lib.hid (And.intro (NowR.less (K := K) TD.out.1 (fun b h => .inl h)) (HK.out.trans (TD.out.2.less (fun b h => .inl h))))
        clear TD
        go_wp2_with fail
        go_ret
        exact ⟨z, rfl, HE.out.1, HE.out.2⟩
      · have z3 : (y == r) = false := by simpa using he
        have z4 : (y != r) = true := by simpa using he
        have TC := Lib.hid (And.intro (NowR.as TB.out.1 (if_neg (by simpa using he))) TB.out.2)
        clear TB
        clear he
        have HB := Lib.hid (HBx.out.1.keeps TC.out.2 HBx.out.2)
        go_upto_region 11 with fail
        refine wp_region_x (S := fun w' => BoxAt w' wx.heap.size #[.int .i64 k, .int .i64 b, .int .i64 l, .int .i64 n, .int .i64 rw, .int .i64 rr, .int .i64 tp]) (by kernel_rfl) (HB.out.grow (Below.refl _ _).drew) ?_
        clear HB
        refine wpAnyX_take (i := 0) (oi := ⟨_, _, _, _, _, _⟩) (v := ?_) rfl (by kernel_rfl) (by kernel_rfl) (by kernel_rfl) (fun _ _ _ h => h) (YieldsX.val (by rfl) (fun wS hS => ?_)) ?_
        rotate_left 1
        · go_simp; try rfl
        simp only [Act.put, List.setIfInBounds_toArray, List.set_cons_zero, List.set_cons_succ]
        refine wpAnyX_take (i := 1) (oi := ⟨_, _, _, _, _, _⟩) (v := ?_) rfl (by kernel_rfl) (by kernel_rfl) (by kernel_rfl) (fun _ _ _ h => h) (YieldsX.val (by rfl) (fun wS hS => ?_)) ?_
        rotate_left 1
        · go_simp; try rfl
        simp only [Act.put, List.setIfInBounds_toArray, List.set_cons_zero, List.set_cons_succ]
        refine wpAnyX_take (i := 2) (oi := ⟨_, _, _, _, _, _⟩) (v := ?_) rfl (by kernel_rfl) (by kernel_rfl) (by kernel_rfl) (fun _ _ _ h => h) (YieldsX.val (by rfl) (fun wS hS => ?_)) ?_
        rotate_left 1
        · have d2 := (hS 2 _ rfl).1; go_simp; try rfl
        simp only [Act.put, List.setIfInBounds_toArray, List.set_cons_zero, List.set_cons_succ]
        refine wpAnyX_take (i := 3) (oi := ⟨_, _, _, _, _, _⟩) (v := .int .i64 (l + 3)) rfl (by kernel_rfl) (by kernel_rfl) (by kernel_rfl) (fun _ _ _ h => h) (YieldsX.val (by rfl) (fun wS hS => ?_)) ?_
        · go_simp; (try rfl); first | done | (unfold other; unfold Go.RowKit.wrap64; exact IntKind.wrap_i64 _) | (simp only [other, Go.RowKit.wrap64]; exact IntKind.wrap_i64 _) | (rw [IntKind.wrap_i64]; omega) | (simp only [IntKind.wrap_i64]; omega)
        simp only [Act.put, List.setIfInBounds_toArray, List.set_cons_zero, List.set_cons_succ]
        refine wpAnyX_take (i := 4) (oi := ⟨_, _, _, _, _, _⟩) (v := ?_) rfl (by kernel_rfl) (by kernel_rfl) (by kernel_rfl) (fun _ _ _ h => h) (YieldsX.val (by rfl) (fun wS hS => ?_)) ?_
        rotate_left 1
        · go_simp; try rfl
        simp only [Act.put, List.setIfInBounds_toArray, List.set_cons_zero, List.set_cons_succ]
        refine wpAnyX_take (i := 5) (oi := ⟨_, _, _, _, _, _⟩) (v := ?_) rfl (by kernel_rfl) (by kernel_rfl) (by kernel_rfl) (fun _ _ _ h => h) (YieldsX.val (by rfl) (fun wS hS => ?_)) ?_
        rotate_left 1
        · go_simp; try rfl
        simp only [Act.put, List.setIfInBounds_toArray, List.set_cons_zero, List.set_cons_succ]
        refine wpAnyX_take (i := 6) (oi := ⟨_, _, _, _, _, _⟩) (v := ?_) rfl (by kernel_rfl) (by kernel_rfl) (by kernel_rfl) (fun _ _ _ h => h) (YieldsX.val (by rfl) (fun wS hS => ?_)) ?_
        rotate_left 1
        · have d1 := (hS 1 _ rfl).1; go_simp; try rfl
        simp only [Act.put, List.setIfInBounds_toArray, List.set_cons_zero, List.set_cons_succ]
        refine wpAnyX_ready (rs := [7]) (by kernel_rfl) (by simp) (fun wmb h1 e1 => ?_)
        refine EachX.cons (o := ⟨_, _, _, _, _, _⟩) rfl (fun KK hK => ?_) EachX.nil
        go_simp
        refine (NowR.read (cl := b) TC.out.1 (Ext.trans (show Ext wkf wkf.drew from (Below.refl _ _).drew) e1)).mono ?_
        rintro e wmc ⟨y, rfl, hN, hK⟩
        have HA := Lib.hid (And.intro (hN.less (K := Kx K wx W) (fun b h => .inl h)) ((TC.out.2.trans (Keeps.below (Ext.trans (show Ext wkf wkf.drew from (Below.refl _ _).drew) e1))).trans (hK.less (K := Kx K wx W) (fun b h => .inl h))))
        clear hN hK TC e1
        refine hK.out _ _ (HBx.out.1.keeps HA.out.2 HBx.out.2) ?_
        refine wpAnyX_ready (rs := [8]) (by kernel_rfl) (by simp) (fun wmd h3 e3 => ?_)
        refine EachX.cons (o := ⟨_, _, _, _, _, _⟩) rfl (fun KK hK => ?_) EachX.nil
        go_simp
        refine (HA.out.1.set e3).mono ?_
        rintro e wme ⟨_, rfl, hN, hK⟩
        have HA2 := Lib.hid (And.intro (hN.less (K := Kx K wx W) (fun b h => .inl h)) ((HA.out.2.trans (Keeps.below e3)).trans (hK.less (K := Kx K wx W) (fun b h => .inl h))))
        clear hN hK HA e3
        refine hK.out _ _ (HBx.out.1.keeps HA2.out.2 HBx.out.2) ?_
        refine wpAnyX_done (by kernel_rfl) (fun wmf h5 e5 => ?_) _
        have TD := Lib.hid (And.intro (NowR.less (K := Kx K wx W) (HA2.out.1.grow e5) (fun b h => .inl h)) (HA2.out.2.trans (Keeps.below e5)))
        clear HA2 h5 h3 h1 e5
        have HE := Lib.hid (And.intro (NowR.less (K := K) TD.out.1 (fun b h => .inl h)) (HK.out.trans (TD.out.2.less (fun b h => .inl h))))
        clear TD
        go_wp2_with fail
        go_ret
        exact ⟨x, rfl, HE.out.1, HE.out.2⟩
end
end Go.Proofs.Ytjffgppdjdmmgaa
