/- tromp: Write, Read. Own work. -/
import Derived.Test.YtjffgppdjdmmgaaTpQ
import Derived.Test.YtjffgppdjdmmgaaFwd
namespace Go.Proofs.Ytjffgppdjdmmgaa
open Go.ChangeShapes Go.WideShapes Go.ChangeAt Go.RowKit CellM TapeM

theorem wrTp_bind (b l v : Int) (kk : Unit → Tr Int) : (wrTp b l v).bind kk = .get l fun x => if x = bitI v then kk () else (putT (b + 0) (l + 0) (bitI v)).bind fun _ => .ask ⟨1, b + 2, 0⟩ fun y => .get (l + 1) fun w => if y = w then (flipT (b + 1) (l + 1)).bind kk else kk () := by
  rw [Int.add_zero, Int.add_zero]
  show Tr.get l _ = Tr.get l _
  congr 1
  funext x
  rw [Tr.bind_ite]
  congr 1
  show Tr.ask _ (fun _ => Tr.set _ _ (Tr.ask _ _)) = Tr.ask _ (fun _ => Tr.set _ _ (Tr.ask _ _))
  congr 1
  funext _
  congr 2
  funext y
  show Tr.get _ _ = Tr.get _ _
  congr 1
  funext w
  exact Tr.bind_ite _ _ _ _
theorem rdLast_bind (b l x : Int) (kk : Int → Tr Int) : (rdLast b l x).bind kk = (lookT b l).bind fun _ => (knownT b l).bind fun u => if u then .get (l + 3) kk else (lookT b l).bind fun _ => kk x := by
  unfold rdLast
  rw [Tr.bind_assoc]
  congr 1
  funext _
  rw [Tr.bind_assoc]
  congr 1
  funext u
  rw [Tr.bind_ite]
  rfl
theorem rdTp_bind (b l : Int) (kk : Int → Tr Int) : (rdTp b l).bind kk = (knownT b l).bind fun u => if u then .get (l + 3) kk else .ask ⟨1, b, 0⟩ fun x => (knownT b l).bind fun u => if u then (rdLast b l x).bind kk else (flipT (b + 2) (l + 2)).bind fun _ => (rdLast b l x).bind kk := by
  unfold rdTp
  rw [Tr.bind_assoc]
  congr 1
  funext u
  rw [Tr.bind_ite]
  congr 1
  show Tr.ask _ _ = Tr.ask _ _
  congr 1
  funext x
  rw [Tr.bind_assoc]
  congr 1
  funext u
  rw [Tr.bind_ite, Tr.bind_assoc]
section
variable (k b l n rw rr tp : Int)
set_option maxHeartbeats 4000000 in
theorem wrTp_does (v : Int) (hn : Near b l) : Does 10 (fun p => #[p, .agg #[.int .i64 k, .int .i64 b, .int .i64 l, .int .i64 n, .int .i64 rw, .int .i64 rr, .int .i64 tp], .int .i64 v]) (wrTp b l v) (fun _ => .tuple #[]) := by
  intro C wx K kk R H
  obtain ⟨W, hW⟩ : ∃ W, W = wx.alloc (.cells #[.int .i64 k, .int .i64 b, .int .i64 l, .int .i64 n, .int .i64 rw, .int .i64 rr, .int .i64 tp] 23) := ⟨_, rfl⟩
  have hbW : Below wx.heap.size wx W := by rw [hW]; exact below_alloc _ _
  have hbox : BoxAt W wx.heap.size #[.int .i64 k, .int .i64 b, .int .i64 l, .int .i64 n, .int .i64 rw, .int .i64 rr, .int .i64 tp] := by rw [hW]; exact BoxAt.new _ _ _
  have k2 : Kx K wx W wx.heap.size := .inr ⟨Nat.le_refl _, by rw [hW]; simp⟩
  have HNr := Lib.hid hn
  obtain ⟨n1, n2, n3, n4⟩ := hn
  obtain ⟨x, hN, hG⟩ := ((H.as (wrTp_bind b l v kk)).grow hbW).get
  obtain ⟨bi, hbi⟩ : ∃ bi, bitI v = bi := ⟨_, rfl⟩
  rw [hbi] at hN
  have x2 := (hbox 2 _ rfl).1
  have x0 := (hbox 0 _ rfl).1
  have x1 := (hbox 1 _ rfl).1
  have x3 := (hbox 3 _ rfl).1
  have x4 := (hbox 4 _ rfl).1
  have x5 := (hbox 5 _ rfl).1
  have x6 := (hbox 6 _ rfl).1
  have HG := Lib.hid hG
  have HN := Lib.hid hN
  have HW := Lib.hid hW
  have HI := Lib.hid hbi
  have HBx := Lib.hid (And.intro hbox k2)
  have HK := Lib.hid (Keeps.below (K := K) hbW)
  clear hG hN hW hbox hbW H k2 hbi
  go_enter Try.func10, Try.ntmps10
  go_upto_region 1 with fail
  rw [← HW.out]
  go_wp2_with fail
  refine (bitT_is _ _ HI.out _).mono ?_; rintro e w' ⟨rfl, rfl⟩
  go_wp2_with fail
  refine (HG.out _ (Below.refl _ _)).mono ?_; rintro e w' ⟨rfl, rfl⟩
  by_cases he : x = bi
  · have z2 : (x == bi) = true := by simp [he]
    have hN := HN.out
    rw [if_pos he] at hN
    have HF := Lib.hid (hN.less (K := K) (fun b h => .inl h))
    clear HN HG hN he
    go_wp2_with fail
    first | go_end0 | refine bodyPost_ret (results_none rfl _ _ _) rfl ?_
    exact .inl ⟨(), rfl, HF.out, HK.out⟩
  · have z2 : (x == bi) = false := by simpa using he
    have hN := HN.out
    rw [if_neg he] at hN
    have HM := Lib.hid (hN.call (put_does k b l n rw rr tp 0 0 bi (by decide) (by decide) (by decide) (by decide) HNr.out) (Below.refl _ _))
    clear HN HG he hN
    go_wp2_with fail
    refine HM.out.mono ?_
    rintro e w1 (⟨_, rfl, hN, hK⟩ | ⟨rfl, hs⟩)
    · have HF := Lib.hid (And.intro (hN.less (K := Kx K wx W) (fun b h => .inl h)) (hK.less (K := Kx K wx W) (fun b h => .inl h)))
      have HB1 := Lib.hid (HBx.out.1.keeps HF.out.2 HBx.out.2)
      clear hN hK HM x0 x1 x2 x3 x4 x5 x6
      go_upto_region 4 with fail
      refine wp_region_x (S := fun w' => BoxAt w' wx.heap.size #[.int .i64 k, .int .i64 b, .int .i64 l, .int .i64 n, .int .i64 rw, .int .i64 rr, .int .i64 tp]) (by kernel_rfl) (HB1.out.grow (Below.refl _ _).drew) ?_
      refine wpAnyX_take (i := 0) (oi := ⟨_, _, _, _, _, _⟩) (v := ?_) rfl (by kernel_rfl) (by kernel_rfl) (by kernel_rfl) (fun _ _ _ h => h) (YieldsX.val (by rfl) (fun wS hS => ?_)) ?_
      rotate_left 1
      · go_simp; try rfl
      simp only [Act.put, List.setIfInBounds_toArray, List.set_cons_zero, List.set_cons_succ]
      refine wpAnyX_take (i := 1) (oi := ⟨_, _, _, _, _, _⟩) (v := ?_) rfl (by kernel_rfl) (by kernel_rfl) (by kernel_rfl) (fun _ _ _ h => h) (YieldsX.val (by rfl) (fun wS hS => ?_)) ?_
      rotate_left 1
      · go_simp; try rfl
      simp only [Act.put, List.setIfInBounds_toArray, List.set_cons_zero, List.set_cons_succ]
      refine wpAnyX_take (i := 2) (oi := ⟨_, _, _, _, _, _⟩) (v := ?_) rfl (by kernel_rfl) (by kernel_rfl) (by kernel_rfl) (fun _ _ _ h => h) (YieldsX.val (by rfl) (fun wS hS => ?_)) ?_
      rotate_left 1
      · have d1 := (hS 1 _ rfl).1; go_simp; try rfl
      simp only [Act.put, List.setIfInBounds_toArray, List.set_cons_zero, List.set_cons_succ]
      refine wpAnyX_take (i := 3) (oi := ⟨_, _, _, _, _, _⟩) (v := .int .i64 (b + 2)) rfl (by kernel_rfl) (by kernel_rfl) (by kernel_rfl) (fun _ _ _ h => h) (YieldsX.val (by rfl) (fun wS hS => ?_)) ?_
      · go_simp; (try rfl); first | done | (unfold other; unfold Go.RowKit.wrap64; exact IntKind.wrap_i64 _) | (simp only [other, Go.RowKit.wrap64]; exact IntKind.wrap_i64 _) | (rw [IntKind.wrap_i64]; omega) | (simp only [IntKind.wrap_i64]; omega)
      simp only [Act.put, List.setIfInBounds_toArray, List.set_cons_zero, List.set_cons_succ]
      refine wpAnyX_take (i := 5) (oi := ⟨_, _, _, _, _, _⟩) (v := ?_) rfl (by kernel_rfl) (by kernel_rfl) (by kernel_rfl) (fun _ _ _ h => h) (YieldsX.val (by rfl) (fun wS hS => ?_)) ?_
      rotate_left 1
      · go_simp; try rfl
      simp only [Act.put, List.setIfInBounds_toArray, List.set_cons_zero, List.set_cons_succ]
      refine wpAnyX_take (i := 6) (oi := ⟨_, _, _, _, _, _⟩) (v := ?_) rfl (by kernel_rfl) (by kernel_rfl) (by kernel_rfl) (fun _ _ _ h => h) (YieldsX.val (by rfl) (fun wS hS => ?_)) ?_
      rotate_left 1
      · go_simp; try rfl
      simp only [Act.put, List.setIfInBounds_toArray, List.set_cons_zero, List.set_cons_succ]
      refine wpAnyX_take (i := 7) (oi := ⟨_, _, _, _, _, _⟩) (v := ?_) rfl (by kernel_rfl) (by kernel_rfl) (by kernel_rfl) (fun _ _ _ h => h) (YieldsX.val (by rfl) (fun wS hS => ?_)) ?_
      rotate_left 1
      · have d2 := (hS 2 _ rfl).1; go_simp; try rfl
      simp only [Act.put, List.setIfInBounds_toArray, List.set_cons_zero, List.set_cons_succ]
      refine wpAnyX_take (i := 8) (oi := ⟨_, _, _, _, _, _⟩) (v := .int .i64 (l + 1)) rfl (by kernel_rfl) (by kernel_rfl) (by kernel_rfl) (fun _ _ _ h => h) (YieldsX.val (by rfl) (fun wS hS => ?_)) ?_
      · go_simp; (try rfl); first | done | (unfold other; unfold Go.RowKit.wrap64; exact IntKind.wrap_i64 _) | (simp only [other, Go.RowKit.wrap64]; exact IntKind.wrap_i64 _) | (rw [IntKind.wrap_i64]; omega) | (simp only [IntKind.wrap_i64]; omega)
      simp only [Act.put, List.setIfInBounds_toArray, List.set_cons_zero, List.set_cons_succ]
      refine wpAnyX_ready (rs := [4]) (by kernel_rfl) (by simp) (fun w2 h2 e2 => ?_)
      refine EachX.cons (o := ⟨_, _, _, _, _, _⟩) rfl (fun KK hK => ?_) EachX.nil
      go_simp
      refine (HF.out.1.read (cl := b + 2) (Ext.trans (show Ext w1 w1.drew from (Below.refl _ _).drew) e2)).mono ?_
      rintro e w3 (⟨y, rfl, hN, hK⟩ | ⟨rfl, hs⟩)
      · have HF2 := Lib.hid (And.intro (hN.less (K := Kx K wx W) (fun b h => .inl h)) ((HF.out.2.trans (Keeps.below (Ext.trans (show Ext w1 w1.drew from (Below.refl _ _).drew) e2))).trans (hK.less (K := Kx K wx W) (fun b h => .inl h))))
        clear hN hK HF
        refine hK.out _ _ (HBx.out.1.keeps HF2.out.2 HBx.out.2) ?_
        obtain ⟨w0, hN, hG⟩ := HF2.out.1.get
        have HG := Lib.hid hG
        have HF3 := Lib.hid (And.intro hN HF2.out.2)
        clear hN hG HF2
        refine wpAnyX_ready (rs := [9]) (by kernel_rfl) (by simp) (fun w4 h4 e4 => ?_)
        refine EachX.cons (o := ⟨_, _, _, _, _, _⟩) rfl (fun KK hK => ?_) EachX.nil
        go_simp
        refine (HG.out _ e4).mono ?_; rintro e w5 ⟨rfl, rfl⟩
        refine hK.out _ _ h4 ?_
        refine wpAnyX_take (i := 10) (oi := ⟨_, _, _, _, _, _⟩) (v := .bool (y == w0)) rfl (by kernel_rfl) (by kernel_rfl) (by kernel_rfl) (fun _ _ _ h => h) (YieldsX.val (by rfl) (fun wS hS => ?_)) ?_
        · go_simp; (try rfl); first | done | (unfold other; unfold Go.RowKit.wrap64; exact IntKind.wrap_i64 _) | (simp only [other, Go.RowKit.wrap64]; exact IntKind.wrap_i64 _) | (rw [IntKind.wrap_i64]; omega) | (simp only [IntKind.wrap_i64]; omega)
        simp only [Act.put, List.setIfInBounds_toArray, List.set_cons_zero, List.set_cons_succ]
        refine wpAnyX_done (by kernel_rfl) (fun w6 h6 e6 => ?_) _
        have d0 := (h6 0 _ rfl).1
        have d1 := (h6 1 _ rfl).1
        have d2 := (h6 2 _ rfl).1
        have d3 := (h6 3 _ rfl).1
        have d4 := (h6 4 _ rfl).1
        have d5 := (h6 5 _ rfl).1
        have d6 := (h6 6 _ rfl).1
        have HF := Lib.hid (And.intro (Now.less (K := Kx K wx W) (HF3.out.1.grow (Ext.trans e4 e6)) (fun b h => .inl h)) (HF3.out.2.trans (Keeps.below (Ext.trans e4 e6))))
        clear HF3 HG h6
        by_cases he : y = w0
        · have z3 : (y == w0) = true := by simp [he]
          have hN := HF.out.1
          rw [if_pos he] at hN
          have HM := Lib.hid (hN.call (flip_does k b l n rw rr tp 1 1 (by decide) (by decide) (by decide) (by decide) HNr.out) (Below.refl _ _))
          clear he hN
          go_wp2_with fail
          refine HM.out.mono ?_
          rintro e w7 (⟨_, rfl, hN, hK⟩ | ⟨rfl, hs⟩)
          · have HE := Lib.hid (And.intro (hN.less (K := K) (fun b h => .inl (.inl h))) (HK.out.trans ((HF.out.2.less (fun b h => .inl h)).trans (hK.less (fun b h => .inl (.inl h))))))
            clear hN hK HM HF
            go_wp2_with fail
            first | go_end0 | refine bodyPost_ret (results_none rfl _ _ _) rfl ?_
            exact .inl ⟨(), rfl, HE.out.1, HE.out.2⟩
          · exact ⟨rfl, .inr ⟨rfl, hs⟩⟩
        · have z3 : (y == w0) = false := by simpa using he
          have hN := HF.out.1
          rw [if_neg he] at hN
          have HE := Lib.hid (And.intro (hN.less (K := K) (fun b h => .inl h)) (HK.out.trans (HF.out.2.less (fun b h => .inl h))))
          clear he hN HF
          go_wp2_with fail
          first | go_end0 | refine bodyPost_ret (results_none rfl _ _ _) rfl ?_
          exact .inl ⟨(), rfl, HE.out.1, HE.out.2⟩
      · exact ⟨rfl, .inr ⟨rfl, hs⟩⟩
    · exact ⟨rfl, .inr ⟨rfl, hs⟩⟩
set_option maxHeartbeats 4000000 in
theorem rdTp_does (hn : Near b l) : Does 9 (fun p => #[p, .agg #[.int .i64 k, .int .i64 b, .int .i64 l, .int .i64 n, .int .i64 rw, .int .i64 rr, .int .i64 tp]]) (rdTp b l) (Value.int .i64) := by
  intro C wx K kk R H
  obtain ⟨W, hW⟩ : ∃ W, W = wx.alloc (.cells #[.int .i64 k, .int .i64 b, .int .i64 l, .int .i64 n, .int .i64 rw, .int .i64 rr, .int .i64 tp] 23) := ⟨_, rfl⟩
  have hbW : Below wx.heap.size wx W := by rw [hW]; exact below_alloc _ _
  have hbox : BoxAt W wx.heap.size #[.int .i64 k, .int .i64 b, .int .i64 l, .int .i64 n, .int .i64 rw, .int .i64 rr, .int .i64 tp] := by rw [hW]; exact BoxAt.new _ _ _
  have k2 : Kx K wx W wx.heap.size := .inr ⟨Nat.le_refl _, by rw [hW]; simp⟩
  have HNr := Lib.hid hn
  obtain ⟨n1, n2, n3, n4⟩ := hn
  have HF := Lib.hid (And.intro ((H.as (rdTp_bind b l kk)).grow hbW) (Keeps.refl (Kx K wx W) W))
  have HW := Lib.hid hW
  have HBx := Lib.hid (And.intro hbox k2)
  have HK := Lib.hid (Keeps.below (K := K) hbW)
  clear hW hbox hbW H k2
  go_enter Try.func9, Try.ntmps9
  go_upto_region 1 with fail
  rw [← HW.out]
  refine wp_scope_fwd 0 rfl ?_
  have HB := Lib.hid (HBx.out.1.keeps HF.out.2 HBx.out.2)
  have x0 := (HB.out 0 _ rfl).1
  have x1 := (HB.out 1 _ rfl).1
  have x2 := (HB.out 2 _ rfl).1
  have x3 := (HB.out 3 _ rfl).1
  have x4 := (HB.out 4 _ rfl).1
  have x5 := (HB.out 5 _ rfl).1
  have x6 := (HB.out 6 _ rfl).1
  have HM := Lib.hid (HF.out.1.call (known_does k b l n rw rr tp HNr.out) (Below.refl _ _))
  go_wp2_with fail
  refine HM.out.mono ?_
  rintro e w1 (⟨u, rfl, hN, hK⟩ | ⟨rfl, hs⟩)
  · have HF1 := Lib.hid (And.intro (hN.less (K := Kx K wx W) (fun b h => .inl h)) (HF.out.2.trans (hK.less (K := Kx K wx W) (fun b h => .inl h))))
    clear hN hK HM HB HF x0 x1 x2 x3 x4 x5 x6
    cases u with
    | true =>
      have HF2 := Lib.hid (And.intro (show Now C w1 (Kx K wx W) (Tr.get (l + 3) kk) R from HF1.out.1) HF1.out.2)
      clear HF1
      have HB := Lib.hid (HBx.out.1.keeps HF2.out.2 HBx.out.2)
      have x0 := (HB.out 0 _ rfl).1
      have x1 := (HB.out 1 _ rfl).1
      have x2 := (HB.out 2 _ rfl).1
      have x3 := (HB.out 3 _ rfl).1
      have x4 := (HB.out 4 _ rfl).1
      have x5 := (HB.out 5 _ rfl).1
      have x6 := (HB.out 6 _ rfl).1
      obtain ⟨z, hN, hG⟩ := HF2.out.1.get
      have HG := Lib.hid (hG _ (Below.refl _ _))
      have HF3 := Lib.hid (And.intro hN HF2.out.2)
      clear hN hG
      go_wp2_with fail
      refine (HG.out).mono ?_; rintro e w' ⟨rfl, rfl⟩
      clear HG HB HF2 x0 x1 x2 x3 x4 x5 x6
      have HE := Lib.hid (And.intro (Now.less (K := K) HF3.out.1 (fun b h => .inl h)) (HK.out.trans (HF3.out.2.less (fun b h => .inl h))))
      clear HF3
      go_wp2_with fail
      refine wp_goto ⟨rfl, ?_⟩
      unfold behind
      go_wp2_with fail
      first | (rw [jump_ret]; done) | rw [jump_ret] | skip
      go_ret
      exact .inl ⟨z, rfl, HE.out.1, HE.out.2⟩
    | false =>
      have HF2 := Lib.hid (And.intro (show Now C w1 (Kx K wx W) (Tr.ask ⟨1, b, 0⟩ fun x => (knownT b l).bind fun u => if u then (rdLast b l x).bind kk else (flipT (b + 2) (l + 2)).bind fun _ => (rdLast b l x).bind kk) R from HF1.out.1) HF1.out.2)
      clear HF1
      have HB := Lib.hid (HBx.out.1.keeps HF2.out.2 HBx.out.2)
      have x0 := (HB.out 0 _ rfl).1
      have x1 := (HB.out 1 _ rfl).1
      have x2 := (HB.out 2 _ rfl).1
      have x3 := (HB.out 3 _ rfl).1
      have x4 := (HB.out 4 _ rfl).1
      have x5 := (HB.out 5 _ rfl).1
      have x6 := (HB.out 6 _ rfl).1
      have HM := Lib.hid (HF2.out.1.read (Below.refl _ _))
      go_wp2_with fail
      refine HM.out.mono ?_
      rintro e w2 (⟨x, rfl, hN, hK⟩ | ⟨rfl, hs⟩)
      · have HF3 := Lib.hid (And.intro (hN.less (K := Kx K wx W) (fun b h => .inl h)) (HF2.out.2.trans (hK.less (K := Kx K wx W) (fun b h => .inl h))))
        clear hN hK HM HB HF2 x0 x1 x2 x3 x4 x5 x6
        have HB := Lib.hid (HBx.out.1.keeps HF3.out.2 HBx.out.2)
        have x0 := (HB.out 0 _ rfl).1
        have x1 := (HB.out 1 _ rfl).1
        have x2 := (HB.out 2 _ rfl).1
        have x3 := (HB.out 3 _ rfl).1
        have x4 := (HB.out 4 _ rfl).1
        have x5 := (HB.out 5 _ rfl).1
        have x6 := (HB.out 6 _ rfl).1
        have HM := Lib.hid (HF3.out.1.call (known_does k b l n rw rr tp HNr.out) (Below.refl _ _))
        go_wp2_with fail
        refine HM.out.mono ?_
        rintro e w3 (⟨u1, rfl, hN, hK⟩ | ⟨rfl, hs⟩)
        · have HF4 := Lib.hid (And.intro (hN.less (K := Kx K wx W) (fun b h => .inl h)) (HF3.out.2.trans (hK.less (K := Kx K wx W) (fun b h => .inl h))))
          clear hN hK HM HB HF3 x0 x1 x2 x3 x4 x5 x6
          cases u1 with
          | true =>
            have HF5 := Lib.hid (And.intro (Now.as (show Now C w3 (Kx K wx W) ((rdLast b l x).bind kk) R from HF4.out.1) (rdLast_bind b l x kk)) HF4.out.2)
            clear HF4
            have HB := Lib.hid (HBx.out.1.keeps HF5.out.2 HBx.out.2)
            have x0 := (HB.out 0 _ rfl).1
            have x1 := (HB.out 1 _ rfl).1
            have x2 := (HB.out 2 _ rfl).1
            have x3 := (HB.out 3 _ rfl).1
            have x4 := (HB.out 4 _ rfl).1
            have x5 := (HB.out 5 _ rfl).1
            have x6 := (HB.out 6 _ rfl).1
            have HM := Lib.hid (HF5.out.1.call (look_does k b l n rw rr tp HNr.out) (Below.refl _ _))
            go_wp2_with fail
            refine HM.out.mono ?_
            rintro e w5 (⟨_, rfl, hN, hK⟩ | ⟨rfl, hs⟩)
            · have TA := Lib.hid (And.intro (hN.less (K := Kx K wx W) (fun b h => .inl h)) (HF5.out.2.trans (hK.less (K := Kx K wx W) (fun b h => .inl h))))
              clear hN hK HM HB HF5 x0 x1 x2 x3 x4 x5 x6
              have HB := Lib.hid (HBx.out.1.keeps TA.out.2 HBx.out.2)
              have x0 := (HB.out 0 _ rfl).1
              have x1 := (HB.out 1 _ rfl).1
              have x2 := (HB.out 2 _ rfl).1
              have x3 := (HB.out 3 _ rfl).1
              have x4 := (HB.out 4 _ rfl).1
              have x5 := (HB.out 5 _ rfl).1
              have x6 := (HB.out 6 _ rfl).1
              have HM := Lib.hid (TA.out.1.call (known_does k b l n rw rr tp HNr.out) (Below.refl _ _))
              go_wp2_with fail
              refine HM.out.mono ?_
              rintro e w6 (⟨u2, rfl, hN, hK⟩ | ⟨rfl, hs⟩)
              · have TB := Lib.hid (And.intro (hN.less (K := Kx K wx W) (fun b h => .inl h)) (TA.out.2.trans (hK.less (K := Kx K wx W) (fun b h => .inl h))))
                clear hN hK HM HB TA x0 x1 x2 x3 x4 x5 x6
                cases u2 with
                | true =>
                  have TC := Lib.hid (And.intro (show Now C w6 (Kx K wx W) (Tr.get (l + 3) kk) R from TB.out.1) TB.out.2)
                  clear TB
                  have HB := Lib.hid (HBx.out.1.keeps TC.out.2 HBx.out.2)
                  have x0 := (HB.out 0 _ rfl).1
                  have x1 := (HB.out 1 _ rfl).1
                  have x2 := (HB.out 2 _ rfl).1
                  have x3 := (HB.out 3 _ rfl).1
                  have x4 := (HB.out 4 _ rfl).1
                  have x5 := (HB.out 5 _ rfl).1
                  have x6 := (HB.out 6 _ rfl).1
                  obtain ⟨z, hN, hG⟩ := TC.out.1.get
                  have HG := Lib.hid (hG _ (Below.refl _ _))
                  have TD := Lib.hid (And.intro hN TC.out.2)
                  clear hN hG
                  go_wp2_with fail
                  refine (HG.out).mono ?_; rintro e w' ⟨rfl, rfl⟩
                  clear HG HB TC x0 x1 x2 x3 x4 x5 x6
                  have HE := Lib.hid (And.intro (Now.less (K := K) TD.out.1 (fun b h => .inl h)) (HK.out.trans (TD.out.2.less (fun b h => .inl h))))
                  clear TD
                  go_wp2_with fail
                  refine wp_goto ⟨rfl, ?_⟩
                  unfold behind
                  go_wp2_with fail
                  first | (rw [jump_ret]; done) | rw [jump_ret] | skip
                  go_ret
                  exact .inl ⟨z, rfl, HE.out.1, HE.out.2⟩
                | false =>
                  have TC := Lib.hid (And.intro (show Now C w6 (Kx K wx W) ((lookT b l).bind fun _ => kk x) R from TB.out.1) TB.out.2)
                  clear TB
                  have HB := Lib.hid (HBx.out.1.keeps TC.out.2 HBx.out.2)
                  have x0 := (HB.out 0 _ rfl).1
                  have x1 := (HB.out 1 _ rfl).1
                  have x2 := (HB.out 2 _ rfl).1
                  have x3 := (HB.out 3 _ rfl).1
                  have x4 := (HB.out 4 _ rfl).1
                  have x5 := (HB.out 5 _ rfl).1
                  have x6 := (HB.out 6 _ rfl).1
                  have HM := Lib.hid (TC.out.1.call (look_does k b l n rw rr tp HNr.out) (Below.refl _ _))
                  go_wp2_with fail
                  refine HM.out.mono ?_
                  rintro e w7 (⟨_, rfl, hN, hK⟩ | ⟨rfl, hs⟩)
                  · have TD := Lib.hid (And.intro (hN.less (K := Kx K wx W) (fun b h => .inl h)) (TC.out.2.trans (hK.less (K := Kx K wx W) (fun b h => .inl h))))
                    clear hN hK HM HB TC x0 x1 x2 x3 x4 x5 x6
                    have HE := Lib.hid (And.intro (Now.less (K := K) TD.out.1 (fun b h => .inl h)) (HK.out.trans (TD.out.2.less (fun b h => .inl h))))
                    clear TD
                    go_wp2_with fail
                    refine wp_label ?_
                    go_wp2_with fail
                    first | (rw [jump_ret]; done) | rw [jump_ret] | skip
                    go_ret
                    exact .inl ⟨x, rfl, HE.out.1, HE.out.2⟩
                  · exact ⟨rfl, .inr ⟨rfl, hs⟩⟩
              · exact ⟨rfl, .inr ⟨rfl, hs⟩⟩
            · exact ⟨rfl, .inr ⟨rfl, hs⟩⟩
          | false =>
            have HF5 := Lib.hid (And.intro (show Now C w3 (Kx K wx W) ((flipT (b + 2) (l + 2)).bind fun _ => (rdLast b l x).bind kk) R from HF4.out.1) HF4.out.2)
            clear HF4
            have HB := Lib.hid (HBx.out.1.keeps HF5.out.2 HBx.out.2)
            have x0 := (HB.out 0 _ rfl).1
            have x1 := (HB.out 1 _ rfl).1
            have x2 := (HB.out 2 _ rfl).1
            have x3 := (HB.out 3 _ rfl).1
            have x4 := (HB.out 4 _ rfl).1
            have x5 := (HB.out 5 _ rfl).1
            have x6 := (HB.out 6 _ rfl).1
            have HM := Lib.hid (HF5.out.1.call (flip_does k b l n rw rr tp 2 2 (by decide) (by decide) (by decide) (by decide) HNr.out) (Below.refl _ _))
            go_wp2_with fail
            refine HM.out.mono ?_
            rintro e w4 (⟨_, rfl, hN, hK⟩ | ⟨rfl, hs⟩)
            · have HF6 := Lib.hid (And.intro (hN.less (K := Kx K wx W) (fun b h => .inl h)) (HF5.out.2.trans (hK.less (K := Kx K wx W) (fun b h => .inl h))))
              clear hN hK HM HB HF5 x0 x1 x2 x3 x4 x5 x6
              have HF7 := Lib.hid (And.intro (Now.as HF6.out.1 (rdLast_bind b l x kk)) HF6.out.2)
              clear HF6
              have HB := Lib.hid (HBx.out.1.keeps HF7.out.2 HBx.out.2)
              have x0 := (HB.out 0 _ rfl).1
              have x1 := (HB.out 1 _ rfl).1
              have x2 := (HB.out 2 _ rfl).1
              have x3 := (HB.out 3 _ rfl).1
              have x4 := (HB.out 4 _ rfl).1
              have x5 := (HB.out 5 _ rfl).1
              have x6 := (HB.out 6 _ rfl).1
              have HM := Lib.hid (HF7.out.1.call (look_does k b l n rw rr tp HNr.out) (Below.refl _ _))
              go_wp2_with fail
              refine HM.out.mono ?_
              rintro e w5 (⟨_, rfl, hN, hK⟩ | ⟨rfl, hs⟩)
              · have TA := Lib.hid (And.intro (hN.less (K := Kx K wx W) (fun b h => .inl h)) (HF7.out.2.trans (hK.less (K := Kx K wx W) (fun b h => .inl h))))
                clear hN hK HM HB HF7 x0 x1 x2 x3 x4 x5 x6
                have HB := Lib.hid (HBx.out.1.keeps TA.out.2 HBx.out.2)
                have x0 := (HB.out 0 _ rfl).1
                have x1 := (HB.out 1 _ rfl).1
                have x2 := (HB.out 2 _ rfl).1
                have x3 := (HB.out 3 _ rfl).1
                have x4 := (HB.out 4 _ rfl).1
                have x5 := (HB.out 5 _ rfl).1
                have x6 := (HB.out 6 _ rfl).1
                have HM := Lib.hid (TA.out.1.call (known_does k b l n rw rr tp HNr.out) (Below.refl _ _))
                go_wp2_with fail
                refine HM.out.mono ?_
                rintro e w6 (⟨u2, rfl, hN, hK⟩ | ⟨rfl, hs⟩)
                · have TB := Lib.hid (And.intro (hN.less (K := Kx K wx W) (fun b h => .inl h)) (TA.out.2.trans (hK.less (K := Kx K wx W) (fun b h => .inl h))))
                  clear hN hK HM HB TA x0 x1 x2 x3 x4 x5 x6
                  cases u2 with
                  | true =>
                    have TC := Lib.hid (And.intro (show Now C w6 (Kx K wx W) (Tr.get (l + 3) kk) R from TB.out.1) TB.out.2)
                    clear TB
                    have HB := Lib.hid (HBx.out.1.keeps TC.out.2 HBx.out.2)
                    have x0 := (HB.out 0 _ rfl).1
                    have x1 := (HB.out 1 _ rfl).1
                    have x2 := (HB.out 2 _ rfl).1
                    have x3 := (HB.out 3 _ rfl).1
                    have x4 := (HB.out 4 _ rfl).1
                    have x5 := (HB.out 5 _ rfl).1
                    have x6 := (HB.out 6 _ rfl).1
                    obtain ⟨z, hN, hG⟩ := TC.out.1.get
                    have HG := Lib.hid (hG _ (Below.refl _ _))
                    have TD := Lib.hid (And.intro hN TC.out.2)
                    clear hN hG
                    go_wp2_with fail
                    refine (HG.out).mono ?_; rintro e w' ⟨rfl, rfl⟩
                    clear HG HB TC x0 x1 x2 x3 x4 x5 x6
                    have HE := Lib.hid (And.intro (Now.less (K := K) TD.out.1 (fun b h => .inl h)) (HK.out.trans (TD.out.2.less (fun b h => .inl h))))
                    clear TD
                    go_wp2_with fail
                    refine wp_goto ⟨rfl, ?_⟩
                    unfold behind
                    go_wp2_with fail
                    first | (rw [jump_ret]; done) | rw [jump_ret] | skip
                    go_ret
                    exact .inl ⟨z, rfl, HE.out.1, HE.out.2⟩
                  | false =>
                    have TC := Lib.hid (And.intro (show Now C w6 (Kx K wx W) ((lookT b l).bind fun _ => kk x) R from TB.out.1) TB.out.2)
                    clear TB
                    have HB := Lib.hid (HBx.out.1.keeps TC.out.2 HBx.out.2)
                    have x0 := (HB.out 0 _ rfl).1
                    have x1 := (HB.out 1 _ rfl).1
                    have x2 := (HB.out 2 _ rfl).1
                    have x3 := (HB.out 3 _ rfl).1
                    have x4 := (HB.out 4 _ rfl).1
                    have x5 := (HB.out 5 _ rfl).1
                    have x6 := (HB.out 6 _ rfl).1
                    have HM := Lib.hid (TC.out.1.call (look_does k b l n rw rr tp HNr.out) (Below.refl _ _))
                    go_wp2_with fail
                    refine HM.out.mono ?_
                    rintro e w7 (⟨_, rfl, hN, hK⟩ | ⟨rfl, hs⟩)
                    · have TD := Lib.hid (And.intro (hN.less (K := Kx K wx W) (fun b h => .inl h)) (TC.out.2.trans (hK.less (K := Kx K wx W) (fun b h => .inl h))))
                      clear hN hK HM HB TC x0 x1 x2 x3 x4 x5 x6
                      have HE := Lib.hid (And.intro (Now.less (K := K) TD.out.1 (fun b h => .inl h)) (HK.out.trans (TD.out.2.less (fun b h => .inl h))))
                      clear TD
                      go_wp2_with fail
                      refine wp_label ?_
                      go_wp2_with fail
                      first | (rw [jump_ret]; done) | rw [jump_ret] | skip
                      go_ret
                      exact .inl ⟨x, rfl, HE.out.1, HE.out.2⟩
                    · exact ⟨rfl, .inr ⟨rfl, hs⟩⟩
                · exact ⟨rfl, .inr ⟨rfl, hs⟩⟩
              · exact ⟨rfl, .inr ⟨rfl, hs⟩⟩
            · exact ⟨rfl, .inr ⟨rfl, hs⟩⟩
        · exact ⟨rfl, .inr ⟨rfl, hs⟩⟩
      · exact ⟨rfl, .inr ⟨rfl, hs⟩⟩
  · exact ⟨rfl, .inr ⟨rfl, hs⟩⟩
end
end Go.Proofs.Ytjffgppdjdmmgaa
