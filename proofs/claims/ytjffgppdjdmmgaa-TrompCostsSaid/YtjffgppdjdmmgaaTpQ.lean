/- tromp: isKnown, look, flip. Own work. -/
import Derived.Test.YtjffgppdjdmmgaaTpP
import Derived.Test.YtjffgppdjdmmgaaOrd
import Derived.Deep.DeepCutAuto
namespace Go.Proofs.Ytjffgppdjdmmgaa
open Go.ChangeShapes Go.WideShapes Go.ChangeAt Go.RowKit CellM TapeM

section
variable (k b l n rw rr tp : Int)
set_option maxHeartbeats 4000000 in
theorem known_does (hn : Near b l) : Does 28 (fun p => #[p, .agg #[.int .i64 k, .int .i64 b, .int .i64 l, .int .i64 n, .int .i64 rw, .int .i64 rr, .int .i64 tp]]) (knownT b l) Value.bool := by
  intro C wx K kk R H
  obtain ⟨W, hW⟩ : ∃ W, W = wx.alloc (.cells #[.int .i64 k, .int .i64 b, .int .i64 l, .int .i64 n, .int .i64 rw, .int .i64 rr, .int .i64 tp] 23) := ⟨_, rfl⟩
  have hbW : Below wx.heap.size wx W := by rw [hW]; exact below_alloc _ _
  have hbox : BoxAt W wx.heap.size #[.int .i64 k, .int .i64 b, .int .i64 l, .int .i64 n, .int .i64 rw, .int .i64 rr, .int .i64 tp] := by rw [hW]; exact BoxAt.new _ _ _
  have k2 : Kx K wx W wx.heap.size := .inr ⟨Nat.le_refl _, by rw [hW]; simp⟩
  obtain ⟨n1, n2, n3, n4⟩ := hn
  have HN := Lib.hid (H.grow hbW)
  have HW := Lib.hid hW
  have HBx := Lib.hid (And.intro hbox k2)
  have HK := Lib.hid (Keeps.below (K := K) hbW)
  clear hW hbox hbW H k2
  go_enter Try.func28, Try.ntmps28
  go_upto_region 1 with fail
  rw [← HW.out]
  refine wp_region_x (S := fun w' => BoxAt w' wx.heap.size #[.int .i64 k, .int .i64 b, .int .i64 l, .int .i64 n, .int .i64 rw, .int .i64 rr, .int .i64 tp]) (by kernel_rfl) (HBx.out.1.grow (Below.refl _ _).drew) ?_
  refine wpAnyX_take (i := 0) (oi := ⟨_, _, _, _, _, _⟩) (v := ?_) rfl (by kernel_rfl) (by kernel_rfl) (by kernel_rfl) (fun _ _ _ h => h) (YieldsX.val (by rfl) (fun wS hS => ?_)) ?_
  rotate_left 1
  · go_simp; try rfl
  simp only [Act.put, List.setIfInBounds_toArray, List.set_cons_zero, List.set_cons_succ]
  refine wpAnyX_take (i := 1) (oi := ⟨_, _, _, _, _, _⟩) (v := ?_) rfl (by kernel_rfl) (by kernel_rfl) (by kernel_rfl) (fun _ _ _ h => h) (YieldsX.val (by rfl) (fun wS hS => ?_)) ?_
  rotate_left 1
  · go_simp; try rfl
  simp only [Act.put, List.setIfInBounds_toArray, List.set_cons_zero, List.set_cons_succ]
  refine wpAnyX_take (i := 2) (oi := ⟨_, _, _, _, _, _⟩) (v := ?_) rfl (by kernel_rfl) (by kernel_rfl) (by kernel_rfl) (fun _ _ _ h => h) (YieldsX.val (by rfl) (fun wS hS => ?_)) ?_
  rotate_left 1
  · have d1 := (hS 1 _ rfl).1; go_simp; try rfl
  simp only [Act.put, List.setIfInBounds_toArray, List.set_cons_zero, List.set_cons_succ]
  refine wpAnyX_take (i := 3) (oi := ⟨_, _, _, _, _, _⟩) (v := .int .i64 (b + 1)) rfl (by kernel_rfl) (by kernel_rfl) (by kernel_rfl) (fun _ _ _ h => h) (YieldsX.val (by rfl) (fun wS hS => ?_)) ?_
  · go_simp; (try rfl); first | done | (unfold other; unfold Go.RowKit.wrap64; exact IntKind.wrap_i64 _) | (simp only [other, Go.RowKit.wrap64]; exact IntKind.wrap_i64 _) | (rw [IntKind.wrap_i64]; omega) | (simp only [IntKind.wrap_i64]; omega)
  simp only [Act.put, List.setIfInBounds_toArray, List.set_cons_zero, List.set_cons_succ]
  refine wpAnyX_take (i := 5) (oi := ⟨_, _, _, _, _, _⟩) (v := ?_) rfl (by kernel_rfl) (by kernel_rfl) (by kernel_rfl) (fun _ _ _ h => h) (YieldsX.val (by rfl) (fun wS hS => ?_)) ?_
  rotate_left 1
  · go_simp; try rfl
  simp only [Act.put, List.setIfInBounds_toArray, List.set_cons_zero, List.set_cons_succ]
  refine wpAnyX_take (i := 6) (oi := ⟨_, _, _, _, _, _⟩) (v := ?_) rfl (by kernel_rfl) (by kernel_rfl) (by kernel_rfl) (fun _ _ _ h => h) (YieldsX.val (by rfl) (fun wS hS => ?_)) ?_
  rotate_left 1
  · go_simp; try rfl
  simp only [Act.put, List.setIfInBounds_toArray, List.set_cons_zero, List.set_cons_succ]
  refine wpAnyX_take (i := 7) (oi := ⟨_, _, _, _, _, _⟩) (v := ?_) rfl (by kernel_rfl) (by kernel_rfl) (by kernel_rfl) (fun _ _ _ h => h) (YieldsX.val (by rfl) (fun wS hS => ?_)) ?_
  rotate_left 1
  · have d2 := (hS 2 _ rfl).1; go_simp; try rfl
  simp only [Act.put, List.setIfInBounds_toArray, List.set_cons_zero, List.set_cons_succ]
  refine wpAnyX_take (i := 8) (oi := ⟨_, _, _, _, _, _⟩) (v := .int .i64 (l + 2)) rfl (by kernel_rfl) (by kernel_rfl) (by kernel_rfl) (fun _ _ _ h => h) (YieldsX.val (by rfl) (fun wS hS => ?_)) ?_
  · go_simp; (try rfl); first | done | (unfold other; unfold Go.RowKit.wrap64; exact IntKind.wrap_i64 _) | (simp only [other, Go.RowKit.wrap64]; exact IntKind.wrap_i64 _) | (rw [IntKind.wrap_i64]; omega) | (simp only [IntKind.wrap_i64]; omega)
  simp only [Act.put, List.setIfInBounds_toArray, List.set_cons_zero, List.set_cons_succ]
  refine wpAnyX_ready (rs := [4]) (by kernel_rfl) (by simp) (fun w1 h1 e1 => ?_)
  refine EachX.cons (o := ⟨_, _, _, _, _, _⟩) rfl (fun KK hK => ?_) EachX.nil
  go_simp
  refine (HN.out.read (cl := b + 1) (Ext.trans (show Ext W W.drew from (Below.refl _ _).drew) e1)).mono ?_
  rintro e w2 (⟨y, rfl, hN, hK2⟩ | ⟨rfl, hs⟩)
  · refine hK.out _ _ (h1.keeps hK2 (.inl HBx.out.2)) ?_
    obtain ⟨r, hN2, hG⟩ := hN.get
    have HG := Lib.hid hG
    have HF := Lib.hid (And.intro hN2 hK2)
    clear hN hK2 hG hN2
    refine wpAnyX_ready (rs := [9]) (by kernel_rfl) (by simp) (fun w3 h3 e3 => ?_)
    refine EachX.cons (o := ⟨_, _, _, _, _, _⟩) rfl (fun KK hK => ?_) EachX.nil
    go_simp
    refine (HG.out _ e3).mono ?_; rintro e w4 ⟨rfl, rfl⟩
    refine hK.out _ _ h3 ?_
    refine wpAnyX_take (i := 10) (oi := ⟨_, _, _, _, _, _⟩) (v := .bool (y == r)) rfl (by kernel_rfl) (by kernel_rfl) (by kernel_rfl) (fun _ _ _ h => h) (YieldsX.val (by rfl) (fun wS hS => ?_)) ?_
    · go_simp; (try rfl); first | done | (unfold other; unfold Go.RowKit.wrap64; exact IntKind.wrap_i64 _) | (simp only [other, Go.RowKit.wrap64]; exact IntKind.wrap_i64 _) | (rw [IntKind.wrap_i64]; omega) | (simp only [IntKind.wrap_i64]; omega)
    simp only [Act.put, List.setIfInBounds_toArray, List.set_cons_zero, List.set_cons_succ]
    refine wpAnyX_take (i := 11) (oi := ⟨_, _, _, _, _, _⟩) (v := ?_) rfl (by kernel_rfl) (by kernel_rfl) (by kernel_rfl) (fun _ _ _ h => h) (YieldsX.val (by rfl) (fun wS hS => ?_)) ?_
    rotate_left 1
    · go_simp; try rfl
    simp only [Act.put, List.setIfInBounds_toArray, List.set_cons_zero, List.set_cons_succ]
    refine wpAnyX_done (by kernel_rfl) (fun w5 h5 e5 => ?_) _
    have HE := Lib.hid (And.intro (Now.less (K := K) (HF.out.1.grow (Ext.trans e3 e5)) (fun b h => .inl (.inl (.inl h)))) (HK.out.trans ((Keeps.less (Keeps.below (Ext.trans (show Ext W W.drew from (Below.refl _ _).drew) e1)) (fun _ h => h)).trans ((HF.out.2.less (fun b h => .inl (.inl h))).trans (Keeps.below (Ext.trans e3 e5))))))
    clear HF HG
    go_wp2_with fail
    go_ret
    exact .inl ⟨y == r, rfl, HE.out.1, HE.out.2⟩
  · exact ⟨rfl, .inr ⟨rfl, hs⟩⟩
set_option maxHeartbeats 4000000 in
theorem look_does (hn : Near b l) : Does 32 (fun p => #[p, .agg #[.int .i64 k, .int .i64 b, .int .i64 l, .int .i64 n, .int .i64 rw, .int .i64 rr, .int .i64 tp]]) (lookT b l) (fun _ => .tuple #[]) := by
  intro C wx K kk R H
  obtain ⟨W, hW⟩ : ∃ W, W = wx.alloc (.cells #[.int .i64 k, .int .i64 b, .int .i64 l, .int .i64 n, .int .i64 rw, .int .i64 rr, .int .i64 tp] 23) := ⟨_, rfl⟩
  have hbW : Below wx.heap.size wx W := by rw [hW]; exact below_alloc _ _
  have hbox : BoxAt W wx.heap.size #[.int .i64 k, .int .i64 b, .int .i64 l, .int .i64 n, .int .i64 rw, .int .i64 rr, .int .i64 tp] := by rw [hW]; exact BoxAt.new _ _ _
  have k2 : Kx K wx W wx.heap.size := .inr ⟨Nat.le_refl _, by rw [hW]; simp⟩
  obtain ⟨n1, n2, n3, n4⟩ := hn
  have HN := Lib.hid (H.grow hbW)
  have HW := Lib.hid hW
  have HBx := Lib.hid (And.intro hbox k2)
  have HK := Lib.hid (Keeps.below (K := K) hbW)
  clear hW hbox hbW H k2
  go_enter Try.func32, Try.ntmps32
  go_upto_region 1 with fail
  rw [← HW.out]
  refine wp_region_x (S := fun w' => BoxAt w' wx.heap.size #[.int .i64 k, .int .i64 b, .int .i64 l, .int .i64 n, .int .i64 rw, .int .i64 rr, .int .i64 tp]) (by kernel_rfl) (HBx.out.1.grow (Below.refl _ _).drew) ?_
  refine wpAnyX_take (i := 0) (oi := ⟨_, _, _, _, _, _⟩) (v := ?_) rfl (by kernel_rfl) (by kernel_rfl) (by kernel_rfl) (fun _ _ _ h => h) (YieldsX.val (by rfl) (fun wS hS => ?_)) ?_
  rotate_left 1
  · go_simp; try rfl
  simp only [Act.put, List.setIfInBounds_toArray, List.set_cons_zero, List.set_cons_succ]
  refine wpAnyX_take (i := 1) (oi := ⟨_, _, _, _, _, _⟩) (v := ?_) rfl (by kernel_rfl) (by kernel_rfl) (by kernel_rfl) (fun _ _ _ h => h) (YieldsX.val (by rfl) (fun wS hS => ?_)) ?_
  rotate_left 1
  · go_simp; try rfl
  simp only [Act.put, List.setIfInBounds_toArray, List.set_cons_zero, List.set_cons_succ]
  refine wpAnyX_take (i := 2) (oi := ⟨_, _, _, _, _, _⟩) (v := ?_) rfl (by kernel_rfl) (by kernel_rfl) (by kernel_rfl) (fun _ _ _ h => h) (YieldsX.val (by rfl) (fun wS hS => ?_)) ?_
  rotate_left 1
  · have d2 := (hS 2 _ rfl).1; go_simp; try rfl
  simp only [Act.put, List.setIfInBounds_toArray, List.set_cons_zero, List.set_cons_succ]
  refine wpAnyX_take (i := 3) (oi := ⟨_, _, _, _, _, _⟩) (v := .int .i64 (l + 3)) rfl (by kernel_rfl) (by kernel_rfl) (by kernel_rfl) (fun _ _ _ h => h) (YieldsX.val (by rfl) (fun wS hS => ?_)) ?_
  · go_simp; (try rfl); first | done | (unfold other; unfold Go.RowKit.wrap64; exact IntKind.wrap_i64 _) | (simp only [other, Go.RowKit.wrap64]; exact IntKind.wrap_i64 _) | (rw [IntKind.wrap_i64]; omega) | (simp only [IntKind.wrap_i64]; omega)
  simp only [Act.put, List.setIfInBounds_toArray, List.set_cons_zero, List.set_cons_succ]
  refine wpAnyX_take (i := 4) (oi := ⟨_, _, _, _, _, _⟩) (v := ?_) rfl (by kernel_rfl) (by kernel_rfl) (by kernel_rfl) (fun _ _ _ h => h) (YieldsX.val (by rfl) (fun wS hS => ?_)) ?_
  rotate_left 1
  · go_simp; try rfl
  simp only [Act.put, List.setIfInBounds_toArray, List.set_cons_zero, List.set_cons_succ]
  refine wpAnyX_take (i := 5) (oi := ⟨_, _, _, _, _, _⟩) (v := ?_) rfl (by kernel_rfl) (by kernel_rfl) (by kernel_rfl) (fun _ _ _ h => h) (YieldsX.val (by rfl) (fun wS hS => ?_)) ?_
  rotate_left 1
  · go_simp; try rfl
  simp only [Act.put, List.setIfInBounds_toArray, List.set_cons_zero, List.set_cons_succ]
  refine wpAnyX_take (i := 6) (oi := ⟨_, _, _, _, _, _⟩) (v := ?_) rfl (by kernel_rfl) (by kernel_rfl) (by kernel_rfl) (fun _ _ _ h => h) (YieldsX.val (by rfl) (fun wS hS => ?_)) ?_
  rotate_left 1
  · have d1 := (hS 1 _ rfl).1; go_simp; try rfl
  simp only [Act.put, List.setIfInBounds_toArray, List.set_cons_zero, List.set_cons_succ]
  refine wpAnyX_take (i := 7) (oi := ⟨_, _, _, _, _, _⟩) (v := .int .i64 b) rfl (by kernel_rfl) (by kernel_rfl) (by kernel_rfl) (fun _ _ _ h => h) (YieldsX.val (by rfl) (fun wS hS => ?_)) ?_
  · go_simp; (try rfl); first | done | (unfold other; unfold Go.RowKit.wrap64; exact IntKind.wrap_i64 _) | (simp only [other, Go.RowKit.wrap64]; exact IntKind.wrap_i64 _) | (rw [IntKind.wrap_i64]; omega) | (simp only [IntKind.wrap_i64]; omega)
  simp only [Act.put, List.setIfInBounds_toArray, List.set_cons_zero, List.set_cons_succ]
  refine wpAnyX_ready (rs := [8]) (by kernel_rfl) (by simp) (fun w1 h1 e1 => ?_)
  refine EachX.cons (o := ⟨_, _, _, _, _, _⟩) rfl (fun KK hK => ?_) EachX.nil
  go_simp
  refine (HN.out.read (cl := b) (Ext.trans (show Ext W W.drew from (Below.refl _ _).drew) e1)).mono ?_
  rintro e w2 (⟨y, rfl, hN, hK2⟩ | ⟨rfl, hs⟩)
  · refine hK.out _ _ (h1.keeps hK2 (.inl HBx.out.2)) ?_
    have HF := Lib.hid (And.intro hN hK2)
    clear hN hK2
    refine wpAnyX_ready (rs := [9]) (by kernel_rfl) (by simp) (fun w3 h3 e3 => ?_)
    refine EachX.cons (o := ⟨_, _, _, _, _, _⟩) rfl (fun KK hK => ?_) EachX.nil
    go_simp
    refine (HF.out.1.set e3).mono ?_
    rintro e w4 (⟨_, rfl, hN, hK2⟩ | ⟨rfl, hs⟩)
    · refine hK.out _ _ (h3.keeps hK2 (.inl (.inl HBx.out.2))) ?_
      refine wpAnyX_done (by kernel_rfl) (fun w5 h5 e5 => ?_) _
      have HE := Lib.hid (And.intro (Now.less (K := K) (hN.grow e5) (fun b h => .inl (.inl (.inl (.inl h))))) (HK.out.trans ((Keeps.less (Keeps.below (Ext.trans (show Ext W W.drew from (Below.refl _ _).drew) e1)) (fun _ h => h)).trans ((HF.out.2.less (fun b h => .inl (.inl h))).trans ((Keeps.below e3).trans ((hK2.less (fun b h => .inl (.inl (.inl h)))).trans (Keeps.below e5)))))))
      clear HF hN hK2
      go_wp2_with fail
      go_end0
      exact .inl ⟨(), rfl, HE.out.1, HE.out.2⟩
    · exact ⟨rfl, .inr ⟨rfl, hs⟩⟩
  · exact ⟨rfl, .inr ⟨rfl, hs⟩⟩
set_option maxHeartbeats 4000000 in
theorem flip_does (c d : Int) (c0 : 0 ≤ c) (c3 : c ≤ 3) (d0 : 0 ≤ d) (d3 : d ≤ 3) (hn : Near b l) : Does 31 (fun p => #[p, .agg #[.int .i64 k, .int .i64 b, .int .i64 l, .int .i64 n, .int .i64 rw, .int .i64 rr, .int .i64 tp], .int .i64 c, .int .i64 d]) (flipT (b + c) (l + d)) (fun _ => .tuple #[]) := by
  have HP := Lib.hid (fun v => put_does k b l n rw rr tp c d v c0 c3 d0 d3 hn)
  intro C wx K kk R H
  obtain ⟨W, hW⟩ : ∃ W, W = wx.alloc (.cells #[.int .i64 k, .int .i64 b, .int .i64 l, .int .i64 n, .int .i64 rw, .int .i64 rr, .int .i64 tp] 23) := ⟨_, rfl⟩
  have hbW : Below wx.heap.size wx W := by rw [hW]; exact below_alloc _ _
  have hbox : BoxAt W wx.heap.size #[.int .i64 k, .int .i64 b, .int .i64 l, .int .i64 n, .int .i64 rw, .int .i64 rr, .int .i64 tp] := by rw [hW]; exact BoxAt.new _ _ _
  have k2 : Kx K wx W wx.heap.size := .inr ⟨Nat.le_refl _, by rw [hW]; simp⟩
  obtain ⟨n1, n2, n3, n4⟩ := hn
  obtain ⟨x, hN, hG⟩ := (Now.as (u := Tr.get (l + d) fun x => (putT (b + c) (l + d) (other x)).bind kk) H rfl |>.grow hbW).get
  have HG := Lib.hid hG
  have HN := Lib.hid (fun (wy : World) (hb : Below W.heap.size W wy) => hN.call (HP.out (other x)) hb)
  have HW := Lib.hid hW
  have HBx := Lib.hid (And.intro hbox k2)
  have HK := Lib.hid (Keeps.below (K := K) hbW)
  clear hW hbox hbW H k2 hG hN HP
  go_enter Try.func31, Try.ntmps31
  go_upto_region 1 with fail
  rw [← HW.out]
  refine wp_region_x (S := fun w' => BoxAt w' wx.heap.size #[.int .i64 k, .int .i64 b, .int .i64 l, .int .i64 n, .int .i64 rw, .int .i64 rr, .int .i64 tp]) (by kernel_rfl) (HBx.out.1.grow (Below.refl _ _).drew) ?_
  refine wpAnyX_take (i := 0) (oi := ⟨_, _, _, _, _, _⟩) (v := ?_) rfl (by kernel_rfl) (by kernel_rfl) (by kernel_rfl) (fun _ _ _ h => h) (YieldsX.val (by rfl) (fun wS hS => ?_)) ?_
  rotate_left 1
  · go_simp; try rfl
  simp only [Act.put, List.setIfInBounds_toArray, List.set_cons_zero, List.set_cons_succ]
  refine wpAnyX_take (i := 1) (oi := ⟨_, _, _, _, _, _⟩) (v := ?_) rfl (by kernel_rfl) (by kernel_rfl) (by kernel_rfl) (fun _ _ _ h => h) (YieldsX.val (by rfl) (fun wS hS => ?_)) ?_
  rotate_left 1
  · have d0 := (hS 0 _ rfl).1; have d1 := (hS 1 _ rfl).1; have d2 := (hS 2 _ rfl).1; have d3 := (hS 3 _ rfl).1; have d4 := (hS 4 _ rfl).1; have d5 := (hS 5 _ rfl).1; have d6 := (hS 6 _ rfl).1; go_simp; try rfl
  simp only [Act.put, List.setIfInBounds_toArray, List.set_cons_zero, List.set_cons_succ]
  refine wpAnyX_take (i := 2) (oi := ⟨_, _, _, _, _, _⟩) (v := ?_) rfl (by kernel_rfl) (by kernel_rfl) (by kernel_rfl) (fun _ _ _ h => h) (YieldsX.val (by rfl) (fun wS hS => ?_)) ?_
  rotate_left 1
  · go_simp; try rfl
  simp only [Act.put, List.setIfInBounds_toArray, List.set_cons_zero, List.set_cons_succ]
  refine wpAnyX_take (i := 3) (oi := ⟨_, _, _, _, _, _⟩) (v := ?_) rfl (by kernel_rfl) (by kernel_rfl) (by kernel_rfl) (fun _ _ _ h => h) (YieldsX.val (by rfl) (fun wS hS => ?_)) ?_
  rotate_left 1
  · go_simp; try rfl
  simp only [Act.put, List.setIfInBounds_toArray, List.set_cons_zero, List.set_cons_succ]
  refine wpAnyX_take (i := 4) (oi := ⟨_, _, _, _, _, _⟩) (v := ?_) rfl (by kernel_rfl) (by kernel_rfl) (by kernel_rfl) (fun _ _ _ h => h) (YieldsX.val (by rfl) (fun wS hS => ?_)) ?_
  rotate_left 1
  · go_simp; try rfl
  simp only [Act.put, List.setIfInBounds_toArray, List.set_cons_zero, List.set_cons_succ]
  refine wpAnyX_take (i := 5) (oi := ⟨_, _, _, _, _, _⟩) (v := ?_) rfl (by kernel_rfl) (by kernel_rfl) (by kernel_rfl) (fun _ _ _ h => h) (YieldsX.val (by rfl) (fun wS hS => ?_)) ?_
  rotate_left 1
  · go_simp; try rfl
  simp only [Act.put, List.setIfInBounds_toArray, List.set_cons_zero, List.set_cons_succ]
  refine wpAnyX_take (i := 6) (oi := ⟨_, _, _, _, _, _⟩) (v := ?_) rfl (by kernel_rfl) (by kernel_rfl) (by kernel_rfl) (fun _ _ _ h => h) (YieldsX.val (by rfl) (fun wS hS => ?_)) ?_
  rotate_left 1
  · have d2 := (hS 2 _ rfl).1; go_simp; try rfl
  simp only [Act.put, List.setIfInBounds_toArray, List.set_cons_zero, List.set_cons_succ]
  refine wpAnyX_take (i := 7) (oi := ⟨_, _, _, _, _, _⟩) (v := ?_) rfl (by kernel_rfl) (by kernel_rfl) (by kernel_rfl) (fun _ _ _ h => h) (YieldsX.val (by rfl) (fun wS hS => ?_)) ?_
  rotate_left 1
  · go_simp; try rfl
  simp only [Act.put, List.setIfInBounds_toArray, List.set_cons_zero, List.set_cons_succ]
  refine wpAnyX_take (i := 8) (oi := ⟨_, _, _, _, _, _⟩) (v := .int .i64 (l + d)) rfl (by kernel_rfl) (by kernel_rfl) (by kernel_rfl) (fun _ _ _ h => h) (YieldsX.val (by rfl) (fun wS hS => ?_)) ?_
  · go_simp; (try rfl); first | done | (unfold other; unfold Go.RowKit.wrap64; exact IntKind.wrap_i64 _) | (simp only [other, Go.RowKit.wrap64]; exact IntKind.wrap_i64 _) | (rw [IntKind.wrap_i64]; omega) | (simp only [IntKind.wrap_i64]; omega)
  simp only [Act.put, List.setIfInBounds_toArray, List.set_cons_zero, List.set_cons_succ]
  refine wpAnyX_ready (rs := [9]) (by kernel_rfl) (by simp) (fun w1 h1 e1 => ?_)
  refine EachX.cons (o := ⟨_, _, _, _, _, _⟩) rfl (fun KK hK => ?_) EachX.nil
  go_simp
  refine (HG.out _ (Ext.trans (show Ext W W.drew from (Below.refl _ _).drew) e1)).mono ?_; rintro e w2 ⟨rfl, rfl⟩
  refine hK.out _ _ h1 ?_
  refine wpAnyX_take (i := 10) (oi := ⟨_, _, _, _, _, _⟩) (v := .int .i64 (other x)) rfl (by kernel_rfl) (by kernel_rfl) (by kernel_rfl) (fun _ _ _ h => h) (YieldsX.val (by rfl) (fun wS hS => ?_)) ?_
  · go_simp; (try rfl); first | done | (unfold other; unfold Go.RowKit.wrap64; exact IntKind.wrap_i64 _) | (simp only [other, Go.RowKit.wrap64]; exact IntKind.wrap_i64 _) | (rw [IntKind.wrap_i64]; omega) | (simp only [IntKind.wrap_i64]; omega)
  simp only [Act.put, List.setIfInBounds_toArray, List.set_cons_zero, List.set_cons_succ]
  refine wpAnyX_ready (rs := [11]) (by kernel_rfl) (by simp) (fun w3 h3 e3 => ?_)
  refine EachX.cons (o := ⟨_, _, _, _, _, _⟩) rfl (fun KK hK => ?_) EachX.nil
  go_simp
  refine (HN.out _ (Ext.trans (show Ext W W.drew from (Below.refl _ _).drew) (e1.trans e3))).mono ?_
  rintro e w4 (⟨_, rfl, hN, hK2⟩ | ⟨rfl, hs⟩)
  · refine hK.out _ _ (h3.keeps hK2 (.inl HBx.out.2)) ?_
    refine wpAnyX_done (by kernel_rfl) (fun w5 h5 e5 => ?_) _
    have HE := Lib.hid (And.intro (Now.less (K := K) (hN.grow e5) (fun b h => .inl (.inl (.inl h)))) (HK.out.trans ((Keeps.less (Keeps.below (Ext.trans (show Ext W W.drew from (Below.refl _ _).drew) (e1.trans e3))) (fun _ h => h)).trans ((hK2.less (fun b h => .inl (.inl h))).trans (Keeps.below e5)))))
    clear hN hK2
    go_wp2_with fail
    go_end0
    exact .inl ⟨(), rfl, HE.out.1, HE.out.2⟩
  · exact ⟨rfl, .inr ⟨rfl, hs⟩⟩
end
end Go.Proofs.Ytjffgppdjdmmgaa
