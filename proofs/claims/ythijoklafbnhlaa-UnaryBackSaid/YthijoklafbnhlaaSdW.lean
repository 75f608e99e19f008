/- steady: Write. Own work. -/
import Derived.Test.YthijoklafbnhlaaSdP
import Derived.Test.YthijoklafbnhlaaOrd
import Derived.Deep.DeepCutAuto
import Derived.Laws.StructEq
namespace Go.Proofs.Ythijoklafbnhlaa
open Go.ChangeShapes Go.WideShapes Go.ChangeAt Go.RowKit CellM TapeM

/-- Two variables of accesses. -/
structure Two (W wy : World) (g1 g2 : Nat) (b x y : Int) : Prop where
  below : Below W.heap.size W wy
  l1 : W.heap.size ≤ g1
  l2 : W.heap.size ≤ g2
  a : ∀ (i : Nat) (u : Value), (#[.int .i64 2, .int .i64 b, .int .i64 x] : Array Value)[i]? = some u → Has wy ⟨g1, i, none⟩ u
  b : ∀ (i : Nat) (u : Value), (#[.int .i64 2, .int .i64 b, .int .i64 y] : Array Value)[i]? = some u → Has wy ⟨g2, i, none⟩ u
set_option maxHeartbeats 4000000 in
theorem wrSd_does (k b l n wr rd tp v : Int) : Does 46 (fun p => #[p, .agg #[.int .i64 k, .int .i64 b, .int .i64 l, .int .i64 n, .int .i64 wr, .int .i64 rd, .int .i64 tp], .int .i64 v]) (wrSd b l v) (fun _ => .tuple #[]) := by
  intro C wx K kk R H
  obtain ⟨W, hW⟩ : ∃ W, W = wx.alloc (.cells #[.int .i64 k, .int .i64 b, .int .i64 l, .int .i64 n, .int .i64 wr, .int .i64 rd, .int .i64 tp] 23) := ⟨_, rfl⟩
  have hbW : Below wx.heap.size wx W := by rw [hW]; exact below_alloc _ _
  have hbox : ∀ i u, (#[.int .i64 k, .int .i64 b, .int .i64 l, .int .i64 n, .int .i64 wr, .int .i64 rd, .int .i64 tp] : Array Value)[i]? = some u → Has W ⟨wx.heap.size, i, none⟩ u := fun i u hu => by rw [hW]; exact has_new wx _ _ i u hu
  obtain ⟨x, hN, hG⟩ := ((H.as (wrSd_bind b l v kk)).grow hbW).get
  have hc : ∀ w', Below W.heap.size W w' → ∀ i u, (#[.int .i64 k, .int .i64 b, .int .i64 l, .int .i64 n, .int .i64 wr, .int .i64 rd, .int .i64 tp] : Array Value)[i]? = some u → Has w' ⟨wx.heap.size, i, none⟩ u := fun w' hb i u hu => (hbox i u hu).below hb (hbox i u hu).lt
  have HG := Lib.hid hG
  have HN := Lib.hid hN
  have HW := Lib.hid hW
  have HC := Lib.hid hc
  have HB := Lib.hid hbW
  clear hG hN hW hc hbW hbox H
  go_enter Try.func46, Try.ntmps46
  go_upto_region 1 with fail
  rw [← HW.out]
  go_cut [6, 7] (fun s t wy => ∃ g1 g2, s = .pointer (some ⟨g1, 0, none⟩) ∧ t = .pointer (some ⟨g2, 0, none⟩) ∧ Hid (Two W wy g1 g2 b x (bitI v)))
  case first =>
    refine wp_region_x (S := fun w' => Below W.heap.size W w') (by kernel_rfl) ((Below.refl _ _).drew) ?_
    refine wpAnyX_take (i := 0) (oi := ⟨_, _, _, _, _, _⟩) (v := ?_) rfl (by kernel_rfl) (by kernel_rfl) (by kernel_rfl) (fun _ _ _ h => h) (YieldsX.val (by rfl) (fun wS hS => ?_)) ?_
    rotate_left 1
    · have d0 := (HC.out wS hS 0 _ rfl).1; have d1 := (HC.out wS hS 1 _ rfl).1; have d2 := (HC.out wS hS 2 _ rfl).1; have d3 := (HC.out wS hS 3 _ rfl).1; have d4 := (HC.out wS hS 4 _ rfl).1; have d5 := (HC.out wS hS 5 _ rfl).1; have d6 := (HC.out wS hS 6 _ rfl).1; go_simp; try rfl
    simp only [Act.put, List.setIfInBounds_toArray, List.set_cons_zero, List.set_cons_succ]
    refine wpAnyX_take (i := 1) (oi := ⟨_, _, _, _, _, _⟩) (v := ?_) rfl (by kernel_rfl) (by kernel_rfl) (by kernel_rfl) (fun _ _ _ h => h) (YieldsX.val (by rfl) (fun wS hS => ?_)) ?_
    rotate_left 1
    · go_simp; try rfl
    simp only [Act.put, List.setIfInBounds_toArray, List.set_cons_zero, List.set_cons_succ]
    refine wpAnyX_take (i := 2) (oi := ⟨_, _, _, _, _, _⟩) (v := ?_) rfl (by kernel_rfl) (by kernel_rfl) (by kernel_rfl) (fun _ _ _ h => h) (YieldsX.val (by rfl) (fun wS hS => ?_)) ?_
    rotate_left 1
    · go_simp; try rfl
    simp only [Act.put, List.setIfInBounds_toArray, List.set_cons_zero, List.set_cons_succ]
    refine wpAnyX_take (i := 3) (oi := ⟨_, _, _, _, _, _⟩) (v := ?_) rfl (by kernel_rfl) (by kernel_rfl) (by kernel_rfl) (fun _ _ _ h => h) (YieldsX.val (by rfl) (fun wS hS => ?_)) ?_
    rotate_left 1
    · have d2 := (HC.out wS hS 2 _ rfl).1; go_simp; try rfl
    simp only [Act.put, List.setIfInBounds_toArray, List.set_cons_zero, List.set_cons_succ]
    refine wpAnyX_take (i := 4) (oi := ⟨_, _, _, _, _, _⟩) (v := .int .i64 x) rfl (by kernel_rfl) (by kernel_rfl) (by kernel_rfl) (fun _ _ _ h => h) (YieldsX.call (f := 54) (args := #[.pointer (some ⟨C.mb, 0, none⟩), .int .i64 l]) (by rfl) (fun wS hS => ?_) (fun wS hS => ?_)) ?_
    · go_simp; try rfl
    · refine (HG.out wS hS).mono ?_; rintro e w2 ⟨rfl, rfl⟩; exact ⟨rfl, hS, Ext.refl _⟩
    simp only [Act.put, List.setIfInBounds_toArray, List.set_cons_zero, List.set_cons_succ]
    refine wpAnyX_take (i := 5) (oi := ⟨_, _, _, _, _, _⟩) (v := .agg #[.int .i64 2, .int .i64 b, .int .i64 x]) rfl (by kernel_rfl) (by kernel_rfl) (by kernel_rfl) (fun _ _ _ h => h) (YieldsX.call (f := 53) (args := #[.agg #[.int .i64 k, .int .i64 b, .int .i64 l, .int .i64 n, .int .i64 wr, .int .i64 rd, .int .i64 tp], .int .i64 x]) (by rfl) (fun wS hS => ?_) (fun wS hS => ?_)) ?_
    · go_simp; try rfl
    · refine (writeOf_is k b l n wr rd tp x wS).mono ?_; rintro e w2 ⟨rfl, h2⟩; exact ⟨rfl, Below.trans hS (h2.mono hS.size), h2⟩
    simp only [Act.put, List.setIfInBounds_toArray, List.set_cons_zero, List.set_cons_succ]
    refine wpAnyX_take (i := 6) (oi := ⟨_, _, _, _, _, _⟩) (v := ?_) rfl (by kernel_rfl) (by kernel_rfl) (by kernel_rfl) (fun _ _ _ h => h) (YieldsX.val (by rfl) (fun wS hS => ?_)) ?_
    rotate_left 1
    · have d0 := (HC.out wS hS 0 _ rfl).1; have d1 := (HC.out wS hS 1 _ rfl).1; have d2 := (HC.out wS hS 2 _ rfl).1; have d3 := (HC.out wS hS 3 _ rfl).1; have d4 := (HC.out wS hS 4 _ rfl).1; have d5 := (HC.out wS hS 5 _ rfl).1; have d6 := (HC.out wS hS 6 _ rfl).1; go_simp; try rfl
    simp only [Act.put, List.setIfInBounds_toArray, List.set_cons_zero, List.set_cons_succ]
    refine wpAnyX_take (i := 7) (oi := ⟨_, _, _, _, _, _⟩) (v := ?_) rfl (by kernel_rfl) (by kernel_rfl) (by kernel_rfl) (fun _ _ _ h => h) (YieldsX.val (by rfl) (fun wS hS => ?_)) ?_
    rotate_left 1
    · go_simp; try rfl
    simp only [Act.put, List.setIfInBounds_toArray, List.set_cons_zero, List.set_cons_succ]
    refine wpAnyX_take (i := 8) (oi := ⟨_, _, _, _, _, _⟩) (v := .int .i64 (bitI v)) rfl (by kernel_rfl) (by kernel_rfl) (by kernel_rfl) (fun _ _ _ h => h) (YieldsX.call (f := 55) (args := #[.int .i64 v]) (by rfl) (fun wS hS => ?_) (fun wS hS => ?_)) ?_
    · go_simp; try rfl
    · refine (bit_is v wS).mono ?_; rintro e w2 ⟨rfl, rfl⟩; exact ⟨rfl, hS, Ext.refl _⟩
    simp only [Act.put, List.setIfInBounds_toArray, List.set_cons_zero, List.set_cons_succ]
    refine wpAnyX_take (i := 9) (oi := ⟨_, _, _, _, _, _⟩) (v := .agg #[.int .i64 2, .int .i64 b, .int .i64 (bitI v)]) rfl (by kernel_rfl) (by kernel_rfl) (by kernel_rfl) (fun _ _ _ h => h) (YieldsX.call (f := 53) (args := #[.agg #[.int .i64 k, .int .i64 b, .int .i64 l, .int .i64 n, .int .i64 wr, .int .i64 rd, .int .i64 tp], .int .i64 (bitI v)]) (by rfl) (fun wS hS => ?_) (fun wS hS => ?_)) ?_
    · go_simp; try rfl
    · refine (writeOf_is k b l n wr rd tp (bitI v) wS).mono ?_; rintro e w2 ⟨rfl, h2⟩; exact ⟨rfl, Below.trans hS (h2.mono hS.size), h2⟩
    simp only [Act.put, List.setIfInBounds_toArray, List.set_cons_zero, List.set_cons_succ]
    refine wpAnyX_ready (rs := [10, 11]) (by kernel_rfl) (by simp) (fun w1 h1 _ => ?_)
    refine EachX.cons (o := ⟨_, _, _, _, _, _⟩) rfl (fun KK hK => ?_) (EachX.cons (o := ⟨_, _, _, _, _, _⟩) rfl (fun KK hK => ?_) EachX.nil)
    · go_simp
      refine hK.out _ _ (Below.alloc h1 h1.size _) ?_
      have hz : ∀ i u, (#[.int .i64 0, .int .i64 0, .int .i64 0] : Array Value)[i]? = some u → Has (w1.alloc (.cells #[.int .i64 0, .int .i64 0, .int .i64 0] 53)) ⟨w1.heap.size, i, none⟩ u := fun i u hu => has_new w1 _ _ i u hu
      refine wpAnyX_ready (rs := [11]) (by kernel_rfl) (by simp) (fun w2 h2 e2 => ?_)
      refine EachX.cons (o := ⟨_, _, _, _, _, _⟩) rfl (fun KK hK => ?_) EachX.nil
      go_simp
      refine hK.out _ _ (Below.alloc h2 h2.size _) ?_
      have hy : ∀ i u, (#[.int .i64 0, .int .i64 0, .int .i64 0] : Array Value)[i]? = some u → Has (w2.alloc (.cells #[.int .i64 0, .int .i64 0, .int .i64 0] 53)) ⟨w2.heap.size, i, none⟩ u := fun i u hu => has_new w2 _ _ i u hu
      refine wpAnyX_ready (rs := [12]) (by kernel_rfl) (by simp) (fun w3 h3 e3 => ?_)
      have ha : ∀ i u, (#[.int .i64 0, .int .i64 0, .int .i64 0] : Array Value)[i]? = some u → Has w3 ⟨w1.heap.size, i, none⟩ u := fun i u hu => (((hz i u hu).below e2 (hz i u hu).lt).alloc _).below e3 (((hz i u hu).below e2 (hz i u hu).lt).alloc _).lt
      have hb : ∀ i u, (#[.int .i64 0, .int .i64 0, .int .i64 0] : Array Value)[i]? = some u → Has w3 ⟨w2.heap.size, i, none⟩ u := fun i u hu => (hy i u hu).below e3 (hy i u hu).lt
      have hne : w1.heap.size ≠ w2.heap.size := by have := (hz 0 _ rfl).lt; have := e2.size; simp at this; omega
      have hs1 := h1.size
      have hs2 := h2.size
      have a0 := (ha 0 _ rfl).1
      have a1 := (ha 1 _ rfl).1
      have a2 := (ha 2 _ rfl).1
      have f0 := (ha 0 _ rfl).2
      have f1 := (ha 1 _ rfl).2
      have f2 := (ha 2 _ rfl).2
      refine EachX.cons (o := ⟨_, _, _, _, _, _⟩) rfl (fun KK hK => ?_) EachX.nil
      go_simp
      refine hK.out _ _ (set3_below h3 (by omega)) ?_
      have hc := fun i u hu => set3_has (a := .int .i64 2) (b := .int .i64 b) (c := .int .i64 x) (ha 0 _ rfl) (ha 1 _ rfl) (ha 2 _ rfl) i u hu
      have hd := fun i u (hu : (#[.int .i64 0, .int .i64 0, .int .i64 0] : Array Value)[i]? = some u) => set3_other (a := .int .i64 2) (b := .int .i64 b) (c := .int .i64 x) (g := w1.heap.size) (hb i u hu) (by simp only; omega)
      clear a0 a1 a2 f0 f1 f2
      refine wpAnyX_ready (rs := [13]) (by kernel_rfl) (by simp) (fun w4 h4 e4 => ?_)
      have hc4 := fun i u hu => (hc i u hu).below e4 (hc i u hu).lt
      have hd4 := fun i u hu => (hd i u hu).below e4 (hd i u hu).lt
      have a0 := (hd4 0 _ rfl).1
      have a1 := (hd4 1 _ rfl).1
      have a2 := (hd4 2 _ rfl).1
      have f0 := (hd4 0 _ rfl).2
      have f1 := (hd4 1 _ rfl).2
      have f2 := (hd4 2 _ rfl).2
      refine EachX.cons (o := ⟨_, _, _, _, _, _⟩) rfl (fun KK hK => ?_) EachX.nil
      go_simp
      refine hK.out _ _ (set3_below h4 (by omega)) ?_
      have hc5 := fun i u hu => set3_other (a := .int .i64 2) (b := .int .i64 b) (c := .int .i64 (bitI v)) (g := w2.heap.size) (hc4 i u hu) (by simp only; omega)
      have hd5 := fun i u hu => set3_has (a := .int .i64 2) (b := .int .i64 b) (c := .int .i64 (bitI v)) (hd4 0 _ rfl) (hd4 1 _ rfl) (hd4 2 _ rfl) i u hu
      refine wpAnyX_done (by kernel_rfl) (fun w5 h5 e5 => ?_) _
      have HT := Lib.hid (show Two W w5 w1.heap.size w2.heap.size b x (bitI v) from ⟨h5, by omega, by omega, fun i u hu => (hc5 i u hu).below e5 (hc5 i u hu).lt, fun i u hu => (hd5 i u hu).below e5 (hd5 i u hu).lt⟩)
      clear hc hd hc4 hd4 hc5 hd5 a0 a1 a2 f0 f1 f2 ha hb hz hy
      go_wp2_with fail
      go_meet
      exact ⟨_, _, rfl, rfl, HT⟩
    · go_simp
      refine hK.out _ _ (Below.alloc h1 h1.size _) ?_
      have hz : ∀ i u, (#[.int .i64 0, .int .i64 0, .int .i64 0] : Array Value)[i]? = some u → Has (w1.alloc (.cells #[.int .i64 0, .int .i64 0, .int .i64 0] 53)) ⟨w1.heap.size, i, none⟩ u := fun i u hu => has_new w1 _ _ i u hu
      refine wpAnyX_ready (rs := [10]) (by kernel_rfl) (by simp) (fun w2 h2 e2 => ?_)
      refine EachX.cons (o := ⟨_, _, _, _, _, _⟩) rfl (fun KK hK => ?_) EachX.nil
      go_simp
      refine hK.out _ _ (Below.alloc h2 h2.size _) ?_
      have hy : ∀ i u, (#[.int .i64 0, .int .i64 0, .int .i64 0] : Array Value)[i]? = some u → Has (w2.alloc (.cells #[.int .i64 0, .int .i64 0, .int .i64 0] 53)) ⟨w2.heap.size, i, none⟩ u := fun i u hu => has_new w2 _ _ i u hu
      refine wpAnyX_ready (rs := [12]) (by kernel_rfl) (by simp) (fun w3 h3 e3 => ?_)
      have ha : ∀ i u, (#[.int .i64 0, .int .i64 0, .int .i64 0] : Array Value)[i]? = some u → Has w3 ⟨w1.heap.size, i, none⟩ u := fun i u hu => (((hz i u hu).below e2 (hz i u hu).lt).alloc _).below e3 (((hz i u hu).below e2 (hz i u hu).lt).alloc _).lt
      have hb : ∀ i u, (#[.int .i64 0, .int .i64 0, .int .i64 0] : Array Value)[i]? = some u → Has w3 ⟨w2.heap.size, i, none⟩ u := fun i u hu => (hy i u hu).below e3 (hy i u hu).lt
      have hne : w1.heap.size ≠ w2.heap.size := by have := (hz 0 _ rfl).lt; have := e2.size; simp at this; omega
      have hs1 := h1.size
      have hs2 := h2.size
      have a0 := (hb 0 _ rfl).1
      have a1 := (hb 1 _ rfl).1
      have a2 := (hb 2 _ rfl).1
      have f0 := (hb 0 _ rfl).2
      have f1 := (hb 1 _ rfl).2
      have f2 := (hb 2 _ rfl).2
      refine EachX.cons (o := ⟨_, _, _, _, _, _⟩) rfl (fun KK hK => ?_) EachX.nil
      go_simp
      refine hK.out _ _ (set3_below h3 (by omega)) ?_
      have hc := fun i u hu => set3_has (a := .int .i64 2) (b := .int .i64 b) (c := .int .i64 x) (hb 0 _ rfl) (hb 1 _ rfl) (hb 2 _ rfl) i u hu
      have hd := fun i u (hu : (#[.int .i64 0, .int .i64 0, .int .i64 0] : Array Value)[i]? = some u) => set3_other (a := .int .i64 2) (b := .int .i64 b) (c := .int .i64 x) (g := w2.heap.size) (ha i u hu) (by simp only; omega)
      clear a0 a1 a2 f0 f1 f2
      refine wpAnyX_ready (rs := [13]) (by kernel_rfl) (by simp) (fun w4 h4 e4 => ?_)
      have hc4 := fun i u hu => (hc i u hu).below e4 (hc i u hu).lt
      have hd4 := fun i u hu => (hd i u hu).below e4 (hd i u hu).lt
      have a0 := (hd4 0 _ rfl).1
      have a1 := (hd4 1 _ rfl).1
      have a2 := (hd4 2 _ rfl).1
      have f0 := (hd4 0 _ rfl).2
      have f1 := (hd4 1 _ rfl).2
      have f2 := (hd4 2 _ rfl).2
      refine EachX.cons (o := ⟨_, _, _, _, _, _⟩) rfl (fun KK hK => ?_) EachX.nil
      go_simp
      refine hK.out _ _ (set3_below h4 (by omega)) ?_
      have hc5 := fun i u hu => set3_other (a := .int .i64 2) (b := .int .i64 b) (c := .int .i64 (bitI v)) (g := w1.heap.size) (hc4 i u hu) (by simp only; omega)
      have hd5 := fun i u hu => set3_has (a := .int .i64 2) (b := .int .i64 b) (c := .int .i64 (bitI v)) (hd4 0 _ rfl) (hd4 1 _ rfl) (hd4 2 _ rfl) i u hu
      refine wpAnyX_done (by kernel_rfl) (fun w5 h5 e5 => ?_) _
      have HT := Lib.hid (show Two W w5 w2.heap.size w1.heap.size b x (bitI v) from ⟨h5, by omega, by omega, fun i u hu => (hc5 i u hu).below e5 (hc5 i u hu).lt, fun i u hu => (hd5 i u hu).below e5 (hd5 i u hu).lt⟩)
      clear hc hd hc4 hd4 hc5 hd5 a0 a1 a2 f0 f1 f2 ha hb hz hy
      go_wp2_with fail
      go_meet
      exact ⟨_, _, rfl, rfl, HT⟩
  case rest =>
    obtain ⟨g1, g2, rfl, rfl, hT⟩ := hcut
    have HT := Lib.hid hT.out
    clear hT
    have x0 := (HT.out.a 0 _ rfl).1
    have x1 := (HT.out.a 1 _ rfl).1
    have x2 := (HT.out.a 2 _ rfl).1
    have y0 := (HT.out.b 0 _ rfl).1
    have y1 := (HT.out.b 1 _ rfl).1
    have y2 := (HT.out.b 2 _ rfl).1
    have z1 : (b == b) = true := by simp
    by_cases he : bitI v = x
    · have z2 : (bitI v == x) = true := by simp [he]
      have hN := HN.out
      rw [if_pos he.symm] at hN
      have HF := Lib.hid (And.intro ((hN.grow HT.out.below).less (K := K) (fun b h => .inl (.inl h))) (Keeps.below (K := K) (HB.out.trans (HT.out.below.mono HB.out.size))))
      have HE := Lib.hid he
      clear HN HG HC he hN
      go_wp2_with fail
      first | go_end0 | refine bodyPost_ret (results_none rfl _ _ _) rfl ?_
      exact .inl ⟨(), rfl, HF.out.1, HF.out.2⟩
    · have z2 : (bitI v == x) = false := by simpa using he
      have hN := HN.out
      rw [if_neg (fun e => he e.symm)] at hN
      have HM := Lib.hid (hN.write HT.out.below)
      have hl : Has wc ⟨wx.heap.size, 2, none⟩ (.int .i64 l) := HC.out wc HT.out.below 2 _ rfl
      clear HN HG hN
      have HE := Lib.hid he
      clear he
      go_wp2_with fail
      refine HM.out.mono ?_
      rintro e w' (⟨x, rfl, hN, hK⟩ | ⟨rfl, hs⟩)
      · have k2 : Kx (Kx K wx W) W wc wx.heap.size := .inl (.inr ⟨Nat.le_refl _, by have := HB.out.size; rw [HW.out]; simp⟩)
        have k3 : Kx (Kx K wx W) W wc g2 := .inr ⟨HT.out.l2, (HT.out.b 0 _ rfl).lt⟩
        have e1 := (hK _ _ k2 hl).1
        have e2 := (hK _ _ k3 (HT.out.b 2 _ rfl)).1
        have HM2 := Lib.hid (hN.set (Below.refl _ _))
        have HK := Lib.hid hK
        clear hK hN HM x0 x1 x2 y0 y1 y2 hl
        go_wp2_with fail
        refine HM2.out.mono ?_
        rintro e w2 (⟨x, rfl, hN, hK⟩ | ⟨rfl, hs⟩)
        · have HF := Lib.hid (And.intro (hN.less (K := K) (fun b h => .inl (.inl (.inl h)))) ((Keeps.below (K := K) (HB.out.trans (HT.out.below.mono HB.out.size))).trans ((HK.out.less (fun b h => .inl (.inl h))).trans (hK.less (fun b h => .inl (.inl (.inl h)))))))
          clear hN hK
          go_wp2_with fail
          go_end0
          exact .inl ⟨(), rfl, HF.out.1, HF.out.2⟩
        · exact ⟨rfl, .inr ⟨rfl, hs⟩⟩
      · exact ⟨rfl, .inr ⟨rfl, hs⟩⟩
end Go.Proofs.Ythijoklafbnhlaa
