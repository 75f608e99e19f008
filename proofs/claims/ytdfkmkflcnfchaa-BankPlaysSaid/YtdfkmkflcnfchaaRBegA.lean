/- The reference's Begin: what it refuses. Own work. -/
import Derived.Test.YtdfkmkflcnfchaaRTurn
import Derived.Deep.DeepCutAuto
import Derived.Deep.RegionWith
namespace Go.Proofs.Ytdfkmkflcnfchaa
open Go.ChangeShapes Go.WideShapes Go.ChangeAt Go.RowKit CellM

/-- A box of a strip, behind W1. -/
structure SBox (W1 wx : World) (sg : Nat) (m kd tp : Int) : Prop where
  below : Below W1.heap.size W1 wx
  size : W1.heap.size ≤ sg
  z0 : Has wx ⟨sg, 0, none⟩ (.int .i64 m)
  z1 : Has wx ⟨sg, 1, none⟩ (.int .i64 kd)
  z2 : Has wx ⟨sg, 2, none⟩ (.int .i64 tp)
theorem sbox_alloc {W1 w2 : World} (hb : Below W1.drew.heap.size W1.drew w2) (m kd tp : Int) (t : TypeId) : SBox W1 (w2.alloc (.cells #[.int .i64 m, .int .i64 kd, .int .i64 tp] t)) w2.heap.size m kd tp := by
  have hb2 : Below W1.heap.size W1 w2 := (Below.refl _ _).drew.trans hb
  exact ⟨hb2.alloc hb2.size _, hb2.size, has_new _ _ _ 0 _ rfl, has_new _ _ _ 1 _ rfl, has_new _ _ _ 2 _ rfl⟩
theorem zero_of {W1 w2 : World} {n : Nat} (hn : W1.heap.size = n) (hb : Below (W1.alloc (.cells #[.int .i64 0, .int .i64 0, .int .i64 0] 48)).drew.heap.size (W1.alloc (.cells #[.int .i64 0, .int .i64 0, .int .i64 0] 48)).drew w2) : SBox W1 w2 n 0 0 0 := by
  subst hn
  have h := (Zero3.start W1 48).grow ((Below.refl _ _).drew.trans hb)
  exact ⟨h.below, Nat.le_refl _, h.z0, h.z1, h.z2⟩
theorem SBox.put {W1 wx : World} {sg : Nat} {a b c : Int} (h : SBox W1 wx sg a b c) (m kd tp : Int) : SBox W1 (((wx.setCell ⟨sg, 0, none⟩ (.int .i64 m)).setCell ⟨sg, 1, none⟩ (.int .i64 kd)).setCell ⟨sg, 2, none⟩ (.int .i64 tp)) sg m kd tp := by
  have hne : ∀ i j, i ≠ j → (⟨sg, i, none⟩ : Addr) ≠ ⟨sg, j, none⟩ := fun i j hi e => hi (by simp only [Addr.mk.injEq] at e; omega)
  exact ⟨((h.below.setCell (p := ⟨sg, 0, none⟩) h.size _).setCell (p := ⟨sg, 1, none⟩) h.size _).setCell (p := ⟨sg, 2, none⟩) h.size _, h.size, (h.z0.same.other (hne 1 0 (by decide))).other (hne 2 0 (by decide)), ((h.z1.other (hne 0 1 (by decide))).same).other (hne 2 1 (by decide)), ((h.z2.other (hne 0 2 (by decide))).other (hne 1 2 (by decide))).same⟩
set_option maxRecDepth 20000 in
set_option maxHeartbeats 4000000 in
theorem beginRB_out (w : World) (rb : Nat) (SA : Option Addr) (len sc : Nat) (X : Bk) (R : Int → Rs) (i : Nat) (G : Nat → Prop) (t k cl v : Int) (H : RBAt w rb (.slice SA len sc) X.no R G) (hS : SimB X R i) (hlen : X.L.length = len) (hr : RS w SA sc X.L) (hin : inB X cl = false) :
    Calls Try.prog 10 #[.pointer (some ⟨rb, 0, none⟩), .int .i64 t, .agg #[.int .i64 k, .int .i64 cl, .int .i64 v]] w fun e w' => e = .returned (.int .i64 (errBB X t k cl)) ∧ RBNow w w' rb (.slice SA len sc) (begBB X t k cl v).no (rbeg X R t k cl v) G := by
  obtain ⟨NA, CA, nh, nc, ch, cc, rp, Gc, H0⟩ := H.tight
  clear H
  have hrb : rb < w.heap.size := H0.l.lt
  obtain ⟨W1, hW1⟩ : ∃ W1, W1 = w.alloc (.cells #[.int .i64 k, .int .i64 cl, .int .i64 v] 35) := ⟨_, rfl⟩
  have hB1 : Below w.heap.size w W1 := by rw [hW1]; exact (Below.refl _ _).alloc (Nat.le_refl _) _
  have hs1 : W1.heap.size = w.heap.size + 1 := by rw [hW1, alloc_size]
  have H1 := Lib.hid (H0.below hB1)
  have hX1 : BX w.heap.size k cl v W1 := by rw [hW1]; exact BX.new _ _ _ _ _
  have HAT := Lib.hid (fun (wx : World) (hb : Below W1.heap.size W1 wx) => atR_is wx SA sc len X.L cl hlen ((hr.below hB1).below hb) hS.good.ok)
  have HW := Lib.hid hW1
  have HS := Lib.hid hS
  have c0 := H1.out.l.1
  have x1 := hX1.c.1
  clear H0 hS hr
  have hat : atV X.L cl = .tuple #[.agg #[.int .i64 0, .int .i64 0, .int .i64 0], .bool false] := atV_none (by
    by_cases h0 : cl < 0
    · exact .inl h0
    · refine .inr ?_
      have := stripAt_iff (errS_many HS.out.good.ok) (show 0 ≤ cl by omega)
      cases e : stripAt X.L cl with
      | none => rfl
      | some s =>
        rw [e] at this
        have h9 := this.1 rfl
        simp [inB] at hin
        omega)
  rw [hat] at HAT
  have HE : Hid (errBB X t k cl = 6 ∧ (begBB X t k cl v).no = X.no ∧ rbeg X R t k cl v = R) := by
    have he : errBB X t k cl = 6 := by unfold errBB; rw [if_pos hin]
    exact Lib.hid ⟨he, by rw [begBB_bad (by rw [he]; decide)], by unfold rbeg; rw [if_pos (by rw [he]; decide)]⟩
  clear hat hin hW1
  go_enter Try.func10, Try.ntmps10
  go_wp2_with fail
  go_upto_region 1 with fail
  rw [← HW.out]
  go_cut [7, 8] (fun a o wx => o = .bool false ∧ Hid (∃ sg, a = .pointer (some ⟨sg, 0, none⟩) ∧ SBox W1 wx sg 0 0 0))
  case first =>
    go_region_with (first | (go_at_call 27; refine (HAT.out _ (by first | exact (Below.refl _ _).drew | exact bl_alloc_drew _ _)).mono ?_; rintro e w2 ⟨rfl, hb⟩; first | (have hz := zero_of hs1 hb; obtain ⟨hz0, hz1, hz2⟩ := And.intro hz.z0 (And.intro hz.z1 hz.z2); have z0 := hz0.1; have z1 := hz1.1; have z2 := hz2.1; have f0 := hz0.2; have f1 := hz1.2; have f2 := hz2.2; have F := Lib.hid (hz.put 0 0 0); clear hb hz hz0 hz1 hz2) | (have F := Lib.hid (sbox_alloc hb 0 0 0 48); clear hb)))
    all_goals
      go_wp2_with fail
      go_meet
      exact ⟨rfl, Lib.hid ⟨_, rfl, F.out⟩⟩
  case rest =>
    obtain ⟨ho, hq⟩ := hcut
    subst ho
    obtain ⟨sg, ha, hSB⟩ := hq.out
    subst ha
    clear hq
    have hBc := hSB.below
    have H2 := Lib.hid (H1.out.below hBc)
    have hX2 := hX1.below hBc
    have x2 := hX2.c.1
    have x3 := hX2.k.1
    have hBw : Below w.heap.size w wc := hB1.trans (hBc.mono (by omega))
    clear hSB
    go_wp2_with fail
    go_ret
    refine ⟨ret_int HE.out.1.symm, ?_⟩
    rw [HE.out.2.1, HE.out.2.2]
    exact ⟨H2.out.at0.mono (fun b hb => .inl hb.1), .of_below hBw⟩
set_option maxRecDepth 20000 in
set_option maxHeartbeats 4000000 in
theorem beginRB_busy (w : World) (rb : Nat) (SA : Option Addr) (len sc : Nat) (X : Bk) (R : Int → Rs) (i : Nat) (G : Nat → Prop) (t k cl v : Int) (H : RBAt w rb (.slice SA len sc) X.no R G) (hS : SimB X R i) (hlen : X.L.length = len) (hr : RS w SA sc X.L) (hin : inB X cl = true) {n : Int} (hbu : busyB X t = some n) :
    Calls Try.prog 10 #[.pointer (some ⟨rb, 0, none⟩), .int .i64 t, .agg #[.int .i64 k, .int .i64 cl, .int .i64 v]] w fun e w' => e = .returned (.int .i64 (errBB X t k cl)) ∧ RBNow w w' rb (.slice SA len sc) (begBB X t k cl v).no (rbeg X R t k cl v) G := by
  obtain ⟨NA, CA, nh, nc, ch, cc, rp, Gc, H0⟩ := H.tight
  clear H
  have hrb : rb < w.heap.size := H0.l.lt
  obtain ⟨W1, hW1⟩ : ∃ W1, W1 = w.alloc (.cells #[.int .i64 k, .int .i64 cl, .int .i64 v] 35) := ⟨_, rfl⟩
  have hB1 : Below w.heap.size w W1 := by rw [hW1]; exact (Below.refl _ _).alloc (Nat.le_refl _) _
  have hs1 : W1.heap.size = w.heap.size + 1 := by rw [hW1, alloc_size]
  have H1 := Lib.hid (H0.below hB1)
  have hX1 : BX w.heap.size k cl v W1 := by rw [hW1]; exact BX.new _ _ _ _ _
  have HAT := Lib.hid (fun (wx : World) (hb : Below W1.heap.size W1 wx) => atR_is wx SA sc len X.L cl hlen ((hr.below hB1).below hb) hS.good.ok)
  have HW := Lib.hid hW1
  have HS := Lib.hid hS
  have c0 := H1.out.l.1
  have x1 := hX1.c.1
  clear H0 hS hr
  have HE : Hid (errBB X t k cl = 12 ∧ (begBB X t k cl v).no = X.no ∧ rbeg X R t k cl v = R) := by
    have he : errBB X t k cl = 12 := by unfold errBB; rw [hin, hbu]; rfl
    exact Lib.hid ⟨he, by rw [begBB_bad (by rw [he]; decide)], by unfold rbeg; rw [if_pos (by rw [he]; decide)]⟩
  have hin2 : 0 ≤ cl ∧ cl < sumS X.L := by simpa [inB] using hin
  have hsum := (errS_ok HS.out.good.ok).2
  obtain ⟨s, hs⟩ : ∃ s, stripAt X.L cl = some s := by
    have h2 := (stripAt_iff (errS_many HS.out.good.ok) hin2.1).2 hin2.2
    cases e : stripAt X.L cl with
    | none => rw [e] at h2; cases h2
    | some s => exact ⟨s, rfl⟩
  rw [atV_some hin2.1 hs] at HAT
  have HST := Lib.hid (And.intro hs hin2)
  clear hs hin
  have hbr := HS.out.busy t
  rw [hbu] at hbr
  simp only at hbr
  have hn0 : 0 ≤ n := by have := HS.out.good.in_ n (HS.out.used hbu); simp [inB] at this; exact this.1
  obtain ⟨htt, _⟩ := busyB_some hbu
  obtain ⟨g0, g8⟩ := isT_iff htt
  have d0 : decide (0 ≤ t) = true := by simp [g0]
  have d8 : decide (t < 8) = true := by simp [g8]
  have HBR := Lib.hid hbr
  clear hbr hbu htt hW1
  go_enter Try.func10, Try.ntmps10
  go_wp2_with fail
  go_upto_region 1 with fail
  rw [← HW.out]
  go_cut [7, 8] (fun a o wx => o = .bool true ∧ Hid (∃ sg, a = .pointer (some ⟨sg, 0, none⟩) ∧ SBox W1 wx sg 1 s.kind s.top))
  case first =>
    go_region_with (first | (go_at_call 27; refine (HAT.out _ (by first | exact (Below.refl _ _).drew | exact bl_alloc_drew _ _)).mono ?_; rintro e w2 ⟨rfl, hb⟩; first | (have hz := zero_of hs1 hb; obtain ⟨hz0, hz1, hz2⟩ := And.intro hz.z0 (And.intro hz.z1 hz.z2); have z0 := hz0.1; have z1 := hz1.1; have z2 := hz2.1; have f0 := hz0.2; have f1 := hz1.2; have f2 := hz2.2; have F := Lib.hid (hz.put 1 s.kind s.top); clear hb hz hz0 hz1 hz2) | (have F := Lib.hid (sbox_alloc hb 1 s.kind s.top 48); clear hb)))
    all_goals
      go_wp2_with fail
      go_meet
      exact ⟨rfl, Lib.hid ⟨_, rfl, F.out⟩⟩
  case rest =>
    obtain ⟨ho, hq⟩ := hcut
    subst ho
    obtain ⟨sg, ha, hSB⟩ := hq.out
    subst ha
    clear hq
    have hBc := hSB.below
    have H2 := Lib.hid (H1.out.below hBc)
    have hX2 := hX1.below hBc
    have x2 := hX2.c.1
    have x3 := hX2.k.1
    have hBw : Below w.heap.size w wc := hB1.trans (hBc.mono (by omega))
    have HBC := Lib.hid (busyRB_is H2.out t)
    rw [HBR.out] at HBC
    clear hSB
    go_wp2_with fail
    refine HBC.out.mono ?_; rintro e wz ⟨rfl, hwz⟩
    subst hwz
    have dn : decide (0 ≤ n) = true := by simp [hn0]
    go_wp2_with fail
    go_ret
    refine ⟨ret_int HE.out.1.symm, ?_⟩
    rw [HE.out.2.1, HE.out.2.2]
    exact ⟨H2.out.at0.mono (fun b hb => .inl hb.1), .of_below hBw⟩
set_option maxRecDepth 20000 in
set_option maxHeartbeats 4000000 in
theorem beginRB_argT (w : World) (rb : Nat) (SA : Option Addr) (len sc : Nat) (X : Bk) (R : Int → Rs) (i : Nat) (G : Nat → Prop) (t k cl v : Int) (H : RBAt w rb (.slice SA len sc) X.no R G) (hS : SimB X R i) (hlen : X.L.length = len) (hr : RS w SA sc X.L) (hin : inB X cl = true) (hbu : busyB X t = none) (hee : errB (X.c cl) t k = 1) (ht : ¬ (0 ≤ t ∧ t < 8)) :
    Calls Try.prog 10 #[.pointer (some ⟨rb, 0, none⟩), .int .i64 t, .agg #[.int .i64 k, .int .i64 cl, .int .i64 v]] w fun e w' => e = .returned (.int .i64 (errBB X t k cl)) ∧ RBNow w w' rb (.slice SA len sc) (begBB X t k cl v).no (rbeg X R t k cl v) G := by
  obtain ⟨NA, CA, nh, nc, ch, cc, rp, Gc, H0⟩ := H.tight
  clear H
  have hrb : rb < w.heap.size := H0.l.lt
  obtain ⟨W1, hW1⟩ : ∃ W1, W1 = w.alloc (.cells #[.int .i64 k, .int .i64 cl, .int .i64 v] 35) := ⟨_, rfl⟩
  have hB1 : Below w.heap.size w W1 := by rw [hW1]; exact (Below.refl _ _).alloc (Nat.le_refl _) _
  have hs1 : W1.heap.size = w.heap.size + 1 := by rw [hW1, alloc_size]
  have H1 := Lib.hid (H0.below hB1)
  have hX1 : BX w.heap.size k cl v W1 := by rw [hW1]; exact BX.new _ _ _ _ _
  have HAT := Lib.hid (fun (wx : World) (hb : Below W1.heap.size W1 wx) => atR_is wx SA sc len X.L cl hlen ((hr.below hB1).below hb) hS.good.ok)
  have HW := Lib.hid hW1
  have HS := Lib.hid hS
  have c0 := H1.out.l.1
  have x1 := hX1.c.1
  clear H0 hS hr
  have HE : Hid (errBB X t k cl = 1 ∧ (begBB X t k cl v).no = X.no ∧ rbeg X R t k cl v = R) := by
    have he : errBB X t k cl = 1 := by unfold errBB; rw [hin, hbu]; simp only [Bool.true_eq_false, if_false, Option.isSome_none, Bool.false_eq_true]; exact hee
    exact Lib.hid ⟨he, by rw [begBB_bad (by rw [he]; decide)], by unfold rbeg; rw [if_pos (by rw [he]; decide)]⟩
  have hin2 : 0 ≤ cl ∧ cl < sumS X.L := by simpa [inB] using hin
  have hsum := (errS_ok HS.out.good.ok).2
  obtain ⟨s, hs⟩ : ∃ s, stripAt X.L cl = some s := by
    have h2 := (stripAt_iff (errS_many HS.out.good.ok) hin2.1).2 hin2.2
    cases e : stripAt X.L cl with
    | none => rw [e] at h2; cases h2
    | some s => exact ⟨s, rfl⟩
  rw [atV_some hin2.1 hs] at HAT
  have HST := Lib.hid (And.intro hs hin2)
  clear hs hin
  clear hee hbu hW1
  by_cases g0 : t < 0
  · have d0 : decide (0 ≤ t) = false := by simp; omega
    have d1 : decide (t < 0) = true := by simp [g0]
    go_enter Try.func10, Try.ntmps10
    go_wp2_with fail
    go_upto_region 1 with fail
    rw [← HW.out]
    go_cut [7, 8] (fun a o wx => o = .bool true ∧ Hid (∃ sg, a = .pointer (some ⟨sg, 0, none⟩) ∧ SBox W1 wx sg 1 s.kind s.top))
    case first =>
      go_region_with (first | (go_at_call 27; refine (HAT.out _ (by first | exact (Below.refl _ _).drew | exact bl_alloc_drew _ _)).mono ?_; rintro e w2 ⟨rfl, hb⟩; first | (have hz := zero_of hs1 hb; obtain ⟨hz0, hz1, hz2⟩ := And.intro hz.z0 (And.intro hz.z1 hz.z2); have z0 := hz0.1; have z1 := hz1.1; have z2 := hz2.1; have f0 := hz0.2; have f1 := hz1.2; have f2 := hz2.2; have F := Lib.hid (hz.put 1 s.kind s.top); clear hb hz hz0 hz1 hz2) | (have F := Lib.hid (sbox_alloc hb 1 s.kind s.top 48); clear hb)))
      all_goals
        go_wp2_with fail
        go_meet
        exact ⟨rfl, Lib.hid ⟨_, rfl, F.out⟩⟩
    case rest =>
      obtain ⟨ho, hq⟩ := hcut
      subst ho
      obtain ⟨sg, ha, hSB⟩ := hq.out
      subst ha
      clear hq
      have hBc := hSB.below
      have H2 := Lib.hid (H1.out.below hBc)
      have hX2 := hX1.below hBc
      have x2 := hX2.c.1
      have x3 := hX2.k.1
      have hBw : Below w.heap.size w wc := hB1.trans (hBc.mono (by omega))
      clear hSB
      go_wp2_with fail
      go_ret
      refine ⟨ret_int HE.out.1.symm, ?_⟩
      rw [HE.out.2.1, HE.out.2.2]
      exact ⟨H2.out.at0.mono (fun b hb => .inl hb.1), .of_below hBw⟩
  · have d0 : decide (0 ≤ t) = true := by simp; omega
    have g8 : ¬ t < 8 := fun h => ht ⟨by omega, h⟩
    have d8 : decide (t < 8) = false := by simp; omega
    have d1 : decide (t < 0) = false := by simp; omega
    have d7 : decide (7 < t) = true := by simp; omega
    go_enter Try.func10, Try.ntmps10
    go_wp2_with fail
    go_upto_region 1 with fail
    rw [← HW.out]
    go_cut [7, 8] (fun a o wx => o = .bool true ∧ Hid (∃ sg, a = .pointer (some ⟨sg, 0, none⟩) ∧ SBox W1 wx sg 1 s.kind s.top))
    case first =>
      go_region_with (first | (go_at_call 27; refine (HAT.out _ (by first | exact (Below.refl _ _).drew | exact bl_alloc_drew _ _)).mono ?_; rintro e w2 ⟨rfl, hb⟩; first | (have hz := zero_of hs1 hb; obtain ⟨hz0, hz1, hz2⟩ := And.intro hz.z0 (And.intro hz.z1 hz.z2); have z0 := hz0.1; have z1 := hz1.1; have z2 := hz2.1; have f0 := hz0.2; have f1 := hz1.2; have f2 := hz2.2; have F := Lib.hid (hz.put 1 s.kind s.top); clear hb hz hz0 hz1 hz2) | (have F := Lib.hid (sbox_alloc hb 1 s.kind s.top 48); clear hb)))
      all_goals
        go_wp2_with fail
        go_meet
        exact ⟨rfl, Lib.hid ⟨_, rfl, F.out⟩⟩
    case rest =>
      obtain ⟨ho, hq⟩ := hcut
      subst ho
      obtain ⟨sg, ha, hSB⟩ := hq.out
      subst ha
      clear hq
      have hBc := hSB.below
      have H2 := Lib.hid (H1.out.below hBc)
      have hX2 := hX1.below hBc
      have x2 := hX2.c.1
      have x3 := hX2.k.1
      have hBw : Below w.heap.size w wc := hB1.trans (hBc.mono (by omega))
      clear hSB
      go_wp2_with fail
      go_ret
      refine ⟨ret_int HE.out.1.symm, ?_⟩
      rw [HE.out.2.1, HE.out.2.2]
      exact ⟨H2.out.at0.mono (fun b hb => .inl hb.1), .of_below hBw⟩
set_option maxRecDepth 20000 in
set_option maxHeartbeats 4000000 in
theorem beginRB_argK (w : World) (rb : Nat) (SA : Option Addr) (len sc : Nat) (X : Bk) (R : Int → Rs) (i : Nat) (G : Nat → Prop) (t k cl v : Int) (H : RBAt w rb (.slice SA len sc) X.no R G) (hS : SimB X R i) (hlen : X.L.length = len) (hr : RS w SA sc X.L) (hin : inB X cl = true) (hbu : busyB X t = none) (hee : errB (X.c cl) t k = 1) (ht : 0 ≤ t ∧ t < 8) (hk : k < 1 ∨ 2 < k) :
    Calls Try.prog 10 #[.pointer (some ⟨rb, 0, none⟩), .int .i64 t, .agg #[.int .i64 k, .int .i64 cl, .int .i64 v]] w fun e w' => e = .returned (.int .i64 (errBB X t k cl)) ∧ RBNow w w' rb (.slice SA len sc) (begBB X t k cl v).no (rbeg X R t k cl v) G := by
  obtain ⟨NA, CA, nh, nc, ch, cc, rp, Gc, H0⟩ := H.tight
  clear H
  have hrb : rb < w.heap.size := H0.l.lt
  obtain ⟨W1, hW1⟩ : ∃ W1, W1 = w.alloc (.cells #[.int .i64 k, .int .i64 cl, .int .i64 v] 35) := ⟨_, rfl⟩
  have hB1 : Below w.heap.size w W1 := by rw [hW1]; exact (Below.refl _ _).alloc (Nat.le_refl _) _
  have hs1 : W1.heap.size = w.heap.size + 1 := by rw [hW1, alloc_size]
  have H1 := Lib.hid (H0.below hB1)
  have hX1 : BX w.heap.size k cl v W1 := by rw [hW1]; exact BX.new _ _ _ _ _
  have HAT := Lib.hid (fun (wx : World) (hb : Below W1.heap.size W1 wx) => atR_is wx SA sc len X.L cl hlen ((hr.below hB1).below hb) hS.good.ok)
  have HW := Lib.hid hW1
  have HS := Lib.hid hS
  have c0 := H1.out.l.1
  have x1 := hX1.c.1
  clear H0 hS hr
  have HE : Hid (errBB X t k cl = 1 ∧ (begBB X t k cl v).no = X.no ∧ rbeg X R t k cl v = R) := by
    have he : errBB X t k cl = 1 := by unfold errBB; rw [hin, hbu]; simp only [Bool.true_eq_false, if_false, Option.isSome_none, Bool.false_eq_true]; exact hee
    exact Lib.hid ⟨he, by rw [begBB_bad (by rw [he]; decide)], by unfold rbeg; rw [if_pos (by rw [he]; decide)]⟩
  have hin2 : 0 ≤ cl ∧ cl < sumS X.L := by simpa [inB] using hin
  have hsum := (errS_ok HS.out.good.ok).2
  obtain ⟨s, hs⟩ : ∃ s, stripAt X.L cl = some s := by
    have h2 := (stripAt_iff (errS_many HS.out.good.ok) hin2.1).2 hin2.2
    cases e : stripAt X.L cl with
    | none => rw [e] at h2; cases h2
    | some s => exact ⟨s, rfl⟩
  rw [atV_some hin2.1 hs] at HAT
  have HST := Lib.hid (And.intro hs hin2)
  clear hs hin
  have hbr := HS.out.busy t
  rw [hbu] at hbr
  simp only at hbr
  have d0 : decide (0 ≤ t) = true := by simp [ht.1]
  have d8 : decide (t < 8) = true := by simp [ht.2]
  have d1 : decide (t < 0) = false := by simp; omega
  have d7 : decide (7 < t) = false := by simp; omega
  have HBR := Lib.hid hbr
  clear hbr hbu hee hW1
  by_cases g0 : k < 1
  · have k1 : decide (k < 1) = true := by simp [g0]
    go_enter Try.func10, Try.ntmps10
    go_wp2_with fail
    go_upto_region 1 with fail
    rw [← HW.out]
    go_cut [7, 8] (fun a o wx => o = .bool true ∧ Hid (∃ sg, a = .pointer (some ⟨sg, 0, none⟩) ∧ SBox W1 wx sg 1 s.kind s.top))
    case first =>
      go_region_with (first | (go_at_call 27; refine (HAT.out _ (by first | exact (Below.refl _ _).drew | exact bl_alloc_drew _ _)).mono ?_; rintro e w2 ⟨rfl, hb⟩; first | (have hz := zero_of hs1 hb; obtain ⟨hz0, hz1, hz2⟩ := And.intro hz.z0 (And.intro hz.z1 hz.z2); have z0 := hz0.1; have z1 := hz1.1; have z2 := hz2.1; have f0 := hz0.2; have f1 := hz1.2; have f2 := hz2.2; have F := Lib.hid (hz.put 1 s.kind s.top); clear hb hz hz0 hz1 hz2) | (have F := Lib.hid (sbox_alloc hb 1 s.kind s.top 48); clear hb)))
      all_goals
        go_wp2_with fail
        go_meet
        exact ⟨rfl, Lib.hid ⟨_, rfl, F.out⟩⟩
    case rest =>
      obtain ⟨ho, hq⟩ := hcut
      subst ho
      obtain ⟨sg, ha, hSB⟩ := hq.out
      subst ha
      clear hq
      have hBc := hSB.below
      have H2 := Lib.hid (H1.out.below hBc)
      have hX2 := hX1.below hBc
      have x2 := hX2.c.1
      have x3 := hX2.k.1
      have hBw : Below w.heap.size w wc := hB1.trans (hBc.mono (by omega))
      have HBC := Lib.hid (busyRB_is H2.out t)
      rw [HBR.out] at HBC
      clear hSB
      go_wp2_with fail
      refine HBC.out.mono ?_; rintro e wz ⟨rfl, hwz⟩
      subst hwz
      go_wp2_with fail
      go_ret
      refine ⟨ret_int HE.out.1.symm, ?_⟩
      rw [HE.out.2.1, HE.out.2.2]
      exact ⟨H2.out.at0.mono (fun b hb => .inl hb.1), .of_below hBw⟩
  · have k1 : decide (k < 1) = false := by simp; omega
    have k2 : decide (2 < k) = true := by simp; omega
    go_enter Try.func10, Try.ntmps10
    go_wp2_with fail
    go_upto_region 1 with fail
    rw [← HW.out]
    go_cut [7, 8] (fun a o wx => o = .bool true ∧ Hid (∃ sg, a = .pointer (some ⟨sg, 0, none⟩) ∧ SBox W1 wx sg 1 s.kind s.top))
    case first =>
      go_region_with (first | (go_at_call 27; refine (HAT.out _ (by first | exact (Below.refl _ _).drew | exact bl_alloc_drew _ _)).mono ?_; rintro e w2 ⟨rfl, hb⟩; first | (have hz := zero_of hs1 hb; obtain ⟨hz0, hz1, hz2⟩ := And.intro hz.z0 (And.intro hz.z1 hz.z2); have z0 := hz0.1; have z1 := hz1.1; have z2 := hz2.1; have f0 := hz0.2; have f1 := hz1.2; have f2 := hz2.2; have F := Lib.hid (hz.put 1 s.kind s.top); clear hb hz hz0 hz1 hz2) | (have F := Lib.hid (sbox_alloc hb 1 s.kind s.top 48); clear hb)))
      all_goals
        go_wp2_with fail
        go_meet
        exact ⟨rfl, Lib.hid ⟨_, rfl, F.out⟩⟩
    case rest =>
      obtain ⟨ho, hq⟩ := hcut
      subst ho
      obtain ⟨sg, ha, hSB⟩ := hq.out
      subst ha
      clear hq
      have hBc := hSB.below
      have H2 := Lib.hid (H1.out.below hBc)
      have hX2 := hX1.below hBc
      have x2 := hX2.c.1
      have x3 := hX2.k.1
      have hBw : Below w.heap.size w wc := hB1.trans (hBc.mono (by omega))
      have HBC := Lib.hid (busyRB_is H2.out t)
      rw [HBR.out] at HBC
      clear hSB
      go_wp2_with fail
      refine HBC.out.mono ?_; rintro e wz ⟨rfl, hwz⟩
      subst hwz
      go_wp2_with fail
      go_ret
      refine ⟨ret_int HE.out.1.symm, ?_⟩
      rw [HE.out.2.1, HE.out.2.2]
      exact ⟨H2.out.at0.mono (fun b hb => .inl hb.1), .of_below hBw⟩
end Go.Proofs.Ytdfkmkflcnfchaa
