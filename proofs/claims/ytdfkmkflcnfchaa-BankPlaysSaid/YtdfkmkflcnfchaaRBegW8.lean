/- The reference's Begin, walked. Own work. -/
import Derived.Test.YtdfkmkflcnfchaaRBeg8
import Derived.Deep.RegionHeldLaw
namespace Go.Proofs.Ytdfkmkflcnfchaa
open Go.ChangeShapes Go.WideShapes Go.ChangeAt Go.RowKit CellM

theorem cells_new (w : World) (e : Ev) (t : TypeId) (j : Nat) (u : Value) (hj : (cellsE e)[j]? = some u) : (w.alloc (.cells #[.int .i64 e.t, .int .i64 e.k, .int .i64 e.c, .int .i64 e.v, .int .i64 e.f, .int .i64 e.o, .int .i64 e.w] t)).cell? ((⟨w.heap.size, 0, none⟩ : Addr).add j) = some u := by
  have : (⟨w.heap.size, 0, none⟩ : Addr).add j = ⟨w.heap.size, j, none⟩ := by unfold Addr.add; split <;> simp_all
  rw [this]
  exact (has_new w #[.int .i64 e.t, .int .i64 e.k, .int .i64 e.c, .int .i64 e.v, .int .i64 e.f, .int .i64 e.o, .int .i64 e.w] t j u (by simpa [cellsE] using hj)).1
theorem fin_push {w w7 wk w' : World} {rc : Nat} {r : Rs} {A : Option Addr} {h c : Nat} {G : Nat → Prop} (hS : Step G w w7) (hb : Below w7.heap.size w7 wk) (hR : RAt w' rc r A h c (More wk G)) (hs : Step G wk w') : RNow w w' rc r G := by
  have h1 := hS.trans (.of_below hb)
  exact ⟨⟨A, h, c, hR.mono (fun b hg => by
    rcases hg with hg | hg
    · exact .inl hg
    · exact .inr (Nat.le_trans h1.kept.size hg))⟩, h1.trans hs⟩
/-- The cells that the last statement reads, the list's own apart. -/
def Five (rc bx : Nat) (k cl v n u : Int) (wx : World) : Prop :=
  wx.cell? ⟨bx, 0, none⟩ = some (.int .i64 k) ∧ wx.cell? ⟨bx, 1, none⟩ = some (.int .i64 cl) ∧ wx.cell? ⟨bx, 2, none⟩ = some (.int .i64 v) ∧ wx.cell? ⟨rc, 3, none⟩ = some (.int .i64 n) ∧ wx.cell? ⟨rc, 2, none⟩ = some (.int .i64 u)
theorem five_keep {w w' : World} {rc bx h c : Nat} {k cl v n u : Int} (h0 : Has w ⟨bx, 0, none⟩ (.int .i64 k)) (h1 : Has w ⟨bx, 1, none⟩ (.int .i64 cl)) (h2 : Has w ⟨bx, 2, none⟩ (.int .i64 v)) (h3 : Has w ⟨rc, 3, none⟩ (.int .i64 n)) (h4 : Has w ⟨rc, 2, none⟩ (.int .i64 u))
    (hb : bx ≠ rc) (hh : c ≠ 0 → h ≠ rc ∧ h ≠ bx) (hk : Kept (fun p => p = ⟨rc, 4, none⟩ ∨ (c ≠ 0 ∧ p.block = h)) w w') : Five rc bx k cl v n u w' := by
  have hbx : ∀ i, ¬ ((⟨bx, i, none⟩ : Addr) = ⟨rc, 4, none⟩ ∨ (c ≠ 0 ∧ (⟨bx, i, none⟩ : Addr).block = h)) := fun i hh2 => by
    rcases hh2 with e | ⟨e1, e2⟩
    · exact hb (by simp only [Addr.mk.injEq] at e; exact e.1)
    · exact (hh e1).2 e2.symm
  have hrc : ∀ i, i ≠ 4 → ¬ ((⟨rc, i, none⟩ : Addr) = ⟨rc, 4, none⟩ ∨ (c ≠ 0 ∧ (⟨rc, i, none⟩ : Addr).block = h)) := fun i hi hh2 => by
    rcases hh2 with e | ⟨e1, e2⟩
    · exact hi (by simp only [Addr.mk.injEq] at e; omega)
    · exact (hh e1).1 e2.symm
  exact ⟨(hk.has _ _ h0 (hbx 0)).1, (hk.has _ _ h1 (hbx 1)).1, (hk.has _ _ h2 (hbx 2)).1, (hk.has _ _ h3 (hrc 3 (by decide))).1, (hk.has _ _ h4 (hrc 2 (by decide))).1⟩
theorem begr_bad {r : Rs} {t k c v : Int} (h : errBr r t k ≠ 0) : begr r t k c v = r := by unfold begr; rw [if_pos h]
set_option maxHeartbeats 4000000 in
set_option maxRecDepth 20000 in
theorem beginR_is (w : World) (rc : Nat) (r : Rs) (A : Option Addr) (h c : Nat) (G : Nat → Prop) (t k cl v : Int) (H : RAt w rc r A h c G) (hl : r.L.length ≤ 100) (hn : 0 ≤ r.now ∧ r.now ≤ 1000) :
    Calls Try.prog 28 #[.pointer (some ⟨rc, 0, none⟩), .int .i64 t, .agg #[.int .i64 k, .int .i64 cl, .int .i64 v]] w fun e w' => e = .returned (.int .i64 (errBr r t k)) ∧ RNow w w' rc (begr r t k cl v) G := by
  have hrc := H.lt
  by_cases hbad : t < 0 ∨ 7 < t ∨ k < 1 ∨ 2 < k
  · have he : errBr r t k = 1 := by unfold errBr; rw [if_pos hbad]
    have HE := Lib.hid (And.intro he (begr_bad (c := cl) (v := v) (show errBr r t k ≠ 0 by rw [he]; decide)))
    have HH := Lib.hid H
    clear H he
    have d1 : decide (t < 0) = true ∨ (decide (t < 0) = false ∧ decide (7 < t) = true) ∨ (decide (t < 0) = false ∧ decide (7 < t) = false ∧ decide (k < 1) = true) ∨ (decide (t < 0) = false ∧ decide (7 < t) = false ∧ decide (k < 1) = false ∧ decide (2 < k) = true) := by simp; omega
    clear hbad
    rcases d1 with d1 | ⟨d1, d2⟩ | ⟨d1, d2, d3⟩ | ⟨d1, d2, d3, d4⟩
    all_goals
      go_enter Try.func28, Try.ntmps28
      go_wp2_with fail
      go_ret
      exact ⟨ret_int HE.out.1.symm, by rw [HE.out.2]; exact RNow.of HH.out ((Below.refl _ _).alloc (Nat.le_refl _) _)⟩
  · have d1 : decide (t < 0) = false := by simp; omega
    have d2 : decide (7 < t) = false := by simp; omega
    have d3 : decide (k < 1) = false := by simp; omega
    have d4 : decide (2 < k) = false := by simp; omega
    by_cases hf : 0 ≤ findA r.L t
    · have he : errBr r t k = 12 := by unfold errBr; rw [if_neg hbad, if_pos hf]
      have HE := Lib.hid (And.intro he (begr_bad (c := cl) (v := v) (show errBr r t k ≠ 0 by rw [he]; decide)))
      have d5 : decide (0 ≤ findA r.L t) = true := by simp [hf]
      have HB := Lib.hid (H.below ((Below.refl _ _).alloc (Nat.le_refl _) (.cells #[.int .i64 k, .int .i64 cl, .int .i64 v] 35)))
      have HH := Lib.hid H
      clear H he hbad
      go_enter Try.func28, Try.ntmps28
      go_wp2_with fail
      refine (find_is _ _ _ _ _ _ _ _ HB.out).mono ?_; rintro e w' ⟨rfl, rfl⟩
      go_wp2_with fail
      go_ret
      exact ⟨ret_int HE.out.1.symm, by rw [HE.out.2]; exact RNow.of HH.out ((Below.refl _ _).alloc (Nat.le_refl _) _)⟩
    · have he : errBr r t k = 0 := by unfold errBr; rw [if_neg hbad, if_neg hf]
      have d5 : decide (0 ≤ findA r.L t) = false := by simp; omega
      have hB : begr r t k cl v = ⟨r.kind, r.top, r.value, r.now + 1, r.L ++ [⟨t, k, cl, cap (capR r) v, r.now + 1, -1, r.value⟩]⟩ := by unfold begr; rw [if_neg (by rw [he]; simp)]
      have HE := Lib.hid (And.intro he hB)
      have HB := Lib.hid (H.below ((Below.refl _ _).alloc (Nat.le_refl _) (.cells #[.int .i64 k, .int .i64 cl, .int .i64 v] 35)))
      have HH := Lib.hid H
      have ct := H.top.1
      clear H he hbad hB
      have HC := Lib.hid (fun w => clampR_is v r.top (cap (capR r) v) rfl w)
      go_enter Try.func28, Try.ntmps28
      go_wp2_with fail
      refine (find_is _ _ _ _ _ _ _ _ HB.out).mono ?_; rintro e w' ⟨rfl, rfl⟩
      go_upto_region 5 with fail
      go_cut [] (fun wx => Hid (∃ n, wx = (w.alloc (.cells #[.int .i64 k, .int .i64 cl, .int .i64 (cap (capR r) v)] 35)).drewN n))
      case first =>
        go_region_with (first | (go_at_call 38; refine (HC.out _).mono ?_; rintro e w' ⟨rfl, rfl⟩))
        all_goals (go_wp2_with fail; go_meet)
        all_goals exact Lib.hid ⟨1, rfl⟩
      case rest =>
        obtain ⟨n, hwc⟩ := hcut.out
        have hBw : Below w.heap.size w wc := by rw [hwc]; exact below_drewN ((Below.refl _ _).alloc (Nat.le_refl _) _) n
        have hR := HH.out.below hBw
        have b0 : Has wc ⟨w.heap.size, 0, none⟩ (.int .i64 k) := by rw [hwc]; exact (has_new w #[.int .i64 k, .int .i64 cl, .int .i64 (cap (capR r) v)] 35 0 _ rfl).drewN n
        have b1 : Has wc ⟨w.heap.size, 1, none⟩ (.int .i64 cl) := by rw [hwc]; exact (has_new w #[.int .i64 k, .int .i64 cl, .int .i64 (cap (capR r) v)] 35 1 _ rfl).drewN n
        have b2 : Has wc ⟨w.heap.size, 2, none⟩ (.int .i64 (cap (capR r) v)) := by rw [hwc]; exact (has_new w #[.int .i64 k, .int .i64 cl, .int .i64 (cap (capR r) v)] 35 2 _ rfl).drewN n
        have hne : (⟨rc, 3, none⟩ : Addr).block ≠ w.heap.size := by simp only; omega
        have hR7 := hR.setNow (r.now + 1)
        have hk7 := kept_set wc ⟨rc, 3, none⟩ (.int .i64 (r.now + 1))
        have h7 : Hid (RAt (wc.setCell ⟨rc, 3, none⟩ (.int .i64 (r.now + 1))) rc ⟨r.kind, r.top, r.value, r.now + 1, r.L⟩ A h c G ∧
            Has (wc.setCell ⟨rc, 3, none⟩ (.int .i64 (r.now + 1))) ⟨w.heap.size, 0, none⟩ (.int .i64 k) ∧ Has (wc.setCell ⟨rc, 3, none⟩ (.int .i64 (r.now + 1))) ⟨w.heap.size, 1, none⟩ (.int .i64 cl) ∧
            Has (wc.setCell ⟨rc, 3, none⟩ (.int .i64 (r.now + 1))) ⟨w.heap.size, 2, none⟩ (.int .i64 (cap (capR r) v)) ∧ Step G w (wc.setCell ⟨rc, 3, none⟩ (.int .i64 (r.now + 1)))) :=
          Lib.hid ⟨hR7, b0.other (fun e => hne (by rw [e])), b1.other (fun e => hne (by rw [e])), b2.other (fun e => hne (by rw [e])), (Step.of_below hBw).setCell (p := ⟨rc, 3, none⟩) (.inl HH.out.rG) _⟩
        have c3 := hR.now.1
        have f3 := hR.now.2
        clear hcut hR hR7 hk7 hne b0 b1 b2 hBw
        have HWC := Lib.hid hwc; clear hwc
        go_upto_region 7 with fail
        generalize hw7 : wc.setCell ⟨rc, 3, none⟩ (.int .i64 (r.now + 1)) = w7 at h7 ⊢
        clear hw7
        obtain ⟨hR, b0, b1, b2, hS⟩ := h7.out
        clear h7
        have x0 := b0.1
        have x1 := b1.1
        have x2 := b2.1
        have c4 := hR.l.1
        have c2 := hR.value.1
        have hrcw := hR.lt
        have hbw : w.heap.size < w7.heap.size := b0.lt
        have hbr : w.heap.size ≠ rc := by omega
        have hhb : c ≠ 0 → h ≠ rc ∧ h ≠ w.heap.size := fun hc => ⟨(HH.out.hG hc).2, by
          obtain ⟨x, hx⟩ := HH.out.row.room 0 (by omega)
          have : h < w.heap.size := hx.lt
          omega⟩
        have K5 : Hid (∀ wz, Kept (fun p => p = ⟨rc, 4, none⟩ ∨ (c ≠ 0 ∧ p.block = h)) w7 wz → Five rc w.heap.size k cl (cap (capR r) v) (r.now + 1) r.value wz) := Lib.hid (fun wz hz => five_keep b0 b1 b2 hR.now hR.value hbr hhb hz)
        clear hbr hhb
        have HRR := Lib.hid (And.intro hR hS)
        have RK := Lib.hid (fun (wz : World) (hz : Below w7.heap.size w7 wz) => hR.below hz)
        clear hR b0 b1 b2 hS c3 f3
        have c3 := HRR.out.1.now.1
        have hB1 : Below w7.heap.size w7 (w7.alloc (.cells #[.int .i64 t, .int .i64 k, .int .i64 cl, .int .i64 (cap (capR r) v), .int .i64 (r.now + 1), .int .i64 (-1), .int .i64 r.value] 79)).drew := ((Below.refl _ _).alloc (Nat.le_refl _) _).drew
        have RA1 := Lib.hid (RK.out _ hB1)
        have CN : Hid (∀ j u, (cellsE ⟨t, k, cl, cap (capR r) v, r.now + 1, -1, r.value⟩)[j]? = some u → (w7.alloc (.cells #[.int .i64 t, .int .i64 k, .int .i64 cl, .int .i64 (cap (capR r) v), .int .i64 (r.now + 1), .int .i64 (-1), .int .i64 r.value] 79)).drew.cell? ((⟨w7.heap.size, 0, none⟩ : Addr).add j) = some u) := Lib.hid (cells_new w7 ⟨t, k, cl, cap (capR r) v, r.now + 1, -1, r.value⟩ _)
        have HB1 := Lib.hid hB1
        have HL1 : Hid (r.L.length ≤ 1000) := Lib.hid (by omega)
        have S1 := Lib.hid (K5.out _ (.below (Below.refl w7.heap.size w7).drew))
        have S2 := Lib.hid (K5.out _ (.below hB1))
        have c4d : w7.drew.cell? ⟨rc, 4, none⟩ = some (.slice A r.L.length c) := c4
        have c4e := (hB1.cell (p := ⟨rc, 4, none⟩) hrcw).trans c4d
        clear hB1 HB HC HWC d1 d2 d3 d4 d5 ct hf hrc x0 x1 x2 c3 c2 c4
        refine wp_region_held_drew (S := (fun wx => wx.cell? ⟨w.heap.size, 0, none⟩ = some (.int .i64 k) ∧ wx.cell? ⟨w.heap.size, 1, none⟩ = some (.int .i64 cl) ∧ wx.cell? ⟨w.heap.size, 2, none⟩ = some (.int .i64 (cap (capR r) v)) ∧ wx.cell? ⟨rc, 3, none⟩ = some (.int .i64 (r.now + 1)) ∧ wx.cell? ⟨rc, 2, none⟩ = some (.int .i64 r.value))) (by kernel_rfl) (S1.out) (fun hHeld => ?_)
        refine wpAnyH_take (i := 0) (oi := ⟨_, _, _, _, _, _⟩) (v := ?_) rfl (by kernel_rfl) (by kernel_rfl) (by kernel_rfl) (fun _ _ _ h => h) (Or.inl ⟨by rfl, ?_⟩) (by assumption) ?_; rotate_left 1; · (intro wS hSw; (try dsimp only at hSw); go_simp; try (with_reducible rfl))
        simp only [Act.put, List.setIfInBounds_toArray, List.set_cons_zero, List.set_cons_succ]
        refine wpAnyH_take (i := 1) (oi := ⟨_, _, _, _, _, _⟩) (v := ?_) rfl (by kernel_rfl) (by kernel_rfl) (by kernel_rfl) (fun _ _ _ h => h) (Or.inl ⟨by rfl, ?_⟩) (by assumption) ?_; rotate_left 1; · (intro wS hSw; (try dsimp only at hSw); go_simp; try (with_reducible rfl))
        simp only [Act.put, List.setIfInBounds_toArray, List.set_cons_zero, List.set_cons_succ]
        refine wpAnyH_take (i := 2) (oi := ⟨_, _, _, _, _, _⟩) (v := ?_) rfl (by kernel_rfl) (by kernel_rfl) (by kernel_rfl) (fun _ _ _ h => h) (Or.inl ⟨by rfl, ?_⟩) (by assumption) ?_; rotate_left 1; · (intro wS hSw; (try dsimp only at hSw); go_simp; try (with_reducible rfl))
        simp only [Act.put, List.setIfInBounds_toArray, List.set_cons_zero, List.set_cons_succ]
        refine wpAnyH_take (i := 3) (oi := ⟨_, _, _, _, _, _⟩) (v := ?_) rfl (by kernel_rfl) (by kernel_rfl) (by kernel_rfl) (fun _ _ _ h => h) (Or.inl ⟨by rfl, ?_⟩) (by assumption) ?_; rotate_left 1; · (intro wS hSw; (try dsimp only at hSw); go_simp; try (with_reducible rfl))
        simp only [Act.put, List.setIfInBounds_toArray, List.set_cons_zero, List.set_cons_succ]
        refine wpAnyH_take (i := 5) (oi := ⟨_, _, _, _, _, _⟩) (v := ?_) rfl (by kernel_rfl) (by kernel_rfl) (by kernel_rfl) (fun _ _ _ h => h) (Or.inl ⟨by rfl, ?_⟩) (by assumption) ?_; rotate_left 1; · (intro wS hSw; (try dsimp only at hSw); go_simp; try (with_reducible rfl))
        simp only [Act.put, List.setIfInBounds_toArray, List.set_cons_zero, List.set_cons_succ]
        refine wpAnyH_take (i := 6) (oi := ⟨_, _, _, _, _, _⟩) (v := ?_) rfl (by kernel_rfl) (by kernel_rfl) (by kernel_rfl) (fun _ _ _ h => h) (Or.inl ⟨by rfl, ?_⟩) (by assumption) ?_; rotate_left 1; · (intro wS hSw; (try dsimp only at hSw); go_simp; try (with_reducible rfl))
        simp only [Act.put, List.setIfInBounds_toArray, List.set_cons_zero, List.set_cons_succ]
        refine wpAnyH_take (i := 7) (oi := ⟨_, _, _, _, _, _⟩) (v := ?_) rfl (by kernel_rfl) (by kernel_rfl) (by kernel_rfl) (fun _ _ _ h => h) (Or.inl ⟨by rfl, ?_⟩) (by assumption) ?_; rotate_left 1; · (intro wS hSw; (try dsimp only at hSw); go_simp; try (with_reducible rfl))
        simp only [Act.put, List.setIfInBounds_toArray, List.set_cons_zero, List.set_cons_succ]
        refine wpAnyH_take (i := 8) (oi := ⟨_, _, _, _, _, _⟩) (v := ?_) rfl (by kernel_rfl) (by kernel_rfl) (by kernel_rfl) (fun _ _ _ h => h) (Or.inl ⟨by rfl, ?_⟩) (by assumption) ?_; rotate_left 1; · (intro wS hSw; (try dsimp only at hSw); go_simp; try (with_reducible rfl))
        simp only [Act.put, List.setIfInBounds_toArray, List.set_cons_zero, List.set_cons_succ]
        refine wpAnyH_take (i := 9) (oi := ⟨_, _, _, _, _, _⟩) (v := ?_) rfl (by kernel_rfl) (by kernel_rfl) (by kernel_rfl) (fun _ _ _ h => h) (Or.inl ⟨by rfl, ?_⟩) (by assumption) ?_; rotate_left 1; · (intro wS hSw; (try dsimp only at hSw); go_simp; try (with_reducible rfl))
        simp only [Act.put, List.setIfInBounds_toArray, List.set_cons_zero, List.set_cons_succ]
        refine wpAnyH_take (i := 10) (oi := ⟨_, _, _, _, _, _⟩) (v := ?_) rfl (by kernel_rfl) (by kernel_rfl) (by kernel_rfl) (fun _ _ _ h => h) (Or.inl ⟨by rfl, ?_⟩) (by assumption) ?_; rotate_left 1; · (intro wS hSw; (try dsimp only at hSw); go_simp; try (with_reducible rfl))
        simp only [Act.put, List.setIfInBounds_toArray, List.set_cons_zero, List.set_cons_succ]
        refine wpAnyH_take (i := 11) (oi := ⟨_, _, _, _, _, _⟩) (v := ?_) rfl (by kernel_rfl) (by kernel_rfl) (by kernel_rfl) (fun _ _ _ h => h) (Or.inl ⟨by rfl, ?_⟩) (by assumption) ?_; rotate_left 1; · (intro wS hSw; (try dsimp only at hSw); go_simp; try (with_reducible rfl))
        simp only [Act.put, List.setIfInBounds_toArray, List.set_cons_zero, List.set_cons_succ]
        refine wpAnyH_take (i := 12) (oi := ⟨_, _, _, _, _, _⟩) (v := ?_) rfl (by kernel_rfl) (by kernel_rfl) (by kernel_rfl) (fun _ _ _ h => h) (Or.inl ⟨by rfl, ?_⟩) (by assumption) ?_; rotate_left 1; · (intro wS hSw; (try dsimp only at hSw); go_simp; try (with_reducible rfl))
        simp only [Act.put, List.setIfInBounds_toArray, List.set_cons_zero, List.set_cons_succ]
        refine wpAnyH_take (i := 13) (oi := ⟨_, _, _, _, _, _⟩) (v := ?_) rfl (by kernel_rfl) (by kernel_rfl) (by kernel_rfl) (fun _ _ _ h => h) (Or.inl ⟨by rfl, ?_⟩) (by assumption) ?_; rotate_left 1; · (intro wS hSw; (try dsimp only at hSw); go_simp; try (with_reducible rfl))
        simp only [Act.put, List.setIfInBounds_toArray, List.set_cons_zero, List.set_cons_succ]
        refine wpAnyH_take (i := 14) (oi := ⟨_, _, _, _, _, _⟩) (v := ?_) rfl (by kernel_rfl) (by kernel_rfl) (by kernel_rfl) (fun _ _ _ h => h) (Or.inl ⟨by rfl, ?_⟩) (by assumption) ?_; rotate_left 1; · (intro wS hSw; (try dsimp only at hSw); go_simp; try (with_reducible rfl))
        simp only [Act.put, List.setIfInBounds_toArray, List.set_cons_zero, List.set_cons_succ]
        refine wpAnyH_take (i := 15) (oi := ⟨_, _, _, _, _, _⟩) (v := ?_) rfl (by kernel_rfl) (by kernel_rfl) (by kernel_rfl) (fun _ _ _ h => h) (Or.inl ⟨by rfl, ?_⟩) (by assumption) ?_; rotate_left 1; · (intro wS hSw; (try dsimp only at hSw); go_simp; try (with_reducible rfl))
        simp only [Act.put, List.setIfInBounds_toArray, List.set_cons_zero, List.set_cons_succ]
        refine wpAnyH_ready (rs := [4, 16]) (by kernel_rfl) (by simp) ?_
        refine AllReadyH.cons (o := ⟨_, _, _, _, _, _⟩) rfl (fun K hK => ?_) (AllReadyH.cons (o := ⟨_, _, _, _, _, _⟩) rfl (fun K hK => ?_) AllReadyH.nil)
        · go_simp
          refine hK.out _ _ (S1.out) (fun hHeld => ?_)
          clear hK K
          try simp only [Act.put, List.setIfInBounds_toArray, List.set_cons_zero, List.set_cons_succ]
          clear hHeld
          refine wpAnyH_ready (rs := [16]) (by kernel_rfl) (by simp) ?_
          refine AllReadyH.cons (o := ⟨_, _, _, _, _, _⟩) rfl (fun K hK => ?_) AllReadyH.nil
          go_simp
          refine hK.out _ _ (S2.out) (fun hHeld => ?_)
          clear hK K
          try simp only [Act.put, List.setIfInBounds_toArray, List.set_cons_zero, List.set_cons_succ]
          refine wpAnyH_ready (rs := [17]) (by kernel_rfl) (by simp) ?_
          refine AllReadyH.cons (o := ⟨_, _, _, _, _, _⟩) rfl (fun K hK => ?_) AllReadyH.nil
          refine step_app_ev rfl (.tmp 47) (.tmp 59) rfl RA1.out.row HL1.out rfl rfl ⟨t, k, cl, cap (capR r) v, r.now + 1, -1, r.value⟩ ⟨w7.heap.size, 0, none⟩ rfl CN.out ?_
          intro v' w4 hO
          have hk4 := ((Kept.below HB1.out).trans (hO.kept.mono (fun p hp => .inr ⟨by omega, hp.2⟩)) : Kept (fun p => p = ⟨rc, 4, none⟩ ∨ (c ≠ 0 ∧ p.block = h)) w7 w4)
          obtain ⟨A', h', c', rfl, hRA, hST, hl4⟩ := RA1.out.push hO
          have S3 := Lib.hid (K5.out _ hk4)
          have S4 := Lib.hid (K5.out _ (hk4.setCell (.inl rfl) (.slice A' (r.L.length + 1) c')))
          have l4 := hl4.1
          have g4 := hl4.2
          have HRA := Lib.hid (And.intro hRA hST)
          clear hRA hST hl4 hO hk4 hHeld
          refine hK.out _ _ (S3.out) (fun hHeld => ?_)
          clear hK K
          try simp only [Act.put, List.setIfInBounds_toArray, List.set_cons_zero, List.set_cons_succ]
          refine wpAnyH_take (i := 18) (oi := ⟨_, _, _, _, _, _⟩) (v := ?_) rfl (by kernel_rfl) (by kernel_rfl) (by kernel_rfl) (fun _ _ _ h => h) (Or.inl ⟨by rfl, ?_⟩) (by assumption) ?_; rotate_left 1; · (intro wS hSw; (try dsimp only at hSw); go_simp; try (with_reducible rfl))
          simp only [Act.put, List.setIfInBounds_toArray, List.set_cons_zero, List.set_cons_succ]
          refine wpAnyH_take (i := 19) (oi := ⟨_, _, _, _, _, _⟩) (v := ?_) rfl (by kernel_rfl) (by kernel_rfl) (by kernel_rfl) (fun _ _ _ h => h) (Or.inl ⟨by rfl, ?_⟩) (by assumption) ?_; rotate_left 1; · (intro wS hSw; (try dsimp only at hSw); go_simp; try (with_reducible rfl))
          simp only [Act.put, List.setIfInBounds_toArray, List.set_cons_zero, List.set_cons_succ]
          clear hHeld
          refine wpAnyH_ready (rs := [20]) (by kernel_rfl) (by simp) ?_
          refine AllReadyH.cons (o := ⟨_, _, _, _, _, _⟩) rfl (fun K hK => ?_) AllReadyH.nil
          go_simp
          refine hK.out _ _ (S4.out) (fun hHeld => ?_)
          clear hK K
          try simp only [Act.put, List.setIfInBounds_toArray, List.set_cons_zero, List.set_cons_succ]
          refine wpAnyH_done (by kernel_rfl) ?_ _
          go_wp2_with fail
          go_ret
          exact ⟨ret_int HE.out.1.symm, by rw [HE.out.2]; exact fin_push HRR.out.2 HB1.out HRA.out.1 HRA.out.2⟩
        · go_simp
          refine hK.out _ _ (S2.out) (fun hHeld => ?_)
          clear hK K
          try simp only [Act.put, List.setIfInBounds_toArray, List.set_cons_zero, List.set_cons_succ]
          clear hHeld
          refine wpAnyH_ready (rs := [4]) (by kernel_rfl) (by simp) ?_
          refine AllReadyH.cons (o := ⟨_, _, _, _, _, _⟩) rfl (fun K hK => ?_) AllReadyH.nil
          go_simp
          refine hK.out _ _ (S2.out) (fun hHeld => ?_)
          clear hK K
          try simp only [Act.put, List.setIfInBounds_toArray, List.set_cons_zero, List.set_cons_succ]
          refine wpAnyH_ready (rs := [17]) (by kernel_rfl) (by simp) ?_
          refine AllReadyH.cons (o := ⟨_, _, _, _, _, _⟩) rfl (fun K hK => ?_) AllReadyH.nil
          refine step_app_ev rfl (.tmp 47) (.tmp 59) rfl RA1.out.row HL1.out rfl rfl ⟨t, k, cl, cap (capR r) v, r.now + 1, -1, r.value⟩ ⟨w7.heap.size, 0, none⟩ rfl CN.out ?_
          intro v' w4 hO
          have hk4 := ((Kept.below HB1.out).trans (hO.kept.mono (fun p hp => .inr ⟨by omega, hp.2⟩)) : Kept (fun p => p = ⟨rc, 4, none⟩ ∨ (c ≠ 0 ∧ p.block = h)) w7 w4)
          obtain ⟨A', h', c', rfl, hRA, hST, hl4⟩ := RA1.out.push hO
          have S3 := Lib.hid (K5.out _ hk4)
          have S4 := Lib.hid (K5.out _ (hk4.setCell (.inl rfl) (.slice A' (r.L.length + 1) c')))
          have l4 := hl4.1
          have g4 := hl4.2
          have HRA := Lib.hid (And.intro hRA hST)
          clear hRA hST hl4 hO hk4 hHeld
          refine hK.out _ _ (S3.out) (fun hHeld => ?_)
          clear hK K
          try simp only [Act.put, List.setIfInBounds_toArray, List.set_cons_zero, List.set_cons_succ]
          refine wpAnyH_take (i := 18) (oi := ⟨_, _, _, _, _, _⟩) (v := ?_) rfl (by kernel_rfl) (by kernel_rfl) (by kernel_rfl) (fun _ _ _ h => h) (Or.inl ⟨by rfl, ?_⟩) (by assumption) ?_; rotate_left 1; · (intro wS hSw; (try dsimp only at hSw); go_simp; try (with_reducible rfl))
          simp only [Act.put, List.setIfInBounds_toArray, List.set_cons_zero, List.set_cons_succ]
          refine wpAnyH_take (i := 19) (oi := ⟨_, _, _, _, _, _⟩) (v := ?_) rfl (by kernel_rfl) (by kernel_rfl) (by kernel_rfl) (fun _ _ _ h => h) (Or.inl ⟨by rfl, ?_⟩) (by assumption) ?_; rotate_left 1; · (intro wS hSw; (try dsimp only at hSw); go_simp; try (with_reducible rfl))
          simp only [Act.put, List.setIfInBounds_toArray, List.set_cons_zero, List.set_cons_succ]
          clear hHeld
          refine wpAnyH_ready (rs := [20]) (by kernel_rfl) (by simp) ?_
          refine AllReadyH.cons (o := ⟨_, _, _, _, _, _⟩) rfl (fun K hK => ?_) AllReadyH.nil
          go_simp
          refine hK.out _ _ (S4.out) (fun hHeld => ?_)
          clear hK K
          try simp only [Act.put, List.setIfInBounds_toArray, List.set_cons_zero, List.set_cons_succ]
          refine wpAnyH_done (by kernel_rfl) ?_ _
          go_wp2_with fail
          go_ret
          exact ⟨ret_int HE.out.1.symm, by rw [HE.out.2]; exact fin_push HRR.out.2 HB1.out HRA.out.1 HRA.out.2⟩
end Go.Proofs.Ytdfkmkflcnfchaa
