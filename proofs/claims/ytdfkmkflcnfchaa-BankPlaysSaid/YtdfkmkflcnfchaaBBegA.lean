/- The bank's Begin. Own work. -/
import Derived.Test.YtdfkmkflcnfchaaBTurn
namespace Go.Proofs.Ytdfkmkflcnfchaa
open Go.ChangeShapes Go.WideShapes Go.ChangeAt Go.RowKit CellM

theorem Step.mono {F G : Nat → Prop} {w w' : World} (h : Step F w w') (hF : ∀ b, F b → G b) : Step G w w' :=
  ⟨h.kept.mono (fun _ hp => hF _ hp), fun B hB => h.below B (fun b hb => hB b (hF b hb)), fun b hb hg => h.block b hb (fun hf => hg (hF b hf))⟩
/-- A boxed access. -/
structure BX (g : Nat) (k cl v : Int) (w : World) : Prop where
  k : Has w ⟨g, 0, none⟩ (.int .i64 k)
  c : Has w ⟨g, 1, none⟩ (.int .i64 cl)
  v : Has w ⟨g, 2, none⟩ (.int .i64 v)
section
variable {g : Nat} {k cl v : Int} {w w' : World}
theorem BX.keep (h : BX g k cl v w) {F : Nat → Prop} (hs : Step F w w') (hF : ¬ F g) : BX g k cl v w' := ⟨hs.kept.has _ _ h.k hF, hs.kept.has _ _ h.c hF, hs.kept.has _ _ h.v hF⟩
theorem BX.below (h : BX g k cl v w) (hb : Below w.heap.size w w') : BX g k cl v w' := h.keep (F := fun _ => False) (.of_below hb) (fun h => h)
theorem BX.new (w : World) (k cl v : Int) (t : TypeId) : BX w.heap.size k cl v (w.alloc (.cells #[.int .i64 k, .int .i64 cl, .int .i64 v] t)) := ⟨has_new _ _ _ 0 _ rfl, has_new _ _ _ 1 _ rfl, has_new _ _ _ 2 _ rfl⟩
end
section
variable {w w' : World} {bb : Nat} {X : Bk} {q : Nat} {F : Nat → Prop} {SA EA : Option Addr} {sh sc eh ec mb : Nat} {D : DataW Unit} {pb : Int → Nat} {Fc : Int → Nat → Prop}
theorem BAtD.below (H : BAtD w bb X q F SA EA sh sc eh ec mb D pb Fc) (hb : Below w.heap.size w w') : BAtD w' bb X q F SA EA sh sc eh ec mb D pb Fc := H.keep (G := fun _ => False) (.of_below hb) (fun _ h => h.elim)
theorem BAtD.up (H : BAtD w bb X q F SA EA sh sc eh ec mb D pb Fc) {q' : Nat} (hq : q ≤ q') : BAtD w bb X q' F SA EA sh sc eh ec mb D pb Fc := ⟨H.fix, H.d, H.mo.mono hq, H.mp, H.c, H.bF, H.mF, H.sF, H.eF, H.cF, H.cb, H.cc, H.ct⟩
theorem BAtD.at_ (H : BAtD w bb X q F SA EA sh sc eh ec mb D pb Fc) : BAt w bb X q F := ⟨SA, EA, sh, sc, eh, ec, mb, D, pb, Fc, H⟩
end
theorem BAt.up {w : World} {bb : Nat} {X : Bk} {q q' : Nat} {F : Nat → Prop} (H : BAt w bb X q F) (hq : q ≤ q') : BAt w bb X q' F := by
  obtain ⟨SA, EA, sh, sc, eh, ec, mb, D, pb, Fc, H⟩ := H
  exact (H.up hq).at_
/-- An access has begun at a cell; the map and the thread's place are still to be written. -/
structure Ready (w0 w : World) (bb mb t p : Nat) (cl : Int) (X' : Bk) (q : Nat) (F : Nat → Prop) (bg : Nat) (k v : Int) : Prop where
  ex : ∃ w3, (Instr.mapUpdate 54 (.map (some mb)) (.int .i64 cl) (.pointer (some ⟨p, 0, none⟩))).run Try.prog w.drew = .ok () w3 ∧
    (∃ x y, Has w3 ⟨bb, 3 + t * 2, none⟩ x ∧ Has w3 ⟨bb, 3 + t * 2 + 1, none⟩ y) ∧ BX bg k cl v w3 ∧ Step F w0 (setD w3 bb t (some cl)) ∧ BAt (setD w3 bb t (some cl)) bb X' q (More w0 F)
  box : BX bg k cl v w
  m : Has w ⟨bb, 2, none⟩ (.map (some mb))
theorem Ready.of {w0 w : World} {bb : Nat} {X : Bk} {q : Nat} {F : Nat → Prop} {SA EA : Option Addr} {sh sc eh ec mb : Nat} {D : DataW Unit} {pb : Int → Nat} {Fc : Int → Nat → Prop} {cl : Int} {p : Nat} {S' : St} {G : Nat → Prop} {t : Nat} (ht : t < 8) {bg : Nat} {k v : Int}
    (H : BAtD w bb X q (More w0 F) SA EA sh sc eh ec mb D pb Fc) (hq : q < 1000000) (h0 : 0 ≤ cl) (h1 : cl ≤ 1000000) (hP : PAt w p S' G)
    (hG : ∀ b, G b → b ≠ bb ∧ b ≠ mb ∧ (sc ≠ 0 → b ≠ sh) ∧ (ec ≠ 0 → b ≠ eh)) (hGF : ∀ b, G b → More w0 F b) (hGt : ∀ b, G b → b < w.heap.size) (hGc : ∀ i ∈ X.no, i ≠ cl → ∀ b, G b → ¬ Fc i b)
    (hs : Step F w0 w) (hbx : BX bg k cl v w) (hFb : F bb) (hFm : F mb) (hgm : bg ≠ mb) :
    Ready w0 w bb mb t p cl ⟨X.L, addN X.no cl, updZ X.c cl S', upd X.d t (some cl)⟩ (q + 1) F bg k v := by
  have hbd : Below w.heap.size w w.drew := (Below.refl _ _).drew
  have Hd := H.below hbd
  obtain ⟨w3, hrun, hst, H3⟩ := Hd.store hq h0 h1 (hP.below hbd) hG hGF hGt hGc
  obtain ⟨d1, d2⟩ := H3.d t ht
  have hs2 : Step F w0 (setD w3 bb t (some cl)) := ((hs.trans (.of_below hbd)).trans (hst.mono (fun b hb => by rw [hb]; exact hFm))).trans (setD_step hFb)
  refine ⟨⟨w3, hrun, ⟨_, _, d1, d2⟩, (hbx.below hbd).keep hst hgm, hs2, ?_⟩, hbx, H.fix.m⟩
  exact (H3.setD ht (some cl)).at_
theorem updZ_updZ {α : Type} (f : Int → α) (n : Int) (x y : α) : updZ (updZ f n x) n y = updZ f n y := by
  unfold updZ; funext i; split <;> rfl
set_option maxRecDepth 20000 in
set_option maxHeartbeats 2000000 in
theorem beginB_out (w : World) (bb : Nat) (X : Bk) (q m : Nat) (F : Nat → Prop) (t k cl v : Int) (H : BAt w bb X q F) (hG : GoodB X m) (hin2 : inB X cl = false) :
    Calls Try.prog 9 #[.pointer (some ⟨bb, 0, none⟩), .int .i64 t, .agg #[.int .i64 k, .int .i64 cl, .int .i64 v]] w fun e w' => e = .returned (.int .i64 (errBB X t k cl)) ∧ BNow w w' bb (begBB X t k cl v) (q + 1) F := by
  obtain ⟨SA, EA, sh, sc, eh, ec, mb, D, pb, Fc, H0⟩ := H.tight
  clear H
  have hbb : bb < w.heap.size := H0.fix.s.lt
  have hmb : mb < w.heap.size := H0.mo.lt
  obtain ⟨W1, hW1⟩ : ∃ W1, W1 = w.alloc (.cells #[.int .i64 k, .int .i64 cl, .int .i64 v] 35) := ⟨_, rfl⟩
  have hB1 : Below w.heap.size w W1 := by rw [hW1]; exact (Below.refl _ _).alloc (Nat.le_refl _) _
  have hs1 : W1.heap.size = w.heap.size + 1 := by rw [hW1, alloc_size]
  have H1 := H0.below hB1
  have hX1 : BX w.heap.size k cl v W1 := by rw [hW1]; exact BX.new _ _ _ _ _
  have HW := Lib.hid hW1
  have HAS := Lib.hid (has_is H1.fix hG.ok cl)
  have H1' := Lib.hid H1
  have HG := Lib.hid hG
  clear H0 H1 hG
  have x1 := hX1.c.1
  have hin3 : (decide (0 ≤ cl) && decide (cl < sumS X.L)) = false := hin2
  rw [hin3] at HAS
  have HE : Hid (errBB X t k cl = 6) := Lib.hid (by unfold errBB; rw [if_pos hin2])
  have HS : Hid (begBB X t k cl v = X) := Lib.hid (begBB_bad (by rw [HE.out]; decide))
  clear hin2 hin3 hW1
  go_enter Try.func9, Try.ntmps9
  go_wp2_with fail
  rw [← HW.out]
  refine HAS.out.mono ?_; rintro e w2 ⟨rfl, q1, hq1⟩
  have hB2 : Below W1.heap.size W1 w2 := by rw [hq1]; exact below_drewN (Below.refl _ _) _
  clear hq1
  go_wp2_with fail
  go_ret
  refine ⟨ret_int HE.out.symm, ?_⟩
  rw [HS.out]
  exact ⟨((H1'.out.below hB2).at_.up (Nat.le_succ q)).mono (fun b hb => .inl hb.1), .of_below (hB1.trans (hB2.mono (by omega)))⟩
set_option maxRecDepth 20000 in
set_option maxHeartbeats 2000000 in
theorem beginB_busy (w : World) (bb : Nat) (X : Bk) (q m : Nat) (F : Nat → Prop) (t k cl v : Int) (H : BAt w bb X q F) (hG : GoodB X m) (hin : inB X cl = true) {n : Int} (hbu : busyB X t = some n) :
    Calls Try.prog 9 #[.pointer (some ⟨bb, 0, none⟩), .int .i64 t, .agg #[.int .i64 k, .int .i64 cl, .int .i64 v]] w fun e w' => e = .returned (.int .i64 (errBB X t k cl)) ∧ BNow w w' bb (begBB X t k cl v) (q + 1) F := by
  obtain ⟨SA, EA, sh, sc, eh, ec, mb, D, pb, Fc, H0⟩ := H.tight
  clear H
  have hbb : bb < w.heap.size := H0.fix.s.lt
  have hmb : mb < w.heap.size := H0.mo.lt
  obtain ⟨W1, hW1⟩ : ∃ W1, W1 = w.alloc (.cells #[.int .i64 k, .int .i64 cl, .int .i64 v] 35) := ⟨_, rfl⟩
  have hB1 : Below w.heap.size w W1 := by rw [hW1]; exact (Below.refl _ _).alloc (Nat.le_refl _) _
  have hs1 : W1.heap.size = w.heap.size + 1 := by rw [hW1, alloc_size]
  have H1 := H0.below hB1
  have hX1 : BX w.heap.size k cl v W1 := by rw [hW1]; exact BX.new _ _ _ _ _
  have HW := Lib.hid hW1
  have HAS := Lib.hid (has_is H1.fix hG.ok cl)
  have H1' := Lib.hid H1
  have HG := Lib.hid hG
  clear H0 H1 hG
  have x1 := hX1.c.1
  have hin2 : (decide (0 ≤ cl) && decide (cl < sumS X.L)) = true := hin
  rw [hin2] at HAS
  have hcl : 0 ≤ cl ∧ cl < sumS X.L := by simpa using hin2
  have hsum := (errS_ok HG.out.ok).2
  have HE : Hid (errBB X t k cl = 12) := Lib.hid (by unfold errBB; rw [hin, hbu]; rfl)
  have HS : Hid (begBB X t k cl v = X) := Lib.hid (begBB_bad (by rw [HE.out]; decide))
  have HBU := Lib.hid hbu
  clear hin hin2 hbu hW1
  go_enter Try.func9, Try.ntmps9
  go_wp2_with fail
  rw [← HW.out]
  refine HAS.out.mono ?_; rintro e w2 ⟨rfl, q1, hq1⟩
  have hB2 : Below W1.heap.size W1 w2 := by rw [hq1]; exact below_drewN (Below.refl _ _) _
  clear hq1
  have H2 := Lib.hid (H1'.out.below hB2)
  go_wp2_with fail
  refine (busyP_is H2.out.d t _ HBU.out).mono ?_; rintro e w3 ⟨rfl, q2, hq2⟩
  have hB3 : Below w2.heap.size w2 w3 := by rw [hq2]; exact below_drewN (Below.refl _ _) _
  clear hq2
  have hB4 : Below w.heap.size w w3 := hB1.trans ((hB2.trans (hB3.mono hB2.size)).mono (by omega))
  unfold busyV
  go_wp2_with fail
  go_ret
  exact ⟨ret_int HE.out.symm, by rw [HS.out]; exact ⟨((((H1'.out.below hB2).below hB3).at_).up (Nat.le_succ q)).mono (fun b hb => .inl hb.1), .of_below hB4⟩⟩
end Go.Proofs.Ytdfkmkflcnfchaa
