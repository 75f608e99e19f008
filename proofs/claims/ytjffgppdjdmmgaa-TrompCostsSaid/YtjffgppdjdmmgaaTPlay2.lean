/- tape's Play: the whole. Own work. -/
import Derived.Test.YtjffgppdjdmmgaaTPlay
namespace Go.Proofs.Ytjffgppdjdmmgaa
open Go.ChangeShapes Go.WideShapes Go.ChangeAt Go.RowKit CellM TapeM

/-- Where nothing panics, what stands behind a panic does not matter (behind a region in a function that defers, the slots would be asked for). -/
def calm (Q : Exit → Act → World → Prop) : Exit → Act → World → Prop := fun e a w => match e with
  | .normal => Q .normal a w
  | _ => False
theorem wp_calm {P : Program} {c : Code} {Q : Exit → Act → World → Prop} {a : Act} {w : World} (h : c.wp P (calm Q) a w) : c.wp P Q a w :=
  Code.wp_mono (fun e a w hq => by
    cases e with
    | normal => exact hq
    | _ => exact hq.elim) h
theorem calm_out {Q : Exit → Act → World → Prop} {a : Act} {w : World} (h : Q .normal a w) : calm Q .normal a w := h
/-- A Mem that is wiped. -/
def wiped (w : World) (mb : Nat) : World := (((((w.setCell ⟨mb, 0, none⟩ (.int .i64 0)).setCell ⟨mb, 1, none⟩ (.slice none 0 0)).setCell ⟨mb, 2, none⟩ (.bool false)).setCell ⟨mb, 3, none⟩ (.slice none 0 0)).setCell ⟨mb, 4, none⟩ (.slice none 0 0)).setCell ⟨mb, 5, none⟩ (.slice none 0 0)
theorem wipe_is (w : World) (pb mb : Nat) (u : FrameMode) (hb : w.cell? ⟨pb, 0, none⟩ = some (.pointer (some ⟨mb, 0, none⟩))) (x0 x1 x2 x3 x4 x5 : Value) (h0 : Has w ⟨mb, 0, none⟩ x0) (h1 : Has w ⟨mb, 1, none⟩ x1) (h2 : Has w ⟨mb, 2, none⟩ x2) (h3 : Has w ⟨mb, 3, none⟩ x3) (h4 : Has w ⟨mb, 4, none⟩ x4) (h5 : Has w ⟨mb, 5, none⟩ x5) :
    CallsD Try.prog 25 #[.pointer (some ⟨pb, 0, none⟩)] u w fun e u' w' => u' = u ∧ (e = .returned (.tuple #[]) ∧ w' = wiped w mb) := by
  have c0 := h0.1
  have c1 := h1.1
  have c2 := h2.1
  have c3 := h3.1
  have c4 := h4.1
  have c5 := h5.1
  have f0 := h0.2
  have f1 := h1.2
  have f2 := h2.2
  have f3 := h3.2
  have f4 := h4.2
  have f5 := h5.2
  clear h0 h1 h2 h3 h4 h5
  go_enter_d Try.func25, Try.ntmps25
  go_wp2_with fail
  go_end0
  exact ⟨rfl, rfl⟩
theorem wiped_kept (w : World) (mb : Nat) : Kept (fun p => p.block = mb) w (wiped w mb) :=
  ((((((Kept.refl (fun p : Addr => p.block = mb) w).setCell (p := ⟨mb, 0, none⟩) rfl _).setCell (p := ⟨mb, 1, none⟩) rfl _).setCell (p := ⟨mb, 2, none⟩) rfl _).setCell (p := ⟨mb, 3, none⟩) rfl _).setCell (p := ⟨mb, 4, none⟩) rfl _).setCell (p := ⟨mb, 5, none⟩) rfl _
theorem wiped_below {B : Nat} {w0 w : World} {mb : Nat} (h : Below B w0 w) (hb : B ≤ mb) : Below B w0 (wiped w mb) :=
  (((((h.setCell (p := ⟨mb, 0, none⟩) hb _).setCell (p := ⟨mb, 1, none⟩) hb _).setCell (p := ⟨mb, 2, none⟩) hb _).setCell (p := ⟨mb, 3, none⟩) hb _).setCell (p := ⟨mb, 4, none⟩) hb _).setCell (p := ⟨mb, 5, none⟩) hb _
theorem PT.six {w : World} {mb : Nat} {ph : Int} {AA : Option Addr} {ac : Nat} {ans : List Int} {S : TS} {F : Nat → Prop} (H : PT w mb ph AA ac ans S F) : ∃ x0 x1 x2 x3 x4 x5, Has w ⟨mb, 0, none⟩ x0 ∧ Has w ⟨mb, 1, none⟩ x1 ∧ Has w ⟨mb, 2, none⟩ x2 ∧ Has w ⟨mb, 3, none⟩ x3 ∧ Has w ⟨mb, 4, none⟩ x4 ∧ Has w ⟨mb, 5, none⟩ x5 := by
  obtain ⟨A, h, c, H⟩ := H
  exact ⟨_, _, _, _, _, _, H.hd 0 (by decide), H.hd 1 (by decide), H.hd 2 (by decide), H.rows.p 0 (by decide), H.rows.p 1 (by decide), H.rows.p 2 (by decide)⟩
/-- The result's variable, written. -/
def outW (w : World) (g : Nat) (d : Bool) (v1 v2 v3 : Value) : World := (((w.setCell ⟨g, 0, none⟩ (.bool d)).setCell ⟨g, 1, none⟩ v1).setCell ⟨g, 2, none⟩ v2).setCell ⟨g, 3, none⟩ v3
theorem outW_kept (w : World) (g : Nat) (d : Bool) (v1 v2 v3 : Value) : Kept (fun p => p.block = g) w (outW w g d v1 v2 v3) :=
  ((((Kept.refl (fun p : Addr => p.block = g) w).setCell (p := ⟨g, 0, none⟩) rfl _).setCell (p := ⟨g, 1, none⟩) rfl _).setCell (p := ⟨g, 2, none⟩) rfl _).setCell (p := ⟨g, 3, none⟩) rfl _
theorem outW_below {B : Nat} {w0 w : World} {g : Nat} (d : Bool) (v1 v2 v3 : Value) (h : Below B w0 w) (hb : B ≤ g) : Below B w0 (outW w g d v1 v2 v3) :=
  (((h.setCell (p := ⟨g, 0, none⟩) hb _).setCell (p := ⟨g, 1, none⟩) hb _).setCell (p := ⟨g, 2, none⟩) hb _).setCell (p := ⟨g, 3, none⟩) hb _
theorem outW_has {w : World} {g : Nat} {d : Bool} {v1 v2 v3 y0 y1 y2 y3 : Value} (h0 : Has w ⟨g, 0, none⟩ y0) (h1 : Has w ⟨g, 1, none⟩ y1) (h2 : Has w ⟨g, 2, none⟩ y2) (h3 : Has w ⟨g, 3, none⟩ y3) :
    Has (outW w g d v1 v2 v3) ⟨g, 0, none⟩ (.bool d) ∧ Has (outW w g d v1 v2 v3) ⟨g, 1, none⟩ v1 ∧ Has (outW w g d v1 v2 v3) ⟨g, 2, none⟩ v2 ∧ Has (outW w g d v1 v2 v3) ⟨g, 3, none⟩ v3 := by
  have hne : ∀ i j, i ≠ j → (⟨g, i, none⟩ : Addr) ≠ ⟨g, j, none⟩ := fun i j hi e => hi (by simp only [Addr.mk.injEq] at e; omega)
  unfold outW
  exact ⟨((h0.same.other (hne 1 0 (by decide))).other (hne 2 0 (by decide))).other (hne 3 0 (by decide)),
    (((h1.other (hne 0 1 (by decide))).same).other (hne 2 1 (by decide))).other (hne 3 1 (by decide)),
    (((h2.other (hne 0 2 (by decide))).other (hne 1 2 (by decide))).same).other (hne 3 2 (by decide)),
    (((h3.other (hne 0 3 (by decide))).other (hne 1 3 (by decide))).other (hne 2 3 (by decide))).same⟩
/-- Behind the operation: the variables that are still read. -/
structure After (w wx : World) : Prop where
  o0 : Has wx ⟨w.heap.size, 0, none⟩ (.bool false)
  o1 : Has wx ⟨w.heap.size, 1, none⟩ (.slice none 0 0)
  o2 : Has wx ⟨w.heap.size, 2, none⟩ (.slice none 0 0)
  o3 : Has wx ⟨w.heap.size, 3, none⟩ (.slice none 0 0)
  box : Has wx ⟨w.heap.size + 1 + 1, 0, none⟩ (.pointer (some ⟨w.heap.size + 1, 0, none⟩))
theorem Started.after {w w1 w2 : World} {AA : Option Addr} {ac : Nat} {ans l : List Int} (H : Started w w1 AA ac ans l) (hs : Step (mineF w w1) w1 w2) : After w w2 := by
  have h0 : ∀ i, ¬ mineF w w1 (⟨w.heap.size, i, none⟩ : Addr).block := fun i h => by
    rcases h with h | h
    · simp only at h; omega
    · have := h.1; simp only at this; omega
  have h2 : ¬ mineF w w1 (⟨w.heap.size + 2, 0, none⟩ : Addr).block := fun h => by
    rcases h with h | h
    · simp only at h; omega
    · have := h.1; simp only at this; omega
  exact ⟨hs.kept.has _ _ H.o0 (h0 0), hs.kept.has _ _ H.o1 (h0 1), hs.kept.has _ _ H.o2 (h0 2), hs.kept.has _ _ H.o3 (h0 3), hs.kept.has _ _ H.box h2⟩
theorem PT.grow {w w' : World} {mb : Nat} {ph : Int} {AA : Option Addr} {ac : Nat} {ans : List Int} {S : TS} {F : Nat → Prop} (H : PT w mb ph AA ac ans S F) (hb : Below w.heap.size w w') : PT w' mb ph AA ac ans S F := TAt.grow H hb
theorem After.below {w w1 w2 : World} (H : After w w1) (hb : Below w1.heap.size w1 w2) : After w w2 := ⟨H.o0.below hb H.o0.lt, H.o1.below hb H.o1.lt, H.o2.below hb H.o2.lt, H.o3.below hb H.o3.lt, H.box.below hb H.box.lt⟩
theorem mineF_lt {w w1 : World} {AA : Option Addr} {ac : Nat} {ans l : List Int} (H : Started w w1 AA ac ans l) : ∀ b, mineF w w1 b → w.heap.size ≤ b ∧ b < w1.heap.size := by
  intro b hb
  have := PT.lt H.at_
  rcases hb with rfl | h
  · omega
  · omega
def Res.val : Res → Int
  | .go _ x => x
  | .stop _ => 0
def Res.done : Res → Bool
  | .go _ _ => true
  | .stop _ => false
/-- What Play gives. -/
def Plays (R : Res) (mk : Int → Value) (z : Value) (w w' : World) (e : Ending) : Prop :=
  ∃ o, e = .returned (.tuple #[match R with | .go _ x => mk x | .stop _ => z, o]) ∧ OutB w' w.heap.size o (Res.done R) R.st ∧ Below w.heap.size w w'
/-- The last steps: the result is laid, the Mem is wiped. -/
theorem play_end {w w2 : World} {F : Nat → Prop} {d : Bool} {S : TS} {A1 A2 A3 : Option Addr} {n1 n2 n3 c1 c2 c3 : Nat} (H : After w w2) (h6 : ∃ x0 x1 x2 x3 x4 x5, Has w2 ⟨w.heap.size + 1, 0, none⟩ x0 ∧ Has w2 ⟨w.heap.size + 1, 1, none⟩ x1 ∧ Has w2 ⟨w.heap.size + 1, 2, none⟩ x2 ∧ Has w2 ⟨w.heap.size + 1, 3, none⟩ x3 ∧ Has w2 ⟨w.heap.size + 1, 4, none⟩ x4 ∧ Has w2 ⟨w.heap.size + 1, 5, none⟩ x5)
    (ho : OutK w2 (w.heap.size + 1) F (outV d A1 A2 A3 n1 n2 n3 c1 c2 c3) d S) (hF : ¬ F w.heap.size) (hFB : ∀ b, F b → w.heap.size ≤ b) (hb : Below w.heap.size w w2) (u : FrameMode) :
    CallsD Try.prog 25 #[.pointer (some ⟨w.heap.size + 1 + 1, 0, none⟩)] u (outW w2 w.heap.size d (.slice A1 n1 c1) (.slice A2 n2 c2) (.slice A3 n3 c3)) fun e u' w' => e = .returned (.tuple #[]) ∧ u' = u ∧
      Has w' ⟨w.heap.size, 0, none⟩ (.bool d) ∧ Has w' ⟨w.heap.size, 1, none⟩ (.slice A1 n1 c1) ∧ Has w' ⟨w.heap.size, 2, none⟩ (.slice A2 n2 c2) ∧ Has w' ⟨w.heap.size, 3, none⟩ (.slice A3 n3 c3) ∧ OutB w' w.heap.size (outV d A1 A2 A3 n1 n2 n3 c1 c2 c3) d S ∧ Below w.heap.size w w' := by
  obtain ⟨v1, hv1⟩ : ∃ v, v = Value.slice A1 n1 c1 := ⟨_, rfl⟩
  obtain ⟨v2, hv2⟩ : ∃ v, v = Value.slice A2 n2 c2 := ⟨_, rfl⟩
  obtain ⟨v3, hv3⟩ : ∃ v, v = Value.slice A3 n3 c3 := ⟨_, rfl⟩
  rw [← hv1, ← hv2, ← hv3]
  obtain ⟨x0, x1, x2, x3, x4, x5, g0, g1, g2, g3, g4, g5⟩ := h6
  have hk := outW_kept w2 w.heap.size d v1 v2 v3
  have hne : ∀ i, ¬ (⟨w.heap.size + 1, i, none⟩ : Addr).block = w.heap.size := fun i h => by simp only at h; omega
  have hh := outW_has (d := d) (v1 := v1) (v2 := v2) (v3 := v3) H.o0 H.o1 H.o2 H.o3
  have hw := wiped_kept (outW w2 w.heap.size d v1 v2 v3) (w.heap.size + 1)
  have hn2 : ∀ i, ¬ (⟨w.heap.size, i, none⟩ : Addr).block = w.heap.size + 1 := fun i h => by simp only at h; omega
  refine (wipe_is _ (w.heap.size + 1 + 1) (w.heap.size + 1) u (hk.has _ _ H.box (fun h => by simp only at h; omega)).1 _ _ _ _ _ _ (hk.has _ _ g0 (hne 0)) (hk.has _ _ g1 (hne 1)) (hk.has _ _ g2 (hne 2)) (hk.has _ _ g3 (hne 3)) (hk.has _ _ g4 (hne 4)) (hk.has _ _ g5 (hne 5))).mono ?_
  rintro e u' w' ⟨rfl, rfl, rfl⟩
  exact ⟨rfl, rfl, hw.has _ _ hh.1 (hn2 0), hw.has _ _ hh.2.1 (hn2 1), hw.has _ _ hh.2.2.1 (hn2 2), hw.has _ _ hh.2.2.2 (hn2 3), fun wx hx => ho _ (((hk.mono (fun p hp => .inr (by rw [hp]; exact hF))).trans (hw.mono (fun p hp => .inl hp))).trans (hx.mono (fun p hp => .inr (fun hf => by have := hFB _ hf; omega)))), wiped_below (outW_below d v1 v2 v3 hb (Nat.le_refl _)) (by omega)⟩
section
variable {w : World} {AA : Option Addr} {ac : Nat} {ans l : List Int}
set_option maxHeartbeats 4000000 in
theorem play_is (R : Res) (fn : FuncId) (cap : Array Value) (hcf : ∀ args w, (callFunc fn args).run Try.prog w = .ok (.enter fn args) w)
    (Al : Option Addr) (cl n m : Nat) (hn : l.length = n) (hm : ans.length = m) (h1000 : n ≤ 1000) (hl : RI w Al cl l) (hr : RI w AA ac ans)
    (HC : ∀ (w1 w2 : World) (F : Nat → Prop), Below w.heap.size w w1 → (∀ b, F b → w.heap.size ≤ b ∧ b < w1.heap.size) → PT w1 (w.heap.size + 1) 1 AA ac ans ⟨[], [], short l⟩ F → Below w1.heap.size w1 w2 →
      Calls Try.prog fn (#[.pointer (some ⟨w.heap.size + 1, 0, none⟩)] ++ cap) w2 fun e w' => Ends R (Value.int .i64) w2 w' (w.heap.size + 1) AA ac ans F e) :
    Calls Try.prog 7 #[.func (.func fn) #[] cap, .slice Al n cl, .slice AA m ac] w fun e w' => Plays R (Value.int .i64) (.int .i64 0) w w' e := by
  subst hn; subst hm
  have hmf : ∀ (fn : Fn) (first cap : Array Value) (w : World), (Instr.makeFunc fn first cap).run Try.prog w = .ok (.func fn first cap) w := fun _ _ _ _ => rfl
  have hmin : ¬ (32768 : Int) < (l.length : Int) := by omega
  have hmin2 : (if (32768 : Int) < (l.length : Int) then (32768 : Int) else (l.length : Int)) = (l.length : Int) := if_neg hmin
  have hmin3 : (l.length : Int) ≤ 32768 := by omega
  have hcut := (cutToI hl rfl (Nat.le_refl l.length)).1
  obtain ⟨V1, hV⟩ : ∃ V1, V1 = W1 w AA ans.length ac := ⟨_, rfl⟩
  have hbV : Below w.heap.size w V1 := by rw [hV]; exact w1_below _ _ _ _
  have hbox : Has V1 ⟨w.heap.size + 2, 0, none⟩ (.pointer (some ⟨w.heap.size + 1, 0, none⟩)) := by rw [hV]; exact w1_box _ _ _ _
  have hx0 : V1.cell? ⟨w.heap.size + 1 + 1, 0, none⟩ = some (.pointer (some ⟨w.heap.size + 1, 0, none⟩)) := hbox.1
  have hm5 : Has V1 ⟨w.heap.size + 1, 5, none⟩ (.slice none 0 0) := by rw [hV]; exact w1_mem _ _ _ _ 5 _ rfl
  have HS := Lib.hid (fun (wx : World) (hb : Below V1.heap.size V1 wx) => short_is wx Al cl l.length l rfl h1000 ((hl.below hbV).below hb))
  have HST := Lib.hid (fun (w2 : World) (v : Value) (hb : Below V1.heap.size V1 w2) (ho : OwnI w2 V1.heap.size v (short l)) => start_of hr (v := v) (w2 := w2) (by rw [← hV]; exact hb) (by rw [← hV]; exact ho))
  have HB := Lib.hid (And.intro hbox hm5)
  have HV : Hid (V1 = _) := Lib.hid (by have h := hV; unfold W1 at h; exact h)
  have HCC := Lib.hid HC
  clear hbox hm5 hV hl hr HC hbV
  go_enter_defers Try.func7, Try.ntmps7
  go_upto_region 2 with fail
  rw [← HV.out]
  go_cut [] from 11 (fun wx => Hid (Started w wx AA ac ans l))
  case first =>
    refine wp_calm ?_
    go_region_with (go_at_call 24; refine (HS.out _ (by first | exact (Below.refl _ _).drew | exact bl_drewN _ _)).mono ?_; rintro e w2 ⟨v, rfl, ho, hb⟩; have hb2 : Below V1.heap.size V1 w2 := (Below.drew (Below.refl _ _)).trans hb; have hbx : w2.cell? ⟨w.heap.size + 1 + 1, 0, none⟩ = some (.pointer (some ⟨w.heap.size + 1, 0, none⟩)) := (HB.out.1.below hb2 HB.out.1.lt).1; have hb5 := (HB.out.2.below hb2 HB.out.2.lt).1; have hf5 := (HB.out.2.below hb2 HB.out.2.lt).2; obtain ⟨hT, A', c', rfl⟩ := HST.out _ _ hb2 ho; have HT := Lib.hid hT; clear hT ho hb hb2)
    all_goals
      refine calm_out ?_
      go_wp2_with fail
      go_meet
      exact HT
  case rest =>
    have HT := Lib.hid hcut.out
    have y0 : wc.cell? ⟨w.heap.size + 1 + 1, 0, none⟩ = some (.pointer (some ⟨w.heap.size + 1, 0, none⟩)) := hcut.out.box.1
    clear hcut hmin hmin2 hmin3 hx0 HS HST HB HV
    go_wp2_with fail
    refine (perform_is R fn cap hcf HT.out.at_ (fun b hb => (mineF_lt HT.out b hb).2) (fun w1 hb => HCC.out wc w1 _ HT.out.below (mineF_lt HT.out) HT.out.at_ hb)).mono ?_
    intro e w' hE
    have hmine : ∀ b, mineF w wc b → w.heap.size ≤ b := fun b hb => (mineF_lt HT.out b hb).1
    have hnF : ¬ More wc (mineF w wc) w.heap.size := fun h => by
      rcases h with (h | h) | h
      · omega
      · omega
      · have := HT.out.o0.lt; simp only at this; omega
    have hnB : ∀ b, More wc (mineF w wc) b → w.heap.size ≤ b := fun b h => by
      rcases h with h | h
      · exact hmine b h
      · exact Nat.le_trans HT.out.below.size h
    cases R with
    | go T x =>
      obtain ⟨rfl, hN⟩ := hE
      have hA := HT.out.after hN.step
      have hP : PT w' (w.heap.size + 1) 1 AA ac ans T _ := hN.at_
      have z0 := hA.box.1
      have z1 := hP.c0.1
      have HB := Lib.hid (HT.out.below.trans (hN.step.below w.heap.size hmine HT.out.below.size))
      have HG := Lib.hid (told_is hP true rfl)
      have HA := Lib.hid hA
      have HP := Lib.hid hP
      clear hN hA hP y0
      go_wp2_with fail
      refine HG.out.mono ?_
      rintro e w2 ⟨A1, A2, A3, c1, c2, c3, rfl, hK, hb⟩
      have hA2 := HA.out.below hb
      have hP2 := HP.out.grow hb
      have o0 := hA2.o0.1
      have o1 := hA2.o1.1
      have o2 := hA2.o2.1
      have o3 := hA2.o3.1
      have p0 := hA2.o0.2
      have p1 := hA2.o1.2
      have p2 := hA2.o2.2
      have p3 := hA2.o3.2
      have HF := Lib.hid (play_end hA2 hP2.six hK hnF hnB (HB.out.trans (hb.mono HB.out.size)))
      clear hA2 hP2 hK hb
      unfold outV
      go_wp2_with fail
      refine leaves_cons (f := 25) (args := #[.pointer (some ⟨w.heap.size + 1 + 1, 0, none⟩)]) (by simp) (by simp [go_sem]) ?_
      refine (HF.out .returning).mono ?_
      rintro e u' w3 ⟨rfl, rfl, k0, k1, k2, k3, hO, hB⟩
      have e0 := k0.1
      have e1 := k1.1
      have e2 := k2.1
      have e3 := k3.1
      simp [Leaves, settle, results, Try.results7, go_sem, e0, e1, e2, e3]
      exact ⟨_, rfl, hO, hB⟩
    | stop T =>
      obtain ⟨rfl, hN⟩ := hE
      have hA := HT.out.after hN.step
      have hP : PT w' (w.heap.size + 1) 2 AA ac ans T _ := hN.at_
      have z0 := hA.box.1
      have z1 := hP.c0.1
      have HB := Lib.hid (HT.out.below.trans (hN.step.below w.heap.size hmine HT.out.below.size))
      have HG := Lib.hid (told_is hP false rfl)
      have HA := Lib.hid hA
      have HP := Lib.hid hP
      clear hN hA hP y0
      go_wp2_with fail
      refine HG.out.mono ?_
      rintro e w2 ⟨A1, A2, A3, c1, c2, c3, rfl, hK, hb⟩
      have hA2 := HA.out.below hb
      have hP2 := HP.out.grow hb
      have o0 := hA2.o0.1
      have o1 := hA2.o1.1
      have o2 := hA2.o2.1
      have o3 := hA2.o3.1
      have p0 := hA2.o0.2
      have p1 := hA2.o1.2
      have p2 := hA2.o2.2
      have p3 := hA2.o3.2
      have HF := Lib.hid (play_end hA2 hP2.six hK hnF hnB (HB.out.trans (hb.mono HB.out.size)))
      clear hA2 hP2 hK hb
      unfold outV
      go_wp2_with fail
      refine leaves_cons (f := 25) (args := #[.pointer (some ⟨w.heap.size + 1 + 1, 0, none⟩)]) (by simp) (by simp [go_sem]) ?_
      refine (HF.out .returning).mono ?_
      rintro e u' w3 ⟨rfl, rfl, k0, k1, k2, k3, hO, hB⟩
      have e0 := k0.1
      have e1 := k1.1
      have e2 := k2.1
      have e3 := k3.1
      simp [Leaves, settle, results, Try.results7, go_sem, e0, e1, e2, e3]
      exact ⟨_, rfl, hO, hB⟩
end
end Go.Proofs.Ytjffgppdjdmmgaa
