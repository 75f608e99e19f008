/- BankApart: what happens to one cell does not show at any other one. Own work. -/
import Derived.Test.YtdfkmkflcnfchaaAlive9
import Derived.Deep.DeepCutAuto
namespace Go.Proofs.Ytdfkmkflcnfchaa
open Go.ChangeShapes Go.WideShapes Go.ChangeAt Go.RowKit CellM

/-- Two banks that tell the same of the cell k; the second one has no other access. -/
structure Apart (k : Int) (X Y : Bk) : Prop where
  l : X.L = Y.L
  c : X.c k = Y.c k
  d : ∀ t : Nat, t < 8 → (Y.d t = some k ↔ X.d t = some k)
  o : ∀ (t : Nat) n, t < 8 → Y.d t = some n → n = k
section
variable {k : Int} {X Y : Bk} {m m' : Nat} {t kk cl v draw : Int}
theorem Apart.beg_hit (h : Apart k X Y) (he : errBB X t kk k = 0) : errBB Y t kk k = 0 ∧ Apart k (begBB X t kk k v) (begBB Y t kk k v) := by
  obtain ⟨h1, h2, h3⟩ := errBB_zero he
  obtain ⟨ht, _, _⟩ := errB_zero h3
  obtain ⟨g0, g8⟩ := isT_iff ht
  have hX : X.d t.toNat = none := by unfold busyB at h2; rw [if_pos ht] at h2; exact h2
  have hY : busyB Y t = none := by
    unfold busyB
    rw [if_pos ht]
    cases hd : Y.d t.toNat with
    | none => rfl
    | some n =>
      have := h.o _ n (by omega) hd
      subst this
      have := (h.d _ (by omega)).1 hd
      rw [hX] at this; cases this
  have hy : errBB Y t kk k = 0 := by
    unfold errBB
    have hi : inB Y k = true := by unfold inB at h1 ⊢; rw [← h.l]; exact h1
    rw [hi, hY, ← h.c]
    simpa using h3
  refine ⟨hy, ?_⟩
  rw [begBB_ok he, begBB_ok hy]
  refine ⟨h.l, by simp only [updZ_same]; rw [h.c], fun u hu => ?_, fun u n hu => ?_⟩
  · simp only
    by_cases e : u = t.toNat
    · subst e; rw [upd_same, upd_same]
    · rw [upd_other _ _ _ e, upd_other _ _ _ e]; exact h.d u hu
  · simp only
    by_cases e : u = t.toNat
    · subst e; rw [upd_same]; intro hh; cases hh; rfl
    · rw [upd_other _ _ _ e]; exact h.o u n hu
theorem Apart.beg_miss (h : Apart k X Y) (he : errBB X t kk cl = 0) (hc : cl ≠ k) : Apart k (begBB X t kk cl v) Y := by
  obtain ⟨h1, h2, h3⟩ := errBB_zero he
  obtain ⟨ht, _, _⟩ := errB_zero h3
  obtain ⟨g0, g8⟩ := isT_iff ht
  have hX : X.d t.toNat = none := by unfold busyB at h2; rw [if_pos ht] at h2; exact h2
  rw [begBB_ok he]
  refine ⟨h.l, by simp only [updZ_other _ _ _ (fun e => hc e.symm)]; exact h.c, fun u hu => ?_, h.o⟩
  simp only
  by_cases e : u = t.toNat
  · subst e
    rw [upd_same, h.d _ hu, hX]
    simp [hc]
  · rw [upd_other _ _ _ e]; exact h.d u hu
theorem Apart.end_hit (h : Apart k X Y) (hb : busyB X t = some k) : busyB Y t = some k ∧ finVB X t draw = finVB Y t draw ∧ errEB X t = errEB Y t ∧ Apart k (finBB X t) (finBB Y t) := by
  obtain ⟨ht, hd⟩ := busyB_some hb
  obtain ⟨g0, g8⟩ := isT_iff ht
  have hY : busyB Y t = some k := by
    unfold busyB
    rw [if_pos ht]
    exact (h.d _ (by omega)).2 hd
  refine ⟨hY, by unfold finVB; rw [hb, hY]; simp only; rw [h.c], by unfold errEB; rw [hb, hY], ?_⟩
  rw [finBB_some hb, finBB_some hY]
  refine ⟨h.l, by simp only [updZ_same]; rw [h.c], fun u hu => ?_, fun u n hu => ?_⟩
  · simp only
    by_cases e : u = t.toNat
    · subst e; rw [upd_same, upd_same]
    · rw [upd_other _ _ _ e, upd_other _ _ _ e]; exact h.d u hu
  · simp only
    by_cases e : u = t.toNat
    · subst e; rw [upd_same]; intro hh; cases hh
    · rw [upd_other _ _ _ e]; exact h.o u n hu
theorem Apart.end_miss (h : Apart k X Y) {n : Int} (hb : busyB X t = some n) (hn : n ≠ k) : Apart k (finBB X t) Y := by
  obtain ⟨ht, hd⟩ := busyB_some hb
  obtain ⟨g0, g8⟩ := isT_iff ht
  rw [finBB_some hb]
  refine ⟨h.l, by simp only [updZ_other _ _ _ (fun e => hn e.symm)]; exact h.c, fun u hu => ?_, h.o⟩
  simp only
  by_cases e : u = t.toNat
  · subst e
    rw [upd_same, h.d _ hu, hd]
    simp [hn]
  · rw [upd_other _ _ _ e]; exact h.d u hu
theorem Apart.start (L : List Strip) (k : Int) : Apart k (newB L) (newB L) := ⟨rfl, rfl, fun _ _ => Iff.rfl, fun _ _ _ h => by cases h⟩
end
/-- The loop's state, i calls made. -/
def ApAt (B : Nat) (w0 w : World) (ba bb bx : Nat) (cs : Array Value) (k : Int) (i : Nat) : Prop :=
  ∃ X Y q1 q2, Two B w0 w (BP ba X q1) (BP bb Y q2) bx cs ∧ GoodB X (9 * i) ∧ GoodB Y (9 * i) ∧ Apart k X Y ∧ q1 ≤ i ∧ q2 ≤ i
def LA : List Strip := [⟨2, 1, 9⟩, ⟨2, 2, 9⟩]
theorem LA_ok : errS LA = 0 := by decide
theorem Two.six {B : Nat} {w0 w : World} {P R : World → (Nat → Prop) → Prop} {bx : Nat} {e : Bool} {t n k c v : Int} (H : Two B w0 w P R bx #[.bool e, .int .i64 t, .int .i64 n, .int .i64 k, .int .i64 c, .int .i64 v]) :
    w.cell? ⟨bx, 0, none⟩ = some (.bool e) ∧ w.cell? ⟨bx, 1, none⟩ = some (.int .i64 t) ∧ w.cell? ⟨bx, 2, none⟩ = some (.int .i64 n) ∧ w.cell? ⟨bx, 3, none⟩ = some (.int .i64 k) ∧ w.cell? ⟨bx, 4, none⟩ = some (.int .i64 c) ∧ w.cell? ⟨bx, 5, none⟩ = some (.int .i64 v) :=
  ⟨H.at_ (i := 0) rfl, H.at_ (i := 1) rfl, H.at_ (i := 2) rfl, H.at_ (i := 3) rfl, H.at_ (i := 4) rfl, H.at_ (i := 5) rfl⟩
set_option maxHeartbeats 8000000 in
set_option maxRecDepth 20000 in
theorem apart_is (w : World) (only : Int) (hon : 0 ≤ only ∧ only < 256) (A : Option Addr) (c n : Nat) (L : List Ac2) (hn : L.length = n) (hr : RA w A c L) :
    Calls Try.prog 4 #[.slice A n c, .int .u8 only] w fun e w' => e = .returned (.bool true) ∧ Below w.heap.size w w' := by
  subst hn
  have hmax : L.length ≤ maxLen := Nat.le_trans hr.1 hr.2.1
  unfold maxLen at hmax
  have R := Lib.hid hr; clear hr
  by_cases hl : L.length ≤ 60
  · obtain ⟨W, hW⟩ : ∃ W, W = w.alloc (.cells #[.int .i64 2, .int .i64 1, .int .i64 9, .int .i64 2, .int .i64 2, .int .i64 9] 48) := ⟨_, rfl⟩
    have hR : RS W (some ⟨w.heap.size, 0, none⟩) 2 LA := by rw [hW]; exact rs_lit w LA 2 rfl (by decide) _ _ rfl
    have hB0 : Below w.heap.size w W := by rw [hW]; exact (Below.refl _ _).alloc (Nat.le_refl _) _
    have HW := Lib.hid hW
    have HR := Lib.hid (And.intro hR hB0)
    clear hW hR hB0
    go_enter Try.func4, Try.ntmps4
    go_wp2_with fail
    rw [← HW.out]
    refine (newB_is W _ 2 2 LA rfl HR.out.1).mono ?_; rintro e w1 hg
    obtain ⟨ba, rfl, hg1, hM, hB1⟩ := gives_ok hg LA_ok
    have M := Lib.hid (Two.first W w1 (bp_frames ba (newB LA) 0) hM hB1)
    have HB1 := Lib.hid (And.intro hB1 hg1)
    clear hg hM hB1 hg1
    go_wp2_with fail
    refine (newB_is w1 _ 2 2 LA rfl (HR.out.1.below HB1.out.1)).mono ?_; rintro e w2 hg
    obtain ⟨bb, rfl, hg2, hM, hB2⟩ := gives_ok hg LA_ok
    have M2 := Lib.hid (show ApAt W.heap.size W w2 ba bb 0 #[] (only % 4) 0 from ⟨_, _, 0, 0, M.out.second (bp_frames _ _ _) (bp_frames bb (newB LA) 0) hM hB2, hg2, hg2, Apart.start _ _, Nat.le_refl _, Nat.le_refl _⟩)
    clear hg hM hB2 hg2 M
    have hk4 : 0 ≤ only % 4 ∧ only % 4 < 4 := by omega
    have RW := Lib.hid (R.out.below HR.out.2)
    clear HB1
    go_wp2_with fail
    go_loopw [11] (fun i wr => ∃ k : Nat, k ≤ L.length ∧ i = .int .i64 k ∧ Hid (ApAt W.heap.size W wr ba bb 0 #[] (only % 4) k)) (fun i _ => L.length - (Go.RowKit.intOf i).toNat)
    case atStart => exact ⟨0, by omega, rfl, M2⟩
    case round =>
      obtain ⟨i, hi, rfl, M⟩ := hrel
      clear M2
      by_cases hlt : i < L.length
      · obtain ⟨X, Y, q1, q2, hM, hGX, hGY, hAp, hq1, hq2⟩ := M.out
        obtain ⟨ad, rfl, hx0, hx1, hx2, hx3, hx4, hx5⟩ := (RW.out.below hM.base.1).2.2 i hlt
        clear M
        obtain ⟨av, hav⟩ : ∃ av, av = L[i] := ⟨_, rfl⟩
        rw [← hav] at hx0 hx1 hx2 hx3 hx4 hx5
        clear hav
        obtain ⟨ae, t, dr, kk, cl, v⟩ := av
        simp only at hx0 hx1 hx2 hx3 hx4 hx5
        have HB := Lib.hid (hM.box (bp_frames _ _ _) (bp_frames _ _ _) #[.bool ae, .int .i64 t, .int .i64 dr, .int .i64 kk, .int .i64 cl, .int .i64 v] 37)
        have HS := Lib.hid (And.intro hGX (And.intro hGY hAp))
        have hm9 : 9 * i ≤ 90000 := by omega
        have hq1' : q1 < 1000000 := by omega
        have hq2' : q2 < 1000000 := by omega
        clear hM hGX hGY hAp
        obtain ⟨o, ho⟩ : ∃ o, busyB X t = o := ⟨_, rfl⟩
        have HO := Lib.hid ho
        clear ho
        go_wp2_with fail
        refine (HB.out.calls_busy (bp_frames _ _ _) t o HO.out).mono ?_; rintro e w3 ⟨rfl, h3⟩
        obtain ⟨y0, y1, y2, y3, y4, y5⟩ := h3.six
        have M3 := Lib.hid h3; clear h3 HB
        have hbv : busyV o = .tuple #[.int .i64 (o.getD 0), .bool o.isSome] := rfl
        rw [hbv]
        clear hbv
        go_upto_if 63 with fail
        go_cut [] (fun wx => Hid (ApAt W.heap.size W wx ba bb wr.heap.size #[.bool ae, .int .i64 t, .int .i64 dr, .int .i64 kk, .int .i64 cl, .int .i64 v] (only % 4) (i + 1)))
        case first =>
          cases ae
          case true =>
            go_wp2_with fail
            refine (M3.out.calls_end (bp_frames _ _ _) HS.out.1 hm9 t dr).mono ?_; rintro e w4 ⟨rfl, h4⟩
            obtain ⟨z0, z1, z2, z3, z4, z5⟩ := h4.six
            have M4 := Lib.hid h4; clear h4 M3
            cases o with
            | none =>
              go_wp2_with fail
              go_meet
              case rel => exact Lib.hid ⟨_, _, _, _, M4.out, (HS.out.1.fin t).mono (by omega), HS.out.2.1.mono (by omega), by rw [finBB_none HO.out]; exact HS.out.2.2, by omega, by omega⟩
            | some nn =>
              by_cases hnk : nn = only % 4
              · subst hnk
                obtain ⟨g1, g2, g3, g4⟩ := HS.out.2.2.end_hit (draw := dr) HO.out
                have d1 : (finVB X t dr != finVB Y t dr) = false := by rw [g2]; simp
                have d2 : (errEB X t != errEB Y t) = false := by rw [g3]; simp
                have HG4 := Lib.hid g4
                clear g1 g2 g3 g4
                go_wp2_with fail
                refine (M4.out.swap.calls_end (bp_frames _ _ _) HS.out.2.1 hm9 t dr).mono ?_; rintro e w5 ⟨rfl, h5⟩
                have M5 := Lib.hid h5.swap; clear h5 M4
                go_wp2_with fail
                go_meet
                case rel => exact Lib.hid ⟨_, _, _, _, M5.out, (HS.out.1.fin t).mono (by omega), (HS.out.2.1.fin t).mono (by omega), HG4.out, by omega, by omega⟩
              · have d1 : (nn == only % 4) = false := by simp [hnk]
                have HG4 := Lib.hid (HS.out.2.2.end_miss HO.out hnk)
                clear hnk
                go_wp2_with fail
                go_meet
                case rel => exact Lib.hid ⟨_, _, _, _, M4.out, (HS.out.1.fin t).mono (by omega), HS.out.2.1.mono (by omega), HG4.out, by omega, by omega⟩
          case false =>
            by_cases he : errBB X t kk cl = 0
            · have d0 : (errBB X t kk cl == 0) = true := by simp [he]
              by_cases hck : cl = only % 4
              · subst hck
                obtain ⟨g1, g2⟩ := HS.out.2.2.beg_hit (v := v) he
                have HG2 := Lib.hid (And.intro g1 g2)
                clear g1 g2 he
                go_wp2_with fail
                refine (M3.out.calls_beg (bp_frames _ _ _) HS.out.1 hm9 hq1' t kk (only % 4) v).mono ?_; rintro e w4 ⟨rfl, h4⟩
                obtain ⟨z0, z1, z2, z3, z4, z5⟩ := h4.six
                have M4 := Lib.hid h4; clear h4 M3
                go_wp2_with fail
                refine (M4.out.swap.calls_beg (bp_frames _ _ _) HS.out.2.1 hm9 hq2' t kk (only % 4) v).mono ?_; rintro e w5 ⟨rfl, h5⟩
                have M5 := Lib.hid h5.swap; clear h5 M4
                rw [HG2.out.1]
                go_wp2_with fail
                go_meet
                case rel => exact Lib.hid ⟨_, _, _, _, M5.out, (HS.out.1.beg _ _ _ _).mono (by omega), (HS.out.2.1.beg _ _ _ _).mono (by omega), HG2.out.2, by omega, by omega⟩
              · have d1 : (cl == only % 4) = false := by simp [hck]
                have HG2 := Lib.hid (HS.out.2.2.beg_miss (v := v) he hck)
                clear he hck
                go_wp2_with fail
                refine (M3.out.calls_beg (bp_frames _ _ _) HS.out.1 hm9 hq1' t kk cl v).mono ?_; rintro e w4 ⟨rfl, h4⟩
                obtain ⟨z0, z1, z2, z3, z4, z5⟩ := h4.six
                have M4 := Lib.hid h4; clear h4 M3
                go_wp2_with fail
                go_meet
                case rel => exact Lib.hid ⟨_, _, _, _, M4.out, (HS.out.1.beg _ _ _ _).mono (by omega), HS.out.2.1.mono (by omega), HG2.out, by omega, by omega⟩
            · have d0 : (errBB X t kk cl == 0) = false := by simp [he]
              have HG2 := Lib.hid (begBB_bad (v := v) he)
              clear he
              go_wp2_with fail
              refine (M3.out.calls_beg (bp_frames _ _ _) HS.out.1 hm9 hq1' t kk cl v).mono ?_; rintro e w4 ⟨rfl, h4⟩
              obtain ⟨z0, z1, z2, z3, z4, z5⟩ := h4.six
              have M4 := Lib.hid h4; clear h4 M3
              go_wp2_with fail
              go_meet
              case rel => exact Lib.hid ⟨_, _, _, _, M4.out, (HS.out.1.beg _ _ _ _).mono (by omega), HS.out.2.1.mono (by omega), by rw [HG2.out]; exact HS.out.2.2, by omega, by omega⟩
        case rest =>
          clear M3 HS HO y0 y1 y2 y3 y4 y5 hx0 hx1 hx2 hx3 hx4 hx5
          obtain ⟨X', Y', q1', q2', hM, hGX, hGY, hAp, hq1'', hq2''⟩ := hcut.out
          clear hcut
          have hv : (X'.c (only % 4)).value = (Y'.c (only % 4)).value := by rw [hAp.c]
          have hkw : (Lit.int .i64 (only % 4)).wf = true := WalkArith.wf_i64 (by omega)
          have dv : ((X'.c (only % 4)).value != (Y'.c (only % 4)).value) = false := by rw [hv]; simp
          have HM := Lib.hid (show ApAt W.heap.size W wc ba bb 0 #[] (only % 4) (i + 1) from ⟨X', Y', q1', q2', hM.unbox, hGX, hGY, hAp, hq1'', hq2''⟩)
          have HT := Lib.hid (And.intro hM (And.intro hGX (And.intro hGY hkw)))
          clear hM hGX hGY hAp hv hkw
          go_wp2_with fail
          refine (HT.out.1.calls_value HT.out.2.1 _ HT.out.2.2.2).mono ?_; rintro e wz ⟨rfl, hwz⟩
          subst hwz
          go_wp2_with fail
          refine (HT.out.1.swap.calls_value HT.out.2.2.1 _ HT.out.2.2.2).mono ?_; rintro e wz ⟨rfl, hwz⟩
          subst hwz
          go_wp2_with fail
          go_roundw
          case rel => exact ⟨i + 1, by omega, by go_num, HM⟩
          case measure => simp [Go.RowKit.intOf]; omega
      · obtain rfl : i = L.length := by omega
        obtain ⟨X, Y, q1, q2, hM, _⟩ := M.out
        have MB := Lib.hid hM.base
        clear hM M
        go_wp2_with fail
        refine (alive_is _).mono ?_; rintro e w' ⟨rfl, hB⟩
        have HB := Lib.hid hB; clear hB
        go_wp2_with fail
        go_ret
        exact ⟨rfl, (HR.out.2.trans (MB.out.1.mono HR.out.2.size)).trans (HB.out.mono (Nat.le_trans HR.out.2.size MB.out.2))⟩
  · go_enter Try.func4, Try.ntmps4
    go_wp2_with fail
    refine (alive_is _).mono ?_; rintro e w' ⟨rfl, hB⟩
    have HB := Lib.hid hB; clear hB
    go_wp2_with fail
    go_ret
    exact ⟨rfl, HB.out⟩
end Go.Proofs.Ytdfkmkflcnfchaa
