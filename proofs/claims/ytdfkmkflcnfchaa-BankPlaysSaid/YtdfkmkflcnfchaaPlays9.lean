/- The reference's Begin whole; both banks side by side; BankPlays: every call, in every order, as the reference answers. Own work. -/
import Derived.Test.YtdfkmkflcnfchaaRBegB
import Derived.Test.YtdfkmkflcnfchaaRUsed
import Derived.Test.YtdfkmkflcnfchaaInts
import Derived.Test.YtdfkmkflcnfchaaAlive9
import Derived.Deep.DeepCutAuto
import Derived.Deep.RegionHeld3
namespace Go.Proofs.Ytdfkmkflcnfchaa
open Go.ChangeShapes Go.WideShapes Go.ChangeAt Go.RowKit CellM

theorem beginRB_is (w : World) (rb : Nat) (SA : Option Addr) (len sc : Nat) (X : Bk) (R : Int → Rs) (i : Nat) (G : Nat → Prop) (t k cl v : Int) (H : RBAt w rb (.slice SA len sc) X.no R G) (hS : SimB X R i) (hlen : X.L.length = len) (hr : RS w SA sc X.L) (hi : i ≤ 90) :
    Calls Try.prog 10 #[.pointer (some ⟨rb, 0, none⟩), .int .i64 t, .agg #[.int .i64 k, .int .i64 cl, .int .i64 v]] w fun e w' => e = .returned (.int .i64 (errBB X t k cl)) ∧ RBNow w w' rb (.slice SA len sc) (begBB X t k cl v).no (rbeg X R t k cl v) G := by
  by_cases hin : inB X cl = true
  · cases hbu : busyB X t with
    | some n => exact beginRB_busy w rb SA len sc X R i G t k cl v H hS hlen hr hin hbu
    | none =>
      by_cases hee : errB (X.c cl) t k = 0
      · exact beginRB_ok w rb SA len sc X R i G t k cl v H hS hlen hr hi hin hbu hee
      · by_cases ht : 0 ≤ t ∧ t < 8
        · have hT : isT t = true := by unfold isT; simp; omega
          have hk0 : ((X.c cl).d t.toNat).k = 0 := by
            by_cases h : ((X.c cl).d t.toNat).k = 0
            · exact h
            · have h2 := (hS.good.busy t.toNat cl (by omega)).1 h
              unfold busyB at hbu
              rw [if_pos hT, h2] at hbu
              cases hbu
          have hk : k ≠ 1 ∧ k ≠ 2 := by
            refine ⟨fun e => hee ?_, fun e => hee ?_⟩
            all_goals
              unfold errB
              rw [if_neg (by rw [hT]; simp; omega), if_neg (by simp [hk0])]
          have he1 : errB (X.c cl) t k = 1 := by unfold errB; rw [if_pos (.inr hk)]
          exact beginRB_argK w rb SA len sc X R i G t k cl v H hS hlen hr hin hbu he1 ht (by omega)
        · have hT : isT t = false := by unfold isT; simp; omega
          have he1 : errB (X.c cl) t k = 1 := by unfold errB; rw [if_pos (.inl hT)]
          exact beginRB_argT w rb SA len sc X R i G t k cl v H hS hlen hr hin hbu he1 ht
  · exact beginRB_out w rb SA len sc X R i G t k cl v H hS hlen hr (by simpa using hin)
def busyI (o : Option Int) : Int := match o with
  | some n => n
  | none => -1
theorem finBB_no (X : Bk) (t : Int) : (finBB X t).no = X.no := by unfold finBB; split <;> rfl
theorem finBB_L (X : Bk) (t : Int) : (finBB X t).L = X.L := by unfold finBB; split <;> rfl
theorem begBB_L (X : Bk) (t k cl v : Int) : (begBB X t k cl v).L = X.L := by unfold begBB; split <;> rfl
section
variable {B : Nat} {w0 w w' : World} {P : World → (Nat → Prop) → Prop} {bx : Nat} {cs : Array Value} {rb i : Nat} {SA : Option Addr} {len sc : Nat} {X : Bk} {R : Int → Rs} {no : List Int}
theorem Two.calls_endR (H : Two B w0 w P (RBP rb (.slice SA len sc) X.no R) bx cs) (kP : Frames P) (hS : SimB X R i) (hi : i ≤ 90) (t draw : Int) : Calls Try.prog 8 #[.pointer (some ⟨rb, 0, none⟩), .int .i64 t, .int .i64 draw] w fun e w' => e = .returned (.tuple #[.int .i64 (finVB X t draw), .int .i64 (errEB X t)]) ∧ Two B w0 w' P (RBP rb (.slice SA len sc) X.no (rfin X R t)) bx cs := by
  obtain ⟨F, G, H⟩ := H
  exact (endRB_is w rb _ X R i G t draw H.r hS hi).mono fun _ _ ⟨h1, h2⟩ => ⟨h1, (H.swap.now (rbp_frames _ _ _ _) kP h2.at_ h2.step).swap⟩
theorem Two.calls_begR (H : Two B w0 w P (RBP rb (.slice SA len sc) X.no R) bx cs) (kP : Frames P) (hS : SimB X R i) (hi : i ≤ 90) (hlen : X.L.length = len) (hr : RS w SA sc X.L) (t k cl v : Int) : Calls Try.prog 10 #[.pointer (some ⟨rb, 0, none⟩), .int .i64 t, .agg #[.int .i64 k, .int .i64 cl, .int .i64 v]] w fun e w' => e = .returned (.int .i64 (errBB X t k cl)) ∧ Two B w0 w' P (RBP rb (.slice SA len sc) (begBB X t k cl v).no (rbeg X R t k cl v)) bx cs := by
  obtain ⟨F, G, H⟩ := H
  exact (beginRB_is w rb SA len sc X R i G t k cl v H.r hS hlen hr hi).mono fun _ _ ⟨h1, h2⟩ => ⟨h1, (H.swap.now (rbp_frames _ _ _ _) kP h2.at_ h2.step).swap⟩
theorem Two.calls_busyR (H : Two B w0 w P (RBP rb (.slice SA len sc) X.no R) bx cs) (hS : SimB X R i) (t : Int) (o : Option Int) (ho : busyB X t = o) : Calls Try.prog 12 #[.pointer (some ⟨rb, 0, none⟩), .int .i64 t] w fun e w' => e = .returned (.int .i64 (busyI o)) ∧ w = w' := by
  obtain ⟨F, G, H⟩ := H
  obtain ⟨NA, CA, nh, nc, ch, cc, rp, Gc, hD⟩ := H.r
  have := busyRB_is hD t
  rw [hS.busy t, ho] at this
  exact this
theorem Two.calls_valueR (H : Two B w0 w P (RBP rb (.slice SA len sc) X.no R) bx cs) (hS : SimB X R i) (n : Int) : Calls Try.prog 14 #[.pointer (some ⟨rb, 0, none⟩), .int .i64 n] w fun e w' => e = .returned (.int .i64 (X.c n).value) ∧ w = w' := by
  obtain ⟨F, G, H⟩ := H
  obtain ⟨NA, CA, nh, nc, ch, cc, rp, Gc, hD⟩ := H.r
  exact valueRB_is hD n _ (hS.value n) (fun h => hS.good.value h)
theorem Two.calls_usedR (H : Two B w0 w P (RBP rb (.slice SA len sc) X.no R) bx cs) (kP : Frames P) (hS : SimB X R i) (hi : i ≤ 90) : Calls Try.prog 17 #[.pointer (some ⟨rb, 0, none⟩)] w fun e w' => ∃ A c, e = .returned (.slice A X.no.length c) ∧ RI w' A c (sortI X.no) ∧ Two B w0 w' P (RBP rb (.slice SA len sc) X.no R) bx cs ∧ Below w.heap.size w w' := by
  have H1 := H
  obtain ⟨F, G, H⟩ := H
  obtain ⟨NA, CA, nh, nc, ch, cc, rp, Gc, hD⟩ := H.r
  exact (usedRB_is hD (by have := hS.nol; omega)).mono fun _ _ ⟨A, c, h1, h2, h3⟩ => ⟨A, c, h1, h2, H1.grow kP (rbp_frames _ _ _ _) h3, h3⟩
end
/-- The reference's bank is made. -/
theorem newRB (w : World) (SV : Value) (R : Int → Rs) (t : TypeId) (cs : Array Value) (hc : cs = #[SV, .slice none 0 0, .slice none 0 0]) : RBAt (w.alloc (.cells cs t)) w.heap.size SV [] R (fun b => w.heap.size ≤ b) := by
  subst hc
  exact ⟨none, none, 0, 0, 0, 0, fun _ => 0, fun _ _ => False, has_new _ _ _ 0 _ rfl, has_new _ _ _ 1 _ rfl, has_new _ _ _ 2 _ rfl, RowK.nil _ _ _, RowK.nil _ _ _, fun n hn => by simp at hn, Nat.le_refl _, fun h => absurd rfl h, fun h => absurd rfl h, fun h => absurd rfl h, fun n hn => by simp at hn, fun n hn => by simp at hn, fun n hn => by simp at hn⟩
/-- The loop's state, i calls made. -/
def PlAt (B : Nat) (w0 w : World) (ba rb bx : Nat) (SA : Option Addr) (len sc : Nat) (L : List Strip) (cs : Array Value) (i : Nat) : Prop :=
  ∃ X R q, Two B w0 w (BP ba X q) (RBP rb (.slice SA len sc) X.no R) bx cs ∧ SimB X R i ∧ q ≤ i ∧ X.L = L

theorem Two.six {B : Nat} {w0 w : World} {P R : World → (Nat → Prop) → Prop} {bx : Nat} {e : Bool} {t n k c v : Int} (H : Two B w0 w P R bx #[.bool e, .int .i64 t, .int .i64 n, .int .i64 k, .int .i64 c, .int .i64 v]) :
    w.cell? ⟨bx, 0, none⟩ = some (.bool e) ∧ w.cell? ⟨bx, 1, none⟩ = some (.int .i64 t) ∧ w.cell? ⟨bx, 2, none⟩ = some (.int .i64 n) ∧ w.cell? ⟨bx, 3, none⟩ = some (.int .i64 k) ∧ w.cell? ⟨bx, 4, none⟩ = some (.int .i64 c) ∧ w.cell? ⟨bx, 5, none⟩ = some (.int .i64 v) :=
  ⟨H.at_ (i := 0) rfl, H.at_ (i := 1) rfl, H.at_ (i := 2) rfl, H.at_ (i := 3) rfl, H.at_ (i := 4) rfl, H.at_ (i := 5) rfl⟩
theorem Two.four {B : Nat} {w0 w : World} {P R : World → (Nat → Prop) → Prop} {bx : Nat} {e : Bool} {t n k c v : Int} (H : Two B w0 w P R bx #[.bool e, .int .i64 t, .int .i64 n, .int .i64 k, .int .i64 c, .int .i64 v]) :
    w.cell? ⟨bx, 1, none⟩ = some (.int .i64 t) ∧ w.cell? ⟨bx, 3, none⟩ = some (.int .i64 k) ∧ w.cell? ⟨bx, 4, none⟩ = some (.int .i64 c) ∧ w.cell? ⟨bx, 5, none⟩ = some (.int .i64 v) :=
  ⟨H.at_ (i := 1) rfl, H.at_ (i := 3) rfl, H.at_ (i := 4) rfl, H.at_ (i := 5) rfl⟩
set_option maxHeartbeats 16000000 in
set_option maxRecDepth 20000 in
theorem plays_is (w : World) (A0 : Option Addr) (c0 n0 : Nat) (L : List Strip) (hn0 : L.length = n0) (hr0 : RS w A0 c0 L) (A : Option Addr) (c n : Nat) (T : List Ac2) (hn : T.length = n) (hr : RA w A c T) (hwf : ∀ k (hk : k < T.length), (Lit.int .i64 T[k].c).wf = true) :
    Calls Try.prog 3 #[.slice A0 n0 c0, .slice A n c] w fun e w' => e = .returned (.bool true) ∧ Below w.heap.size w w' := by
  subst hn
  have hmax : T.length ≤ maxLen := Nat.le_trans hr.1 hr.2.1
  unfold maxLen at hmax
  have hmax0 := hr0.max
  have R := Lib.hid hr; clear hr
  have R0 := Lib.hid (And.intro hr0 hn0)
  have HWF := Lib.hid hwf
  rw [hn0] at hmax0
  clear hr0 hn0 hwf
  by_cases hl0 : n0 ≤ 20
  · by_cases hl : T.length ≤ 60
    · by_cases hok : errS L = 0
      · have HOK := Lib.hid hok
        clear hok
        go_enter Try.func3, Try.ntmps3
        go_wp2_with fail
        refine (newB_is w A0 c0 n0 L R0.out.2 R0.out.1).mono ?_; rintro e w1 hg
        obtain ⟨ba, rfl, hg1, hM, hB1⟩ := gives_ok hg HOK.out
        have M0 := Lib.hid (show PlAt w.heap.size w (w1.alloc (.cells #[.slice A0 n0 c0, .slice none 0 0, .slice none 0 0] 33)) ba w1.heap.size 0 A0 n0 c0 L #[] 0 from
          ⟨newB L, newRC L, 0, (Two.first w w1 (bp_frames ba (newB L) 0) hM hB1).second (bp_frames _ _ _) (rbp_frames w1.heap.size (.slice A0 n0 c0) [] (newRC L)) (newRB w1 _ _ _ _ rfl) ((Below.refl _ _).alloc (Nat.le_refl _) _), simB_new HOK.out, Nat.le_refl _, rfl⟩)
        clear hg hM hB1 hg1
        go_wp2_with fail
        go_loopw [8] (fun i wr => ∃ k : Nat, k ≤ T.length ∧ i = .int .i64 k ∧ Hid (PlAt w.heap.size w wr ba w1.heap.size 0 A0 n0 c0 L #[] k)) (fun i _ => T.length - (Go.RowKit.intOf i).toNat)
        case atStart => exact ⟨0, by omega, rfl, M0⟩
        case round =>
          obtain ⟨k, hk, rfl, M⟩ := hrel
          clear M0
          by_cases hlt : k < T.length
          · obtain ⟨X, RR, q, hM, hSim, hq, hXL⟩ := M.out
            obtain ⟨ad, rfl, hx0, hx1, hx2, hx3, hx4, hx5⟩ := (R.out.below (hM.base.1.mono (Nat.le_refl _))).2.2 k hlt
            have hw := HWF.out k hlt
            clear M
            obtain ⟨av, hav⟩ : ∃ av, av = T[k] := ⟨_, rfl⟩
            rw [← hav] at hx0 hx1 hx2 hx3 hx4 hx5 hw
            clear hav
            obtain ⟨ae, t, dr, kk, cl, v⟩ := av
            simp only at hx0 hx1 hx2 hx3 hx4 hx5 hw
            have HB := Lib.hid (hM.box (bp_frames _ _ _) (rbp_frames _ _ _ _) #[.bool ae, .int .i64 t, .int .i64 dr, .int .i64 kk, .int .i64 cl, .int .i64 v] 37)
            have HS := Lib.hid (And.intro hSim (And.intro hw hXL))
            have hm9 : 9 * k ≤ 90000 := by omega
            have hq' : q < 1000000 := by omega
            have hk90 : k ≤ 90 := by omega
            have HLEN : Hid (X.L.length = n0 ∧ ∀ wx, Below w.heap.size w wx → RS wx A0 c0 X.L) := Lib.hid ⟨by rw [hXL]; exact R0.out.2, fun wx hb => by rw [hXL]; exact R0.out.1.below hb⟩
            clear hM hSim hw hXL
            go_upto_if 52 with fail
            go_cut [] (fun wx => Hid (PlAt w.heap.size w wx ba w1.heap.size wr.heap.size A0 n0 c0 L #[.bool ae, .int .i64 t, .int .i64 dr, .int .i64 kk, .int .i64 cl, .int .i64 v] (k + 1)))
            case first =>
              cases ae
              case true =>
                go_wp2_with fail
                refine (HB.out.calls_end (rbp_frames _ _ _ _) HS.out.1.good hm9 t dr).mono ?_; rintro e w4 ⟨rfl, h4⟩
                obtain ⟨z0, z1, z2, z3, z4, z5⟩ := h4.six
                have M4 := Lib.hid h4; clear h4
                go_wp2_with fail
                refine (M4.out.calls_endR (bp_frames _ _ _) HS.out.1 hk90 t dr).mono ?_; rintro e w5 ⟨rfl, h5⟩
                have M5 := Lib.hid h5; clear h5 M4
                go_wp2_with fail
                go_meet
                case rel => exact Lib.hid ⟨finBB X t, rfin X RR t, q, by rw [finBB_no]; exact M5.out, HS.out.1.fin t, by omega, by rw [finBB_L]; exact HS.out.2.2⟩
              case false =>
                have HBd := Lib.hid (HB.out.grow (bp_frames _ _ _) (rbp_frames _ _ _ _) (Below.refl _ _).drew)
                go_upto_region 16 with fail
                go_cut [91] (fun s wx => s = .bool false ∧ Hid (PlAt w.heap.size w wx ba w1.heap.size wr.heap.size A0 n0 c0 L #[.bool false, .int .i64 t, .int .i64 dr, .int .i64 kk, .int .i64 cl, .int .i64 v] (k + 1)))
                case first =>
                  have HE : Hid (∀ wz, Two w.heap.size w wz (BP ba (begBB X t kk cl v) (q + 1)) (RBP w1.heap.size (.slice A0 n0 c0) (begBB X t kk cl v).no (rbeg X RR t kk cl v)) wr.heap.size #[.bool false, .int .i64 t, .int .i64 dr, .int .i64 kk, .int .i64 cl, .int .i64 v] → PlAt w.heap.size w wz ba w1.heap.size wr.heap.size A0 n0 c0 L #[.bool false, .int .i64 t, .int .i64 dr, .int .i64 kk, .int .i64 cl, .int .i64 v] (k + 1)) :=
                    Lib.hid (fun wz hz => ⟨_, _, q + 1, hz, HS.out.1.beg t kk cl v, by omega, by rw [begBB_L]; exact HS.out.2.2⟩)
                  go_region_held3 (fun wx => wx.cell? ⟨wr.heap.size, 1, none⟩ = some (.int .i64 t) ∧ wx.cell? ⟨wr.heap.size, 3, none⟩ = some (.int .i64 kk) ∧ wx.cell? ⟨wr.heap.size, 4, none⟩ = some (.int .i64 cl) ∧ wx.cell? ⟨wr.heap.size, 5, none⟩ = some (.int .i64 v))
                    (first | exact H3.out.four | exact H2P.out.four | exact H2R.out.four | exact HBd.out.four)
                    (first
                    | (go_at_call 9; with_reducible refine (H2R.out.calls_beg (rbp_frames _ _ _ _) HS.out.1.good hm9 hq' t kk cl v).mono ?_; rintro e w3 ⟨he, h3⟩; subst he; have H3 := Lib.hid h3; clear h3)
                    | (go_at_call 9; with_reducible refine (HBd.out.calls_beg (rbp_frames _ _ _ _) HS.out.1.good hm9 hq' t kk cl v).mono ?_; rintro e w2 ⟨he, h2⟩; subst he; have H2P := Lib.hid h2; clear h2)
                    | (go_at_call 10; with_reducible refine (H2P.out.calls_begR (bp_frames _ _ _) HS.out.1 hk90 HLEN.out.1 (HLEN.out.2 _ H2P.out.base.1) t kk cl v).mono ?_; rintro e w3 ⟨he, h3⟩; subst he; have H3 := Lib.hid h3; clear h3)
                    | (go_at_call 10; with_reducible refine (HBd.out.calls_begR (bp_frames _ _ _) HS.out.1 hk90 HLEN.out.1 (HLEN.out.2 _ HBd.out.base.1) t kk cl v).mono ?_; rintro e w2 ⟨he, h2⟩; subst he; have H2R := Lib.hid h2; clear h2))
                  all_goals
                    go_wp2_with fail
                    go_meet
                    exact ⟨rfl, Lib.hid (HE.out _ H3.out)⟩
                case rest =>
                  obtain ⟨rfl, H3⟩ := hcut
                  go_wp2_with fail
                  go_meet
                  case rel => exact H3
            case rest =>
              clear HB HLEN hx0 hx1 hx2 hx3 hx4 hx5 hq' hm9
              obtain ⟨X', R', q', hM, hS', hq2, hXL⟩ := hcut.out
              clear hcut
              have HW2 := Lib.hid HS.out.2.1
              clear HS
              obtain ⟨y0, y1, y2, y3, y4, y5⟩ := hM.six
              obtain ⟨o, ho⟩ : ∃ o, busyB X' t = o := ⟨_, rfl⟩
              have HO := Lib.hid ho
              have HOI := Lib.hid (fun n (h : o = some n) => (show 0 ≤ n from by
                have h2 := hS'.good.in_ n (hS'.used (by rw [ho, h]))
                simp [inB] at h2
                exact h2.1))
              clear ho
              have HM := Lib.hid hM
              have HSS := Lib.hid hS'
              have HXL := Lib.hid hXL
              have hq3 : q' ≤ 1000000 := by omega
              have hk91 : k + 1 ≤ 90 := by omega
              clear hM hS' hXL
              go_wp2_with fail
              refine (HM.out.calls_busy (rbp_frames _ _ _ _) t o HO.out).mono ?_; rintro e w3 ⟨rfl, h3⟩
              clear y0 y1 y2 y3 y4 y5
              obtain ⟨y0, y1, y2, y3, y4, y5⟩ := h3.six
              have M3 := Lib.hid h3; clear h3
              have hbv : busyV o = .tuple #[.int .i64 (o.getD 0), .bool o.isSome] := rfl
              rw [hbv]
              clear hbv
              go_wp2_with fail
              refine (M3.out.calls_busyR HSS.out t o HO.out).mono ?_; rintro e wz ⟨rfl, hwz⟩
              subst hwz
              have HMd := Lib.hid (M3.out.grow (bp_frames _ _ _) (rbp_frames _ _ _ _) (Below.refl _ _).drew)
              have HE : Hid (∀ wz, Two w.heap.size w wz (BP ba X' q') (RBP w1.heap.size (.slice A0 n0 c0) X'.no R') wr.heap.size #[.bool ae, .int .i64 t, .int .i64 dr, .int .i64 kk, .int .i64 cl, .int .i64 v] → PlAt w.heap.size w wz ba w1.heap.size 0 A0 n0 c0 L #[] (k + 1)) :=
                Lib.hid (fun wz hz => ⟨_, _, q', hz.unbox, HSS.out, hq2, HXL.out⟩)
              cases o with
              | none =>
                rw [show busyI none = -1 from rfl]
                go_upto_region 20 with fail
                go_cut [143] (fun s wx => s = .bool false ∧ Hid (PlAt w.heap.size w wx ba w1.heap.size 0 A0 n0 c0 L #[] (k + 1)))
                case first =>
                  clear HM
                  refine wp_region_held_drew (S := fun wx => wx.cell? ⟨wr.heap.size, 4, none⟩ = some (.int .i64 cl)) (by kernel_rfl) ?_ (fun hHeld => ?_)
                  · exact HMd.out.four.2.2.1
                  refine wpAnyH_take (i := 0) (oi := { dst := some 103, op := Op.move (Operand.tmp 15), type := 4, pos := "law.go:72", after := #[], guard := none }) (v := (.bool false)) rfl (by kernel_rfl) (by kernel_rfl) (by kernel_rfl) (fun _ _ _ h => h) (Or.inl ⟨by rfl, ?_⟩) (by assumption) ?_
                  · intro w hSw; (try dsimp only at hSw); first | (go_simp; done) | (go_simp; with_reducible rfl)
                  try simp only [Act.put, List.setIfInBounds_toArray, List.set_cons_zero, List.set_cons_succ]
                  refine wpAnyH_take (i := 1) (oi := { dst := some 104, op := Op.move (Operand.tmp 16), type := 3, pos := "law.go:72", after := #[], guard := none }) (v := (.int .i64 (-1))) rfl (by kernel_rfl) (by kernel_rfl) (by kernel_rfl) (fun _ _ _ h => h) (Or.inl ⟨by rfl, ?_⟩) (by assumption) ?_
                  · intro w hSw; (try dsimp only at hSw); first | (go_simp; done) | (go_simp; with_reducible rfl)
                  try simp only [Act.put, List.setIfInBounds_toArray, List.set_cons_zero, List.set_cons_succ]
                  refine wpAnyH_take (i := 2) (oi := { dst := some 105, op := Op.binOp BinOp.geq 3 (Operand.tmp 104) (Operand.const (Value.int IntKind.i64 0)) 3, type := 4, pos := "law.go:72", after := #[{ on := 1, ground := Ground.data }], guard := none }) (v := (.bool false)) rfl (by kernel_rfl) (by kernel_rfl) (by kernel_rfl) (fun _ _ _ h => h) (Or.inl ⟨by rfl, ?_⟩) (by assumption) ?_
                  · intro w hSw; (try dsimp only at hSw); first | (go_simp; done) | (go_simp; with_reducible rfl)
                  try simp only [Act.put, List.setIfInBounds_toArray, List.set_cons_zero, List.set_cons_succ]
                  refine wpAnyH_take (i := 3) (oi := { dst := some 106, op := Op.binOp BinOp.neq 4 (Operand.tmp 103) (Operand.tmp 105) 4, type := 4, pos := "law.go:72", after := #[{ on := 0, ground := Ground.data }, { on := 2, ground := Ground.data }], guard := none }) (v := (.bool false)) rfl (by kernel_rfl) (by kernel_rfl) (by kernel_rfl) (fun _ _ _ h => h) (Or.inl ⟨by rfl, ?_⟩) (by assumption) ?_
                  · intro w hSw; (try dsimp only at hSw); first | (go_simp; done) | (go_simp; with_reducible rfl)
                  try simp only [Act.put, List.setIfInBounds_toArray, List.set_cons_zero, List.set_cons_succ]
                  refine wpAnyH_take (i := 4) (oi := { dst := some 107, op := Op.move (Operand.tmp 106), type := 4, pos := "law.go:72", after := #[{ on := 3, ground := Ground.data }], guard := none }) (v := (.bool false)) rfl (by kernel_rfl) (by kernel_rfl) (by kernel_rfl) (fun _ _ _ h => h) (Or.inl ⟨by rfl, ?_⟩) (by assumption) ?_
                  · intro w hSw; (try dsimp only at hSw); first | (go_simp; done) | (go_simp; with_reducible rfl)
                  try simp only [Act.put, List.setIfInBounds_toArray, List.set_cons_zero, List.set_cons_succ]
                  refine wpAnyH_take (i := 5) (oi := { dst := some 108, op := Op.move (Operand.tmp 15), type := 4, pos := "law.go:72", after := #[{ on := 4, ground := Ground.guard }], guard := some (4, false) }) (v := (.bool false)) rfl (by kernel_rfl) (by kernel_rfl) (by kernel_rfl) (fun _ _ _ h => h) (Or.inl ⟨by rfl, ?_⟩) (by assumption) ?_
                  · intro w hSw; (try dsimp only at hSw); first | (go_simp; done) | (go_simp; with_reducible rfl)
                  try simp only [Act.put, List.setIfInBounds_toArray, List.set_cons_zero, List.set_cons_succ]
                  refine wpAnyH_take (i := 6) (oi := { dst := some 109, op := Op.move (Operand.tmp 108), type := 4, pos := "law.go:72", after := #[{ on := 5, ground := Ground.data }, { on := 4, ground := Ground.chain }, { on := 4, ground := Ground.guard }], guard := some (4, false) }) (v := (.bool false)) rfl (by kernel_rfl) (by kernel_rfl) (by kernel_rfl) (fun _ _ _ h => h) (Or.inl ⟨by rfl, ?_⟩) (by assumption) ?_
                  · intro w hSw; (try dsimp only at hSw); first | (go_simp; done) | (go_simp; with_reducible rfl)
                  try simp only [Act.put, List.setIfInBounds_toArray, List.set_cons_zero, List.set_cons_succ]
                  refine wpAnyH_take (i := 7) (oi := { dst := some 110, op := Op.move (Operand.tmp 14), type := 3, pos := "law.go:72", after := #[{ on := 6, ground := Ground.guard }], guard := some (6, true) }) (v := undef) rfl (by kernel_rfl) (by kernel_rfl) (by kernel_rfl) (fun _ _ _ h => h) (Or.inr ⟨by rfl, rfl⟩) (by assumption) ?_
                  try simp only [Act.put, List.setIfInBounds_toArray, List.set_cons_zero, List.set_cons_succ]
                  refine wpAnyH_take (i := 8) (oi := { dst := some 111, op := Op.move (Operand.tmp 16), type := 3, pos := "law.go:72", after := #[{ on := 6, ground := Ground.guard }], guard := some (6, true) }) (v := undef) rfl (by kernel_rfl) (by kernel_rfl) (by kernel_rfl) (fun _ _ _ h => h) (Or.inr ⟨by rfl, rfl⟩) (by assumption) ?_
                  try simp only [Act.put, List.setIfInBounds_toArray, List.set_cons_zero, List.set_cons_succ]
                  refine wpAnyH_take (i := 9) (oi := { dst := some 112, op := Op.binOp BinOp.neq 3 (Operand.tmp 110) (Operand.tmp 111) 3, type := 4, pos := "law.go:72", after := #[{ on := 7, ground := Ground.data }, { on := 8, ground := Ground.data }, { on := 6, ground := Ground.guard }], guard := some (6, true) }) (v := undef) rfl (by kernel_rfl) (by kernel_rfl) (by kernel_rfl) (fun _ _ _ h => h) (Or.inr ⟨by rfl, rfl⟩) (by assumption) ?_
                  try simp only [Act.put, List.setIfInBounds_toArray, List.set_cons_zero, List.set_cons_succ]
                  refine wpAnyH_take (i := 10) (oi := { dst := some 113, op := Op.pick (Operand.tmp 109) (Operand.tmp 112) (Operand.const (Value.bool false)), type := 4, pos := "law.go:72", after := #[{ on := 6, ground := Ground.data }, { on := 9, ground := Ground.data }, { on := 4, ground := Ground.guard }], guard := some (4, false) }) (v := (.bool false)) rfl (by kernel_rfl) (by kernel_rfl) (by kernel_rfl) (fun _ _ _ h => h) (Or.inl ⟨by rfl, ?_⟩) (by assumption) ?_
                  · intro w hSw; (try dsimp only at hSw); first | (go_simp; done) | (go_simp; with_reducible rfl)
                  try simp only [Act.put, List.setIfInBounds_toArray, List.set_cons_zero, List.set_cons_succ]
                  refine wpAnyH_take (i := 11) (oi := { dst := some 114, op := Op.pick (Operand.tmp 107) (Operand.const (Value.bool true)) (Operand.tmp 113), type := 4, pos := "law.go:72", after := #[{ on := 4, ground := Ground.data }, { on := 10, ground := Ground.data }], guard := none }) (v := (.bool false)) rfl (by kernel_rfl) (by kernel_rfl) (by kernel_rfl) (fun _ _ _ h => h) (Or.inl ⟨by rfl, ?_⟩) (by assumption) ?_
                  · intro w hSw; (try dsimp only at hSw); first | (go_simp; done) | (go_simp; with_reducible rfl)
                  try simp only [Act.put, List.setIfInBounds_toArray, List.set_cons_zero, List.set_cons_succ]
                  refine wpAnyH_take (i := 12) (oi := { dst := some 115, op := Op.move (Operand.tmp 114), type := 4, pos := "law.go:72", after := #[{ on := 11, ground := Ground.data }, { on := 6, ground := Ground.chain }], guard := none }) (v := (.bool false)) rfl (by kernel_rfl) (by kernel_rfl) (by kernel_rfl) (fun _ _ _ h => h) (Or.inl ⟨by rfl, ?_⟩) (by assumption) ?_
                  · intro w hSw; (try dsimp only at hSw); first | (go_simp; done) | (go_simp; with_reducible rfl)
                  try simp only [Act.put, List.setIfInBounds_toArray, List.set_cons_zero, List.set_cons_succ]
                  refine wpAnyH_take (i := 13) (oi := { dst := some 116, op := Op.move (Operand.tmp 15), type := 4, pos := "law.go:72", after := #[{ on := 12, ground := Ground.guard }], guard := some (12, false) }) (v := (.bool false)) rfl (by kernel_rfl) (by kernel_rfl) (by kernel_rfl) (fun _ _ _ h => h) (Or.inl ⟨by rfl, ?_⟩) (by assumption) ?_
                  · intro w hSw; (try dsimp only at hSw); first | (go_simp; done) | (go_simp; with_reducible rfl)
                  try simp only [Act.put, List.setIfInBounds_toArray, List.set_cons_zero, List.set_cons_succ]
                  refine wpAnyH_take (i := 14) (oi := { dst := some 117, op := Op.unOp UnOp.not 4 (Operand.tmp 116), type := 4, pos := "law.go:72", after := #[{ on := 13, ground := Ground.data }, { on := 12, ground := Ground.guard }], guard := some (12, false) }) (v := (.bool true)) rfl (by kernel_rfl) (by kernel_rfl) (by kernel_rfl) (fun _ _ _ h => h) (Or.inl ⟨by rfl, ?_⟩) (by assumption) ?_
                  · intro w hSw; (try dsimp only at hSw); first | (go_simp; done) | (go_simp; with_reducible rfl)
                  try simp only [Act.put, List.setIfInBounds_toArray, List.set_cons_zero, List.set_cons_succ]
                  refine wpAnyH_take (i := 15) (oi := { dst := some 118, op := Op.move (Operand.tmp 117), type := 4, pos := "law.go:72", after := #[{ on := 14, ground := Ground.data }, { on := 12, ground := Ground.chain }, { on := 12, ground := Ground.guard }], guard := some (12, false) }) (v := (.bool true)) rfl (by kernel_rfl) (by kernel_rfl) (by kernel_rfl) (fun _ _ _ h => h) (Or.inl ⟨by rfl, ?_⟩) (by assumption) ?_
                  · intro w hSw; (try dsimp only at hSw); first | (go_simp; done) | (go_simp; with_reducible rfl)
                  try simp only [Act.put, List.setIfInBounds_toArray, List.set_cons_zero, List.set_cons_succ]
                  refine wpAnyH_take (i := 16) (oi := { dst := some 119, op := Op.move (Operand.tmp 14), type := 3, pos := "law.go:72", after := #[{ on := 15, ground := Ground.guard }], guard := some (15, true) }) (v := (.int .i64 0)) rfl (by kernel_rfl) (by kernel_rfl) (by kernel_rfl) (fun _ _ _ h => h) (Or.inl ⟨by rfl, ?_⟩) (by assumption) ?_
                  · intro w hSw; (try dsimp only at hSw); first | (go_simp; done) | (go_simp; with_reducible rfl)
                  try simp only [Act.put, List.setIfInBounds_toArray, List.set_cons_zero, List.set_cons_succ]
                  refine wpAnyH_take (i := 17) (oi := { dst := some 120, op := Op.binOp BinOp.neq 3 (Operand.tmp 119) (Operand.const (Value.int IntKind.i64 0)) 3, type := 4, pos := "law.go:72", after := #[{ on := 16, ground := Ground.data }, { on := 15, ground := Ground.guard }], guard := some (15, true) }) (v := (.bool false)) rfl (by kernel_rfl) (by kernel_rfl) (by kernel_rfl) (fun _ _ _ h => h) (Or.inl ⟨by rfl, ?_⟩) (by assumption) ?_
                  · intro w hSw; (try dsimp only at hSw); first | (go_simp; done) | (go_simp; with_reducible rfl)
                  try simp only [Act.put, List.setIfInBounds_toArray, List.set_cons_zero, List.set_cons_succ]
                  refine wpAnyH_take (i := 18) (oi := { dst := some 121, op := Op.pick (Operand.tmp 118) (Operand.tmp 120) (Operand.const (Value.bool false)), type := 4, pos := "law.go:72", after := #[{ on := 15, ground := Ground.data }, { on := 17, ground := Ground.data }, { on := 12, ground := Ground.guard }], guard := some (12, false) }) (v := (.bool false)) rfl (by kernel_rfl) (by kernel_rfl) (by kernel_rfl) (fun _ _ _ h => h) (Or.inl ⟨by rfl, ?_⟩) (by assumption) ?_
                  · intro w hSw; (try dsimp only at hSw); first | (go_simp; done) | (go_simp; with_reducible rfl)
                  try simp only [Act.put, List.setIfInBounds_toArray, List.set_cons_zero, List.set_cons_succ]
                  refine wpAnyH_take (i := 19) (oi := { dst := some 122, op := Op.pick (Operand.tmp 115) (Operand.const (Value.bool true)) (Operand.tmp 121), type := 4, pos := "law.go:72", after := #[{ on := 12, ground := Ground.data }, { on := 18, ground := Ground.data }], guard := none }) (v := (.bool false)) rfl (by kernel_rfl) (by kernel_rfl) (by kernel_rfl) (fun _ _ _ h => h) (Or.inl ⟨by rfl, ?_⟩) (by assumption) ?_
                  · intro w hSw; (try dsimp only at hSw); first | (go_simp; done) | (go_simp; with_reducible rfl)
                  try simp only [Act.put, List.setIfInBounds_toArray, List.set_cons_zero, List.set_cons_succ]
                  refine wpAnyH_take (i := 20) (oi := { dst := some 123, op := Op.move (Operand.tmp 122), type := 4, pos := "law.go:72", after := #[{ on := 19, ground := Ground.data }, { on := 15, ground := Ground.chain }], guard := none }) (v := (.bool false)) rfl (by kernel_rfl) (by kernel_rfl) (by kernel_rfl) (fun _ _ _ h => h) (Or.inl ⟨by rfl, ?_⟩) (by assumption) ?_
                  · intro w hSw; (try dsimp only at hSw); first | (go_simp; done) | (go_simp; with_reducible rfl)
                  try simp only [Act.put, List.setIfInBounds_toArray, List.set_cons_zero, List.set_cons_succ]
                  refine wpAnyH_take (i := 21) (oi := { dst := some 124, op := Op.move (Operand.tmp 5), type := 25, pos := "law.go:72", after := #[{ on := 20, ground := Ground.guard }], guard := some (20, false) }) (v := (.pointer (some ⟨ba, 0, none⟩))) rfl (by kernel_rfl) (by kernel_rfl) (by kernel_rfl) (fun _ _ _ h => h) (Or.inl ⟨by rfl, ?_⟩) (by assumption) ?_
                  · intro w hSw; (try dsimp only at hSw); first | (go_simp; done) | (go_simp; with_reducible rfl)
                  try simp only [Act.put, List.setIfInBounds_toArray, List.set_cons_zero, List.set_cons_succ]
                  refine wpAnyH_take (i := 22) (oi := { dst := some 125, op := Op.fieldAddr 37 (Operand.tmp 9) 3, type := 0, pos := "law.go:72", after := #[{ on := 20, ground := Ground.guard }], guard := some (20, false) }) (v := (.pointer (some ⟨wr.heap.size, 3, none⟩))) rfl (by kernel_rfl) (by kernel_rfl) (by kernel_rfl) (fun _ _ _ h => h) (Or.inl ⟨by rfl, ?_⟩) (by assumption) ?_
                  · intro w hSw; (try dsimp only at hSw); first | (go_simp; done) | (go_simp; with_reducible rfl)
                  try simp only [Act.put, List.setIfInBounds_toArray, List.set_cons_zero, List.set_cons_succ]
                  refine wpAnyH_take (i := 23) (oi := { dst := some 126, op := Op.fieldAddr 35 (Operand.tmp 125) 1, type := 0, pos := "law.go:72", after := #[{ on := 22, ground := Ground.data }, { on := 20, ground := Ground.guard }], guard := some (20, false) }) (v := (.pointer (some ⟨wr.heap.size, 4, none⟩))) rfl (by kernel_rfl) (by kernel_rfl) (by kernel_rfl) (fun _ _ _ h => h) (Or.inl ⟨by rfl, ?_⟩) (by assumption) ?_
                  · intro w hSw; (try dsimp only at hSw); first | (go_simp; done) | (go_simp; with_reducible rfl)
                  try simp only [Act.put, List.setIfInBounds_toArray, List.set_cons_zero, List.set_cons_succ]
                  refine wpAnyH_take (i := 24) (oi := { dst := some 127, op := Op.load 3 (Operand.tmp 126), type := 3, pos := "law.go:72", after := #[{ on := 23, ground := Ground.data }, { on := 20, ground := Ground.guard }], guard := some (20, false) }) (v := (.int .i64 cl)) rfl (by kernel_rfl) (by kernel_rfl) (by kernel_rfl) (fun _ _ _ h => h) (Or.inl ⟨by rfl, ?_⟩) (by assumption) ?_
                  · intro w hSw; (try dsimp only at hSw); first | (go_simp; done) | (go_simp; with_reducible rfl)
                  try simp only [Act.put, List.setIfInBounds_toArray, List.set_cons_zero, List.set_cons_succ]
                  refine wpAnyH_take (i := 26) (oi := { dst := some 129, op := Op.move (Operand.tmp 7), type := 29, pos := "law.go:72", after := #[{ on := 20, ground := Ground.guard }], guard := some (20, false) }) (v := (.pointer (some ⟨w1.heap.size, 0, none⟩))) rfl (by kernel_rfl) (by kernel_rfl) (by kernel_rfl) (fun _ _ _ h => h) (Or.inl ⟨by rfl, ?_⟩) (by assumption) ?_
                  · intro w hSw; (try dsimp only at hSw); first | (go_simp; done) | (go_simp; with_reducible rfl)
                  try simp only [Act.put, List.setIfInBounds_toArray, List.set_cons_zero, List.set_cons_succ]
                  refine wpAnyH_take (i := 27) (oi := { dst := some 130, op := Op.fieldAddr 37 (Operand.tmp 9) 3, type := 0, pos := "law.go:72", after := #[{ on := 20, ground := Ground.guard }], guard := some (20, false) }) (v := (.pointer (some ⟨wr.heap.size, 3, none⟩))) rfl (by kernel_rfl) (by kernel_rfl) (by kernel_rfl) (fun _ _ _ h => h) (Or.inl ⟨by rfl, ?_⟩) (by assumption) ?_
                  · intro w hSw; (try dsimp only at hSw); first | (go_simp; done) | (go_simp; with_reducible rfl)
                  try simp only [Act.put, List.setIfInBounds_toArray, List.set_cons_zero, List.set_cons_succ]
                  refine wpAnyH_take (i := 28) (oi := { dst := some 131, op := Op.fieldAddr 35 (Operand.tmp 130) 1, type := 0, pos := "law.go:72", after := #[{ on := 27, ground := Ground.data }, { on := 20, ground := Ground.guard }], guard := some (20, false) }) (v := (.pointer (some ⟨wr.heap.size, 4, none⟩))) rfl (by kernel_rfl) (by kernel_rfl) (by kernel_rfl) (fun _ _ _ h => h) (Or.inl ⟨by rfl, ?_⟩) (by assumption) ?_
                  · intro w hSw; (try dsimp only at hSw); first | (go_simp; done) | (go_simp; with_reducible rfl)
                  try simp only [Act.put, List.setIfInBounds_toArray, List.set_cons_zero, List.set_cons_succ]
                  refine wpAnyH_take (i := 29) (oi := { dst := some 132, op := Op.load 3 (Operand.tmp 131), type := 3, pos := "law.go:72", after := #[{ on := 28, ground := Ground.data }, { on := 20, ground := Ground.guard }], guard := some (20, false) }) (v := (.int .i64 cl)) rfl (by kernel_rfl) (by kernel_rfl) (by kernel_rfl) (fun _ _ _ h => h) (Or.inl ⟨by rfl, ?_⟩) (by assumption) ?_
                  · intro w hSw; (try dsimp only at hSw); first | (go_simp; done) | (go_simp; with_reducible rfl)
                  try simp only [Act.put, List.setIfInBounds_toArray, List.set_cons_zero, List.set_cons_succ]
                  refine wpAnyH_ready (rs := [25]) (by kernel_rfl) (by simp) ?_
                  refine AllReadyH.cons (o := { dst := some 128, op := Op.call { callee := Callee.value (Operand.func 13), args := #[Operand.tmp 124, Operand.tmp 127], argTypes := #[25, 3] }, type := 3, pos := "law.go:72", after := #[{ on := 21, ground := Ground.data }, { on := 24, ground := Ground.data }, { on := 20, ground := Ground.chain }, { on := 20, ground := Ground.guard }], guard := some (20, false) }) rfl (fun K hK => ?_) AllReadyH.nil
                  go_simp
                  (go_at_call 13; with_reducible refine (HMd.out.calls_value HSS.out.good cl HW2.out).mono ?_; rintro e wv ⟨rfl, rfl⟩)
                  try go_wp2_with fail
                  refine hK.out _ _ ?_ (fun hHeld2 => ?_)
                  · exact HMd.out.four.2.2.1
                  clear hHeld; have hHeld := hHeld2; clear hHeld2 hK K
                  try simp only [Act.put, List.setIfInBounds_toArray, List.set_cons_zero, List.set_cons_succ]
                  refine wpAnyH_ready (rs := [30]) (by kernel_rfl) (by simp) ?_
                  refine AllReadyH.cons (o := { dst := some 133, op := Op.call { callee := Callee.value (Operand.func 14), args := #[Operand.tmp 129, Operand.tmp 132], argTypes := #[29, 3] }, type := 3, pos := "law.go:72", after := #[{ on := 26, ground := Ground.data }, { on := 29, ground := Ground.data }, { on := 25, ground := Ground.chain }, { on := 20, ground := Ground.guard }], guard := some (20, false) }) rfl (fun K hK => ?_) AllReadyH.nil
                  go_simp
                  (go_at_call 14; with_reducible refine (HMd.out.calls_valueR HSS.out cl).mono ?_; rintro e wv ⟨rfl, rfl⟩)
                  try go_wp2_with fail
                  refine hK.out _ _ ?_ (fun hHeld2 => ?_)
                  · exact HMd.out.four.2.2.1
                  clear hHeld; have hHeld := hHeld2; clear hHeld2 hK K
                  try simp only [Act.put, List.setIfInBounds_toArray, List.set_cons_zero, List.set_cons_succ]
                  refine wpAnyH_take (i := 31) (oi := { dst := some 134, op := Op.binOp BinOp.neq 3 (Operand.tmp 128) (Operand.tmp 133) 3, type := 4, pos := "law.go:72", after := #[{ on := 25, ground := Ground.data }, { on := 30, ground := Ground.data }, { on := 20, ground := Ground.guard }], guard := some (20, false) }) (v := (.bool false)) rfl (by kernel_rfl) (by kernel_rfl) (by kernel_rfl) (fun _ _ _ h => h) (Or.inl ⟨by rfl, ?_⟩) (by assumption) ?_
                  · intro w hSw; (try dsimp only at hSw); first | (go_simp; done) | (go_simp; with_reducible rfl)
                  try simp only [Act.put, List.setIfInBounds_toArray, List.set_cons_zero, List.set_cons_succ]
                  refine wpAnyH_take (i := 32) (oi := { dst := some 135, op := Op.pick (Operand.tmp 123) (Operand.const (Value.bool true)) (Operand.tmp 134), type := 4, pos := "law.go:72", after := #[{ on := 20, ground := Ground.data }, { on := 31, ground := Ground.data }], guard := none }) (v := (.bool false)) rfl (by kernel_rfl) (by kernel_rfl) (by kernel_rfl) (fun _ _ _ h => h) (Or.inl ⟨by rfl, ?_⟩) (by assumption) ?_
                  · intro w hSw; (try dsimp only at hSw); first | (go_simp; done) | (go_simp; with_reducible rfl)
                  try simp only [Act.put, List.setIfInBounds_toArray, List.set_cons_zero, List.set_cons_succ]
                  refine wpAnyH_take (i := 33) (oi := { dst := some 136, op := Op.move (Operand.tmp 135), type := 4, pos := "law.go:72", after := #[{ on := 32, ground := Ground.data }, { on := 30, ground := Ground.chain }], guard := none }) (v := (.bool false)) rfl (by kernel_rfl) (by kernel_rfl) (by kernel_rfl) (fun _ _ _ h => h) (Or.inl ⟨by rfl, ?_⟩) (by assumption) ?_
                  · intro w hSw; (try dsimp only at hSw); first | (go_simp; done) | (go_simp; with_reducible rfl)
                  try simp only [Act.put, List.setIfInBounds_toArray, List.set_cons_zero, List.set_cons_succ]
                  refine wpAnyH_take (i := 34) (oi := { dst := some 137, op := Op.move (Operand.tmp 5), type := 25, pos := "law.go:72", after := #[{ on := 33, ground := Ground.guard }], guard := some (33, false) }) (v := (.pointer (some ⟨ba, 0, none⟩))) rfl (by kernel_rfl) (by kernel_rfl) (by kernel_rfl) (fun _ _ _ h => h) (Or.inl ⟨by rfl, ?_⟩) (by assumption) ?_
                  · intro w hSw; (try dsimp only at hSw); first | (go_simp; done) | (go_simp; with_reducible rfl)
                  try simp only [Act.put, List.setIfInBounds_toArray, List.set_cons_zero, List.set_cons_succ]
                  refine wpAnyH_take (i := 36) (oi := { dst := some 139, op := Op.move (Operand.tmp 7), type := 29, pos := "law.go:72", after := #[{ on := 33, ground := Ground.guard }], guard := some (33, false) }) (v := (.pointer (some ⟨w1.heap.size, 0, none⟩))) rfl (by kernel_rfl) (by kernel_rfl) (by kernel_rfl) (fun _ _ _ h => h) (Or.inl ⟨by rfl, ?_⟩) (by assumption) ?_
                  · intro w hSw; (try dsimp only at hSw); first | (go_simp; done) | (go_simp; with_reducible rfl)
                  try simp only [Act.put, List.setIfInBounds_toArray, List.set_cons_zero, List.set_cons_succ]
                  refine wpAnyH_ready (rs := [35]) (by kernel_rfl) (by simp) ?_
                  refine AllReadyH.cons (o := { dst := some 138, op := Op.call { callee := Callee.value (Operand.func 16), args := #[Operand.tmp 137], argTypes := #[25] }, type := 30, pos := "law.go:72", after := #[{ on := 34, ground := Ground.data }, { on := 33, ground := Ground.chain }, { on := 33, ground := Ground.guard }], guard := some (33, false) }) rfl (fun K hK => ?_) AllReadyH.nil
                  go_simp
                  (go_at_call 16; with_reducible refine (HMd.out.calls_used (rbp_frames _ _ _ _) HSS.out.good hq3).mono ?_; rintro e wv ⟨A1, c1, rfl, hri, hT, hB⟩; have HB1 := Lib.hid (And.intro hT hri); clear hri hT hB)
                  try go_wp2_with fail
                  refine hK.out _ _ ?_ (fun hHeld2 => ?_)
                  · exact HB1.out.1.four.2.2.1
                  clear hHeld; have hHeld := hHeld2; clear hHeld2 hK K
                  try simp only [Act.put, List.setIfInBounds_toArray, List.set_cons_zero, List.set_cons_succ]
                  refine wpAnyH_ready (rs := [37]) (by kernel_rfl) (by simp) ?_
                  refine AllReadyH.cons (o := { dst := some 140, op := Op.call { callee := Callee.value (Operand.func 17), args := #[Operand.tmp 139], argTypes := #[29] }, type := 30, pos := "law.go:72", after := #[{ on := 36, ground := Ground.data }, { on := 35, ground := Ground.chain }, { on := 33, ground := Ground.guard }], guard := some (33, false) }) rfl (fun K hK => ?_) AllReadyH.nil
                  go_simp
                  (go_at_call 17; with_reducible refine (HB1.out.1.calls_usedR (bp_frames _ _ _) HSS.out hk91).mono ?_; rintro e wv2 ⟨A2, c2, rfl, hri, hT, hB⟩; have F := Lib.hid (And.intro (HB1.out.2.below hB) (And.intro hri hT)); clear hri hT hB)
                  try go_wp2_with fail
                  refine hK.out _ _ ?_ (fun hHeld2 => ?_)
                  · exact F.out.2.2.four.2.2.1
                  clear hHeld; have hHeld := hHeld2; clear hHeld2 hK K
                  try simp only [Act.put, List.setIfInBounds_toArray, List.set_cons_zero, List.set_cons_succ]
                  refine wpAnyH_ready (rs := [38]) (by kernel_rfl) (by simp) ?_
                  refine AllReadyH.cons (o := { dst := some 141, op := Op.call { callee := Callee.value (Operand.func 15), args := #[Operand.tmp 138, Operand.tmp 140], argTypes := #[30, 30] }, type := 4, pos := "law.go:72", after := #[{ on := 35, ground := Ground.data }, { on := 37, ground := Ground.data }, { on := 37, ground := Ground.chain }, { on := 33, ground := Ground.guard }], guard := some (33, false) }) rfl (fun K hK => ?_) AllReadyH.nil
                  go_simp
                  (go_at_call 15; with_reducible refine (ints_is _ _ _ _ _ _ (sortI X'.no) (sortI X'.no) (sortI_len _) (sortI_len _) _ F.out.1 F.out.2.1 true (by simp)).mono ?_; rintro e wi ⟨rfl, qi, rfl⟩)
                  try go_wp2_with fail
                  refine hK.out _ _ ?_ (fun hHeld2 => ?_)
                  · exact F.out.2.2.four.2.2.1
                  clear hHeld; have hHeld := hHeld2; clear hHeld2 hK K
                  try simp only [Act.put, List.setIfInBounds_toArray, List.set_cons_zero, List.set_cons_succ]
                  refine wpAnyH_take (i := 39) (oi := { dst := some 142, op := Op.unOp UnOp.not 4 (Operand.tmp 141), type := 4, pos := "law.go:72", after := #[{ on := 38, ground := Ground.data }, { on := 33, ground := Ground.guard }], guard := some (33, false) }) (v := (.bool false)) rfl (by kernel_rfl) (by kernel_rfl) (by kernel_rfl) (fun _ _ _ h => h) (Or.inl ⟨by rfl, ?_⟩) (by assumption) ?_
                  · intro w hSw; (try dsimp only at hSw); first | (go_simp; done) | (go_simp; with_reducible rfl)
                  try simp only [Act.put, List.setIfInBounds_toArray, List.set_cons_zero, List.set_cons_succ]
                  refine wpAnyH_take (i := 40) (oi := { dst := some 143, op := Op.pick (Operand.tmp 136) (Operand.const (Value.bool true)) (Operand.tmp 142), type := 4, pos := "law.go:72", after := #[{ on := 33, ground := Ground.data }, { on := 39, ground := Ground.data }], guard := none }) (v := (.bool false)) rfl (by kernel_rfl) (by kernel_rfl) (by kernel_rfl) (fun _ _ _ h => h) (Or.inl ⟨by rfl, ?_⟩) (by assumption) ?_
                  · intro w hSw; (try dsimp only at hSw); first | (go_simp; done) | (go_simp; with_reducible rfl)
                  try simp only [Act.put, List.setIfInBounds_toArray, List.set_cons_zero, List.set_cons_succ]
                  refine wpAnyH_done (by kernel_rfl) ?_ _
                  go_wp2_with fail
                  go_meet
                  exact ⟨rfl, Lib.hid (HE.out _ (F.out.2.2.grow (bp_frames _ _ _) (rbp_frames _ _ _ _) (bl_drewN _ _)))⟩
                case rest =>
                  obtain ⟨rfl, HN⟩ := hcut
                  go_wp2_with fail
                  go_roundw
                  case rel => exact ⟨k + 1, by omega, by go_num, HN⟩
                  case measure => simp [Go.RowKit.intOf]; omega
              | some nn =>
                have hnn := HOI.out nn rfl
                have dn : decide (0 ≤ nn) = true := by simp [hnn]
                rw [show busyI (some nn) = nn from rfl]
                go_upto_region 20 with fail
                go_cut [143] (fun s wx => s = .bool false ∧ Hid (PlAt w.heap.size w wx ba w1.heap.size 0 A0 n0 c0 L #[] (k + 1)))
                case first =>
                  clear HM
                  refine wp_region_held_drew (S := fun wx => wx.cell? ⟨wr.heap.size, 4, none⟩ = some (.int .i64 cl)) (by kernel_rfl) ?_ (fun hHeld => ?_)
                  · exact HMd.out.four.2.2.1
                  refine wpAnyH_take (i := 0) (oi := { dst := some 103, op := Op.move (Operand.tmp 15), type := 4, pos := "law.go:72", after := #[], guard := none }) (v := (.bool true)) rfl (by kernel_rfl) (by kernel_rfl) (by kernel_rfl) (fun _ _ _ h => h) (Or.inl ⟨by rfl, ?_⟩) (by assumption) ?_
                  · intro w hSw; (try dsimp only at hSw); first | (go_simp; done) | (go_simp; with_reducible rfl)
                  try simp only [Act.put, List.setIfInBounds_toArray, List.set_cons_zero, List.set_cons_succ]
                  refine wpAnyH_take (i := 1) (oi := { dst := some 104, op := Op.move (Operand.tmp 16), type := 3, pos := "law.go:72", after := #[], guard := none }) (v := (.int .i64 nn)) rfl (by kernel_rfl) (by kernel_rfl) (by kernel_rfl) (fun _ _ _ h => h) (Or.inl ⟨by rfl, ?_⟩) (by assumption) ?_
                  · intro w hSw; (try dsimp only at hSw); first | (go_simp; done) | (go_simp; with_reducible rfl)
                  try simp only [Act.put, List.setIfInBounds_toArray, List.set_cons_zero, List.set_cons_succ]
                  refine wpAnyH_take (i := 2) (oi := { dst := some 105, op := Op.binOp BinOp.geq 3 (Operand.tmp 104) (Operand.const (Value.int IntKind.i64 0)) 3, type := 4, pos := "law.go:72", after := #[{ on := 1, ground := Ground.data }], guard := none }) (v := (.bool true)) rfl (by kernel_rfl) (by kernel_rfl) (by kernel_rfl) (fun _ _ _ h => h) (Or.inl ⟨by rfl, ?_⟩) (by assumption) ?_
                  · intro w hSw; (try dsimp only at hSw); first | (go_simp; done) | (go_simp; with_reducible rfl)
                  try simp only [Act.put, List.setIfInBounds_toArray, List.set_cons_zero, List.set_cons_succ]
                  refine wpAnyH_take (i := 3) (oi := { dst := some 106, op := Op.binOp BinOp.neq 4 (Operand.tmp 103) (Operand.tmp 105) 4, type := 4, pos := "law.go:72", after := #[{ on := 0, ground := Ground.data }, { on := 2, ground := Ground.data }], guard := none }) (v := (.bool false)) rfl (by kernel_rfl) (by kernel_rfl) (by kernel_rfl) (fun _ _ _ h => h) (Or.inl ⟨by rfl, ?_⟩) (by assumption) ?_
                  · intro w hSw; (try dsimp only at hSw); first | (go_simp; done) | (go_simp; with_reducible rfl)
                  try simp only [Act.put, List.setIfInBounds_toArray, List.set_cons_zero, List.set_cons_succ]
                  refine wpAnyH_take (i := 4) (oi := { dst := some 107, op := Op.move (Operand.tmp 106), type := 4, pos := "law.go:72", after := #[{ on := 3, ground := Ground.data }], guard := none }) (v := (.bool false)) rfl (by kernel_rfl) (by kernel_rfl) (by kernel_rfl) (fun _ _ _ h => h) (Or.inl ⟨by rfl, ?_⟩) (by assumption) ?_
                  · intro w hSw; (try dsimp only at hSw); first | (go_simp; done) | (go_simp; with_reducible rfl)
                  try simp only [Act.put, List.setIfInBounds_toArray, List.set_cons_zero, List.set_cons_succ]
                  refine wpAnyH_take (i := 5) (oi := { dst := some 108, op := Op.move (Operand.tmp 15), type := 4, pos := "law.go:72", after := #[{ on := 4, ground := Ground.guard }], guard := some (4, false) }) (v := (.bool true)) rfl (by kernel_rfl) (by kernel_rfl) (by kernel_rfl) (fun _ _ _ h => h) (Or.inl ⟨by rfl, ?_⟩) (by assumption) ?_
                  · intro w hSw; (try dsimp only at hSw); first | (go_simp; done) | (go_simp; with_reducible rfl)
                  try simp only [Act.put, List.setIfInBounds_toArray, List.set_cons_zero, List.set_cons_succ]
                  refine wpAnyH_take (i := 6) (oi := { dst := some 109, op := Op.move (Operand.tmp 108), type := 4, pos := "law.go:72", after := #[{ on := 5, ground := Ground.data }, { on := 4, ground := Ground.chain }, { on := 4, ground := Ground.guard }], guard := some (4, false) }) (v := (.bool true)) rfl (by kernel_rfl) (by kernel_rfl) (by kernel_rfl) (fun _ _ _ h => h) (Or.inl ⟨by rfl, ?_⟩) (by assumption) ?_
                  · intro w hSw; (try dsimp only at hSw); first | (go_simp; done) | (go_simp; with_reducible rfl)
                  try simp only [Act.put, List.setIfInBounds_toArray, List.set_cons_zero, List.set_cons_succ]
                  refine wpAnyH_take (i := 7) (oi := { dst := some 110, op := Op.move (Operand.tmp 14), type := 3, pos := "law.go:72", after := #[{ on := 6, ground := Ground.guard }], guard := some (6, true) }) (v := (.int .i64 nn)) rfl (by kernel_rfl) (by kernel_rfl) (by kernel_rfl) (fun _ _ _ h => h) (Or.inl ⟨by rfl, ?_⟩) (by assumption) ?_
                  · intro w hSw; (try dsimp only at hSw); first | (go_simp; done) | (go_simp; with_reducible rfl)
                  try simp only [Act.put, List.setIfInBounds_toArray, List.set_cons_zero, List.set_cons_succ]
                  refine wpAnyH_take (i := 8) (oi := { dst := some 111, op := Op.move (Operand.tmp 16), type := 3, pos := "law.go:72", after := #[{ on := 6, ground := Ground.guard }], guard := some (6, true) }) (v := (.int .i64 nn)) rfl (by kernel_rfl) (by kernel_rfl) (by kernel_rfl) (fun _ _ _ h => h) (Or.inl ⟨by rfl, ?_⟩) (by assumption) ?_
                  · intro w hSw; (try dsimp only at hSw); first | (go_simp; done) | (go_simp; with_reducible rfl)
                  try simp only [Act.put, List.setIfInBounds_toArray, List.set_cons_zero, List.set_cons_succ]
                  refine wpAnyH_take (i := 9) (oi := { dst := some 112, op := Op.binOp BinOp.neq 3 (Operand.tmp 110) (Operand.tmp 111) 3, type := 4, pos := "law.go:72", after := #[{ on := 7, ground := Ground.data }, { on := 8, ground := Ground.data }, { on := 6, ground := Ground.guard }], guard := some (6, true) }) (v := (.bool false)) rfl (by kernel_rfl) (by kernel_rfl) (by kernel_rfl) (fun _ _ _ h => h) (Or.inl ⟨by rfl, ?_⟩) (by assumption) ?_
                  · intro w hSw; (try dsimp only at hSw); first | (go_simp; done) | (go_simp; with_reducible rfl)
                  try simp only [Act.put, List.setIfInBounds_toArray, List.set_cons_zero, List.set_cons_succ]
                  refine wpAnyH_take (i := 10) (oi := { dst := some 113, op := Op.pick (Operand.tmp 109) (Operand.tmp 112) (Operand.const (Value.bool false)), type := 4, pos := "law.go:72", after := #[{ on := 6, ground := Ground.data }, { on := 9, ground := Ground.data }, { on := 4, ground := Ground.guard }], guard := some (4, false) }) (v := (.bool false)) rfl (by kernel_rfl) (by kernel_rfl) (by kernel_rfl) (fun _ _ _ h => h) (Or.inl ⟨by rfl, ?_⟩) (by assumption) ?_
                  · intro w hSw; (try dsimp only at hSw); first | (go_simp; done) | (go_simp; with_reducible rfl)
                  try simp only [Act.put, List.setIfInBounds_toArray, List.set_cons_zero, List.set_cons_succ]
                  refine wpAnyH_take (i := 11) (oi := { dst := some 114, op := Op.pick (Operand.tmp 107) (Operand.const (Value.bool true)) (Operand.tmp 113), type := 4, pos := "law.go:72", after := #[{ on := 4, ground := Ground.data }, { on := 10, ground := Ground.data }], guard := none }) (v := (.bool false)) rfl (by kernel_rfl) (by kernel_rfl) (by kernel_rfl) (fun _ _ _ h => h) (Or.inl ⟨by rfl, ?_⟩) (by assumption) ?_
                  · intro w hSw; (try dsimp only at hSw); first | (go_simp; done) | (go_simp; with_reducible rfl)
                  try simp only [Act.put, List.setIfInBounds_toArray, List.set_cons_zero, List.set_cons_succ]
                  refine wpAnyH_take (i := 12) (oi := { dst := some 115, op := Op.move (Operand.tmp 114), type := 4, pos := "law.go:72", after := #[{ on := 11, ground := Ground.data }, { on := 6, ground := Ground.chain }], guard := none }) (v := (.bool false)) rfl (by kernel_rfl) (by kernel_rfl) (by kernel_rfl) (fun _ _ _ h => h) (Or.inl ⟨by rfl, ?_⟩) (by assumption) ?_
                  · intro w hSw; (try dsimp only at hSw); first | (go_simp; done) | (go_simp; with_reducible rfl)
                  try simp only [Act.put, List.setIfInBounds_toArray, List.set_cons_zero, List.set_cons_succ]
                  refine wpAnyH_take (i := 13) (oi := { dst := some 116, op := Op.move (Operand.tmp 15), type := 4, pos := "law.go:72", after := #[{ on := 12, ground := Ground.guard }], guard := some (12, false) }) (v := (.bool true)) rfl (by kernel_rfl) (by kernel_rfl) (by kernel_rfl) (fun _ _ _ h => h) (Or.inl ⟨by rfl, ?_⟩) (by assumption) ?_
                  · intro w hSw; (try dsimp only at hSw); first | (go_simp; done) | (go_simp; with_reducible rfl)
                  try simp only [Act.put, List.setIfInBounds_toArray, List.set_cons_zero, List.set_cons_succ]
                  refine wpAnyH_take (i := 14) (oi := { dst := some 117, op := Op.unOp UnOp.not 4 (Operand.tmp 116), type := 4, pos := "law.go:72", after := #[{ on := 13, ground := Ground.data }, { on := 12, ground := Ground.guard }], guard := some (12, false) }) (v := (.bool false)) rfl (by kernel_rfl) (by kernel_rfl) (by kernel_rfl) (fun _ _ _ h => h) (Or.inl ⟨by rfl, ?_⟩) (by assumption) ?_
                  · intro w hSw; (try dsimp only at hSw); first | (go_simp; done) | (go_simp; with_reducible rfl)
                  try simp only [Act.put, List.setIfInBounds_toArray, List.set_cons_zero, List.set_cons_succ]
                  refine wpAnyH_take (i := 15) (oi := { dst := some 118, op := Op.move (Operand.tmp 117), type := 4, pos := "law.go:72", after := #[{ on := 14, ground := Ground.data }, { on := 12, ground := Ground.chain }, { on := 12, ground := Ground.guard }], guard := some (12, false) }) (v := (.bool false)) rfl (by kernel_rfl) (by kernel_rfl) (by kernel_rfl) (fun _ _ _ h => h) (Or.inl ⟨by rfl, ?_⟩) (by assumption) ?_
                  · intro w hSw; (try dsimp only at hSw); first | (go_simp; done) | (go_simp; with_reducible rfl)
                  try simp only [Act.put, List.setIfInBounds_toArray, List.set_cons_zero, List.set_cons_succ]
                  refine wpAnyH_take (i := 16) (oi := { dst := some 119, op := Op.move (Operand.tmp 14), type := 3, pos := "law.go:72", after := #[{ on := 15, ground := Ground.guard }], guard := some (15, true) }) (v := undef) rfl (by kernel_rfl) (by kernel_rfl) (by kernel_rfl) (fun _ _ _ h => h) (Or.inr ⟨by rfl, rfl⟩) (by assumption) ?_
                  try simp only [Act.put, List.setIfInBounds_toArray, List.set_cons_zero, List.set_cons_succ]
                  refine wpAnyH_take (i := 17) (oi := { dst := some 120, op := Op.binOp BinOp.neq 3 (Operand.tmp 119) (Operand.const (Value.int IntKind.i64 0)) 3, type := 4, pos := "law.go:72", after := #[{ on := 16, ground := Ground.data }, { on := 15, ground := Ground.guard }], guard := some (15, true) }) (v := undef) rfl (by kernel_rfl) (by kernel_rfl) (by kernel_rfl) (fun _ _ _ h => h) (Or.inr ⟨by rfl, rfl⟩) (by assumption) ?_
                  try simp only [Act.put, List.setIfInBounds_toArray, List.set_cons_zero, List.set_cons_succ]
                  refine wpAnyH_take (i := 18) (oi := { dst := some 121, op := Op.pick (Operand.tmp 118) (Operand.tmp 120) (Operand.const (Value.bool false)), type := 4, pos := "law.go:72", after := #[{ on := 15, ground := Ground.data }, { on := 17, ground := Ground.data }, { on := 12, ground := Ground.guard }], guard := some (12, false) }) (v := (.bool false)) rfl (by kernel_rfl) (by kernel_rfl) (by kernel_rfl) (fun _ _ _ h => h) (Or.inl ⟨by rfl, ?_⟩) (by assumption) ?_
                  · intro w hSw; (try dsimp only at hSw); first | (go_simp; done) | (go_simp; with_reducible rfl)
                  try simp only [Act.put, List.setIfInBounds_toArray, List.set_cons_zero, List.set_cons_succ]
                  refine wpAnyH_take (i := 19) (oi := { dst := some 122, op := Op.pick (Operand.tmp 115) (Operand.const (Value.bool true)) (Operand.tmp 121), type := 4, pos := "law.go:72", after := #[{ on := 12, ground := Ground.data }, { on := 18, ground := Ground.data }], guard := none }) (v := (.bool false)) rfl (by kernel_rfl) (by kernel_rfl) (by kernel_rfl) (fun _ _ _ h => h) (Or.inl ⟨by rfl, ?_⟩) (by assumption) ?_
                  · intro w hSw; (try dsimp only at hSw); first | (go_simp; done) | (go_simp; with_reducible rfl)
                  try simp only [Act.put, List.setIfInBounds_toArray, List.set_cons_zero, List.set_cons_succ]
                  refine wpAnyH_take (i := 20) (oi := { dst := some 123, op := Op.move (Operand.tmp 122), type := 4, pos := "law.go:72", after := #[{ on := 19, ground := Ground.data }, { on := 15, ground := Ground.chain }], guard := none }) (v := (.bool false)) rfl (by kernel_rfl) (by kernel_rfl) (by kernel_rfl) (fun _ _ _ h => h) (Or.inl ⟨by rfl, ?_⟩) (by assumption) ?_
                  · intro w hSw; (try dsimp only at hSw); first | (go_simp; done) | (go_simp; with_reducible rfl)
                  try simp only [Act.put, List.setIfInBounds_toArray, List.set_cons_zero, List.set_cons_succ]
                  refine wpAnyH_take (i := 21) (oi := { dst := some 124, op := Op.move (Operand.tmp 5), type := 25, pos := "law.go:72", after := #[{ on := 20, ground := Ground.guard }], guard := some (20, false) }) (v := (.pointer (some ⟨ba, 0, none⟩))) rfl (by kernel_rfl) (by kernel_rfl) (by kernel_rfl) (fun _ _ _ h => h) (Or.inl ⟨by rfl, ?_⟩) (by assumption) ?_
                  · intro w hSw; (try dsimp only at hSw); first | (go_simp; done) | (go_simp; with_reducible rfl)
                  try simp only [Act.put, List.setIfInBounds_toArray, List.set_cons_zero, List.set_cons_succ]
                  refine wpAnyH_take (i := 22) (oi := { dst := some 125, op := Op.fieldAddr 37 (Operand.tmp 9) 3, type := 0, pos := "law.go:72", after := #[{ on := 20, ground := Ground.guard }], guard := some (20, false) }) (v := (.pointer (some ⟨wr.heap.size, 3, none⟩))) rfl (by kernel_rfl) (by kernel_rfl) (by kernel_rfl) (fun _ _ _ h => h) (Or.inl ⟨by rfl, ?_⟩) (by assumption) ?_
                  · intro w hSw; (try dsimp only at hSw); first | (go_simp; done) | (go_simp; with_reducible rfl)
                  try simp only [Act.put, List.setIfInBounds_toArray, List.set_cons_zero, List.set_cons_succ]
                  refine wpAnyH_take (i := 23) (oi := { dst := some 126, op := Op.fieldAddr 35 (Operand.tmp 125) 1, type := 0, pos := "law.go:72", after := #[{ on := 22, ground := Ground.data }, { on := 20, ground := Ground.guard }], guard := some (20, false) }) (v := (.pointer (some ⟨wr.heap.size, 4, none⟩))) rfl (by kernel_rfl) (by kernel_rfl) (by kernel_rfl) (fun _ _ _ h => h) (Or.inl ⟨by rfl, ?_⟩) (by assumption) ?_
                  · intro w hSw; (try dsimp only at hSw); first | (go_simp; done) | (go_simp; with_reducible rfl)
                  try simp only [Act.put, List.setIfInBounds_toArray, List.set_cons_zero, List.set_cons_succ]
                  refine wpAnyH_take (i := 24) (oi := { dst := some 127, op := Op.load 3 (Operand.tmp 126), type := 3, pos := "law.go:72", after := #[{ on := 23, ground := Ground.data }, { on := 20, ground := Ground.guard }], guard := some (20, false) }) (v := (.int .i64 cl)) rfl (by kernel_rfl) (by kernel_rfl) (by kernel_rfl) (fun _ _ _ h => h) (Or.inl ⟨by rfl, ?_⟩) (by assumption) ?_
                  · intro w hSw; (try dsimp only at hSw); first | (go_simp; done) | (go_simp; with_reducible rfl)
                  try simp only [Act.put, List.setIfInBounds_toArray, List.set_cons_zero, List.set_cons_succ]
                  refine wpAnyH_take (i := 26) (oi := { dst := some 129, op := Op.move (Operand.tmp 7), type := 29, pos := "law.go:72", after := #[{ on := 20, ground := Ground.guard }], guard := some (20, false) }) (v := (.pointer (some ⟨w1.heap.size, 0, none⟩))) rfl (by kernel_rfl) (by kernel_rfl) (by kernel_rfl) (fun _ _ _ h => h) (Or.inl ⟨by rfl, ?_⟩) (by assumption) ?_
                  · intro w hSw; (try dsimp only at hSw); first | (go_simp; done) | (go_simp; with_reducible rfl)
                  try simp only [Act.put, List.setIfInBounds_toArray, List.set_cons_zero, List.set_cons_succ]
                  refine wpAnyH_take (i := 27) (oi := { dst := some 130, op := Op.fieldAddr 37 (Operand.tmp 9) 3, type := 0, pos := "law.go:72", after := #[{ on := 20, ground := Ground.guard }], guard := some (20, false) }) (v := (.pointer (some ⟨wr.heap.size, 3, none⟩))) rfl (by kernel_rfl) (by kernel_rfl) (by kernel_rfl) (fun _ _ _ h => h) (Or.inl ⟨by rfl, ?_⟩) (by assumption) ?_
                  · intro w hSw; (try dsimp only at hSw); first | (go_simp; done) | (go_simp; with_reducible rfl)
                  try simp only [Act.put, List.setIfInBounds_toArray, List.set_cons_zero, List.set_cons_succ]
                  refine wpAnyH_take (i := 28) (oi := { dst := some 131, op := Op.fieldAddr 35 (Operand.tmp 130) 1, type := 0, pos := "law.go:72", after := #[{ on := 27, ground := Ground.data }, { on := 20, ground := Ground.guard }], guard := some (20, false) }) (v := (.pointer (some ⟨wr.heap.size, 4, none⟩))) rfl (by kernel_rfl) (by kernel_rfl) (by kernel_rfl) (fun _ _ _ h => h) (Or.inl ⟨by rfl, ?_⟩) (by assumption) ?_
                  · intro w hSw; (try dsimp only at hSw); first | (go_simp; done) | (go_simp; with_reducible rfl)
                  try simp only [Act.put, List.setIfInBounds_toArray, List.set_cons_zero, List.set_cons_succ]
                  refine wpAnyH_take (i := 29) (oi := { dst := some 132, op := Op.load 3 (Operand.tmp 131), type := 3, pos := "law.go:72", after := #[{ on := 28, ground := Ground.data }, { on := 20, ground := Ground.guard }], guard := some (20, false) }) (v := (.int .i64 cl)) rfl (by kernel_rfl) (by kernel_rfl) (by kernel_rfl) (fun _ _ _ h => h) (Or.inl ⟨by rfl, ?_⟩) (by assumption) ?_
                  · intro w hSw; (try dsimp only at hSw); first | (go_simp; done) | (go_simp; with_reducible rfl)
                  try simp only [Act.put, List.setIfInBounds_toArray, List.set_cons_zero, List.set_cons_succ]
                  refine wpAnyH_ready (rs := [25]) (by kernel_rfl) (by simp) ?_
                  refine AllReadyH.cons (o := { dst := some 128, op := Op.call { callee := Callee.value (Operand.func 13), args := #[Operand.tmp 124, Operand.tmp 127], argTypes := #[25, 3] }, type := 3, pos := "law.go:72", after := #[{ on := 21, ground := Ground.data }, { on := 24, ground := Ground.data }, { on := 20, ground := Ground.chain }, { on := 20, ground := Ground.guard }], guard := some (20, false) }) rfl (fun K hK => ?_) AllReadyH.nil
                  go_simp
                  (go_at_call 13; with_reducible refine (HMd.out.calls_value HSS.out.good cl HW2.out).mono ?_; rintro e wv ⟨rfl, rfl⟩)
                  try go_wp2_with fail
                  refine hK.out _ _ ?_ (fun hHeld2 => ?_)
                  · exact HMd.out.four.2.2.1
                  clear hHeld; have hHeld := hHeld2; clear hHeld2 hK K
                  try simp only [Act.put, List.setIfInBounds_toArray, List.set_cons_zero, List.set_cons_succ]
                  refine wpAnyH_ready (rs := [30]) (by kernel_rfl) (by simp) ?_
                  refine AllReadyH.cons (o := { dst := some 133, op := Op.call { callee := Callee.value (Operand.func 14), args := #[Operand.tmp 129, Operand.tmp 132], argTypes := #[29, 3] }, type := 3, pos := "law.go:72", after := #[{ on := 26, ground := Ground.data }, { on := 29, ground := Ground.data }, { on := 25, ground := Ground.chain }, { on := 20, ground := Ground.guard }], guard := some (20, false) }) rfl (fun K hK => ?_) AllReadyH.nil
                  go_simp
                  (go_at_call 14; with_reducible refine (HMd.out.calls_valueR HSS.out cl).mono ?_; rintro e wv ⟨rfl, rfl⟩)
                  try go_wp2_with fail
                  refine hK.out _ _ ?_ (fun hHeld2 => ?_)
                  · exact HMd.out.four.2.2.1
                  clear hHeld; have hHeld := hHeld2; clear hHeld2 hK K
                  try simp only [Act.put, List.setIfInBounds_toArray, List.set_cons_zero, List.set_cons_succ]
                  refine wpAnyH_take (i := 31) (oi := { dst := some 134, op := Op.binOp BinOp.neq 3 (Operand.tmp 128) (Operand.tmp 133) 3, type := 4, pos := "law.go:72", after := #[{ on := 25, ground := Ground.data }, { on := 30, ground := Ground.data }, { on := 20, ground := Ground.guard }], guard := some (20, false) }) (v := (.bool false)) rfl (by kernel_rfl) (by kernel_rfl) (by kernel_rfl) (fun _ _ _ h => h) (Or.inl ⟨by rfl, ?_⟩) (by assumption) ?_
                  · intro w hSw; (try dsimp only at hSw); first | (go_simp; done) | (go_simp; with_reducible rfl)
                  try simp only [Act.put, List.setIfInBounds_toArray, List.set_cons_zero, List.set_cons_succ]
                  refine wpAnyH_take (i := 32) (oi := { dst := some 135, op := Op.pick (Operand.tmp 123) (Operand.const (Value.bool true)) (Operand.tmp 134), type := 4, pos := "law.go:72", after := #[{ on := 20, ground := Ground.data }, { on := 31, ground := Ground.data }], guard := none }) (v := (.bool false)) rfl (by kernel_rfl) (by kernel_rfl) (by kernel_rfl) (fun _ _ _ h => h) (Or.inl ⟨by rfl, ?_⟩) (by assumption) ?_
                  · intro w hSw; (try dsimp only at hSw); first | (go_simp; done) | (go_simp; with_reducible rfl)
                  try simp only [Act.put, List.setIfInBounds_toArray, List.set_cons_zero, List.set_cons_succ]
                  refine wpAnyH_take (i := 33) (oi := { dst := some 136, op := Op.move (Operand.tmp 135), type := 4, pos := "law.go:72", after := #[{ on := 32, ground := Ground.data }, { on := 30, ground := Ground.chain }], guard := none }) (v := (.bool false)) rfl (by kernel_rfl) (by kernel_rfl) (by kernel_rfl) (fun _ _ _ h => h) (Or.inl ⟨by rfl, ?_⟩) (by assumption) ?_
                  · intro w hSw; (try dsimp only at hSw); first | (go_simp; done) | (go_simp; with_reducible rfl)
                  try simp only [Act.put, List.setIfInBounds_toArray, List.set_cons_zero, List.set_cons_succ]
                  refine wpAnyH_take (i := 34) (oi := { dst := some 137, op := Op.move (Operand.tmp 5), type := 25, pos := "law.go:72", after := #[{ on := 33, ground := Ground.guard }], guard := some (33, false) }) (v := (.pointer (some ⟨ba, 0, none⟩))) rfl (by kernel_rfl) (by kernel_rfl) (by kernel_rfl) (fun _ _ _ h => h) (Or.inl ⟨by rfl, ?_⟩) (by assumption) ?_
                  · intro w hSw; (try dsimp only at hSw); first | (go_simp; done) | (go_simp; with_reducible rfl)
                  try simp only [Act.put, List.setIfInBounds_toArray, List.set_cons_zero, List.set_cons_succ]
                  refine wpAnyH_take (i := 36) (oi := { dst := some 139, op := Op.move (Operand.tmp 7), type := 29, pos := "law.go:72", after := #[{ on := 33, ground := Ground.guard }], guard := some (33, false) }) (v := (.pointer (some ⟨w1.heap.size, 0, none⟩))) rfl (by kernel_rfl) (by kernel_rfl) (by kernel_rfl) (fun _ _ _ h => h) (Or.inl ⟨by rfl, ?_⟩) (by assumption) ?_
                  · intro w hSw; (try dsimp only at hSw); first | (go_simp; done) | (go_simp; with_reducible rfl)
                  try simp only [Act.put, List.setIfInBounds_toArray, List.set_cons_zero, List.set_cons_succ]
                  refine wpAnyH_ready (rs := [35]) (by kernel_rfl) (by simp) ?_
                  refine AllReadyH.cons (o := { dst := some 138, op := Op.call { callee := Callee.value (Operand.func 16), args := #[Operand.tmp 137], argTypes := #[25] }, type := 30, pos := "law.go:72", after := #[{ on := 34, ground := Ground.data }, { on := 33, ground := Ground.chain }, { on := 33, ground := Ground.guard }], guard := some (33, false) }) rfl (fun K hK => ?_) AllReadyH.nil
                  go_simp
                  (go_at_call 16; with_reducible refine (HMd.out.calls_used (rbp_frames _ _ _ _) HSS.out.good hq3).mono ?_; rintro e wv ⟨A1, c1, rfl, hri, hT, hB⟩; have HB1 := Lib.hid (And.intro hT hri); clear hri hT hB)
                  try go_wp2_with fail
                  refine hK.out _ _ ?_ (fun hHeld2 => ?_)
                  · exact HB1.out.1.four.2.2.1
                  clear hHeld; have hHeld := hHeld2; clear hHeld2 hK K
                  try simp only [Act.put, List.setIfInBounds_toArray, List.set_cons_zero, List.set_cons_succ]
                  refine wpAnyH_ready (rs := [37]) (by kernel_rfl) (by simp) ?_
                  refine AllReadyH.cons (o := { dst := some 140, op := Op.call { callee := Callee.value (Operand.func 17), args := #[Operand.tmp 139], argTypes := #[29] }, type := 30, pos := "law.go:72", after := #[{ on := 36, ground := Ground.data }, { on := 35, ground := Ground.chain }, { on := 33, ground := Ground.guard }], guard := some (33, false) }) rfl (fun K hK => ?_) AllReadyH.nil
                  go_simp
                  (go_at_call 17; with_reducible refine (HB1.out.1.calls_usedR (bp_frames _ _ _) HSS.out hk91).mono ?_; rintro e wv2 ⟨A2, c2, rfl, hri, hT, hB⟩; have F := Lib.hid (And.intro (HB1.out.2.below hB) (And.intro hri hT)); clear hri hT hB)
                  try go_wp2_with fail
                  refine hK.out _ _ ?_ (fun hHeld2 => ?_)
                  · exact F.out.2.2.four.2.2.1
                  clear hHeld; have hHeld := hHeld2; clear hHeld2 hK K
                  try simp only [Act.put, List.setIfInBounds_toArray, List.set_cons_zero, List.set_cons_succ]
                  refine wpAnyH_ready (rs := [38]) (by kernel_rfl) (by simp) ?_
                  refine AllReadyH.cons (o := { dst := some 141, op := Op.call { callee := Callee.value (Operand.func 15), args := #[Operand.tmp 138, Operand.tmp 140], argTypes := #[30, 30] }, type := 4, pos := "law.go:72", after := #[{ on := 35, ground := Ground.data }, { on := 37, ground := Ground.data }, { on := 37, ground := Ground.chain }, { on := 33, ground := Ground.guard }], guard := some (33, false) }) rfl (fun K hK => ?_) AllReadyH.nil
                  go_simp
                  (go_at_call 15; with_reducible refine (ints_is _ _ _ _ _ _ (sortI X'.no) (sortI X'.no) (sortI_len _) (sortI_len _) _ F.out.1 F.out.2.1 true (by simp)).mono ?_; rintro e wi ⟨rfl, qi, rfl⟩)
                  try go_wp2_with fail
                  refine hK.out _ _ ?_ (fun hHeld2 => ?_)
                  · exact F.out.2.2.four.2.2.1
                  clear hHeld; have hHeld := hHeld2; clear hHeld2 hK K
                  try simp only [Act.put, List.setIfInBounds_toArray, List.set_cons_zero, List.set_cons_succ]
                  refine wpAnyH_take (i := 39) (oi := { dst := some 142, op := Op.unOp UnOp.not 4 (Operand.tmp 141), type := 4, pos := "law.go:72", after := #[{ on := 38, ground := Ground.data }, { on := 33, ground := Ground.guard }], guard := some (33, false) }) (v := (.bool false)) rfl (by kernel_rfl) (by kernel_rfl) (by kernel_rfl) (fun _ _ _ h => h) (Or.inl ⟨by rfl, ?_⟩) (by assumption) ?_
                  · intro w hSw; (try dsimp only at hSw); first | (go_simp; done) | (go_simp; with_reducible rfl)
                  try simp only [Act.put, List.setIfInBounds_toArray, List.set_cons_zero, List.set_cons_succ]
                  refine wpAnyH_take (i := 40) (oi := { dst := some 143, op := Op.pick (Operand.tmp 136) (Operand.const (Value.bool true)) (Operand.tmp 142), type := 4, pos := "law.go:72", after := #[{ on := 33, ground := Ground.data }, { on := 39, ground := Ground.data }], guard := none }) (v := (.bool false)) rfl (by kernel_rfl) (by kernel_rfl) (by kernel_rfl) (fun _ _ _ h => h) (Or.inl ⟨by rfl, ?_⟩) (by assumption) ?_
                  · intro w hSw; (try dsimp only at hSw); first | (go_simp; done) | (go_simp; with_reducible rfl)
                  try simp only [Act.put, List.setIfInBounds_toArray, List.set_cons_zero, List.set_cons_succ]
                  refine wpAnyH_done (by kernel_rfl) ?_ _
                  go_wp2_with fail
                  go_meet
                  exact ⟨rfl, Lib.hid (HE.out _ (F.out.2.2.grow (bp_frames _ _ _) (rbp_frames _ _ _ _) (bl_drewN _ _)))⟩
                case rest =>
                  obtain ⟨rfl, HN⟩ := hcut
                  go_wp2_with fail
                  go_roundw
                  case rel => exact ⟨k + 1, by omega, by go_num, HN⟩
                  case measure => simp [Go.RowKit.intOf]; omega
          · obtain rfl : k = T.length := by omega
            obtain ⟨X, RR, q, hM, _⟩ := M.out
            have MB := Lib.hid hM.base
            clear hM M
            go_wp2_with fail
            refine (alive_is _).mono ?_; rintro e w' ⟨rfl, hB⟩
            have HB := Lib.hid hB; clear hB
            go_wp2_with fail
            go_ret
            exact ⟨rfl, MB.out.1.trans (HB.out.mono MB.out.2)⟩
      · have de : (errS L != 0) = true := by simp [hok]
        have HOK := Lib.hid hok
        clear hok
        go_enter Try.func3, Try.ntmps3
        go_wp2_with fail
        refine (newB_is w A0 c0 n0 L R0.out.2 R0.out.1).mono ?_; rintro e w1 hg
        obtain ⟨rfl, hB1⟩ := gives_bad hg (show ¬ _ from HOK.out)
        have HB1 := Lib.hid hB1
        clear hg hB1
        go_wp2_with fail
        refine (alive_is _).mono ?_; rintro e w' ⟨rfl, hB⟩
        have HB := Lib.hid hB; clear hB
        go_wp2_with fail
        go_ret
        exact ⟨rfl, HB1.out.trans (HB.out.mono HB1.out.size)⟩
    · go_enter Try.func3, Try.ntmps3
      go_wp2_with fail
      refine (alive_is _).mono ?_; rintro e w' ⟨rfl, hB⟩
      have HB := Lib.hid hB; clear hB
      go_wp2_with fail
      go_ret
      exact ⟨rfl, HB.out⟩
  · go_enter Try.func3, Try.ntmps3
    go_wp2_with fail
    refine (alive_is _).mono ?_; rintro e w' ⟨rfl, hB⟩
    have HB := Lib.hid hB; clear hB
    go_wp2_with fail
    go_ret
    exact ⟨rfl, HB.out⟩
end Go.Proofs.Ytdfkmkflcnfchaa
