/- TapePlays: the whole. Own work. -/
import Derived.Test.YthpdfmjcchcijaaTPlays
import Derived.Deep.RegionHeld3
namespace Go.Proofs.Ythpdfmjcchcijaa
open Go.ChangeShapes Go.WideShapes Go.ChangeAt Go.RowKit CellM TapeM

theorem like_start (lo : List Int) : Like ⟨[], [], short lo⟩ ⟨[], [], lo⟩ := ⟨rfl, rfl, alike_short lo⟩
set_option maxHeartbeats 16000000 in
theorem tapePlays_is (w : World) (A0 A1 A2 : Option Addr) (c0 c1 c2 n0 n1 n2 : Nat) (L : List TapeM.Op) (l1 l2 : List Int) (hn0 : L.length = n0) (hn1 : l1.length = n1) (hn2 : l2.length = n2) (hA : RO w A0 c0 L) (h1 : RI w A1 c1 l1) (h2 : RI w A2 c2 l2) :
    Calls Try.prog 3 #[.slice A0 n0 c0, .slice A1 n1 c1, .slice A2 n2 c2] w fun e w' => e = .returned (.bool true) ∧ Below w.heap.size w w' := by
  have hm0 : n0 ≤ maxLen := by have := hA.1; have := hA.2.1; omega
  have hm1 : n1 ≤ maxLen := by have := h1.max; omega
  have hm2 : n2 ≤ maxLen := by have := h2.max; omega
  unfold maxLen at hm0 hm1 hm2
  have hB0 : Below w.heap.size w (w.alloc (.cells #[.slice A0 n0 c0] 22)) := below_alloc _ _
  by_cases hbig : n0 ≤ 100 ∧ n1 ≤ 100 ∧ n2 ≤ 100
  · obtain ⟨b0, b1, b2⟩ := hbig
    obtain ⟨W0, hW0⟩ : ∃ W0, W0 = w.alloc (.cells #[.slice A0 n0 c0] 22) := ⟨_, rfl⟩
    rw [← hW0] at hB0
    have hbx : Has W0 ⟨w.heap.size, 0, none⟩ (.slice A0 n0 c0) := by rw [hW0]; exact has_new w _ _ 0 _ rfl
    have x0 := hbx.1
    have HT1 := Lib.hid (tame_is W0 A1 c1 n1 l1 hn1 (by omega) (h1.below hB0))
    have H2 := Lib.hid (h2.below hB0)
    have HA := Lib.hid (And.intro (hA.below hB0) (And.intro hB0 hbx))
    have HN := Lib.hid (And.intro hn0 (And.intro hn1 hn2))
    have HW0 := Lib.hid hW0
    clear h1 h2 hA hB0 hbx hn0 hn1 hn2 hW0
    go_enter Try.func3, Try.ntmps3
    go_upto_region 1 with fail
    rw [← HW0.out]
    go_wp2_with fail
    refine HT1.out.mono ?_
    rintro e w1 ⟨v, rfl, ho1, hb1⟩
    obtain ⟨lo, hlo⟩ : ∃ lo, lo = l1.map (· % (cap 1099511627776 2199023255552 + 1)) := ⟨_, rfl⟩
    rw [← hlo] at ho1
    obtain ⟨A1', c1', hv, hri1⟩ := ho1.reads
    have hlo1 : lo.length = n1 := by rw [hlo, List.length_map]; exact HN.out.2.1
    rw [hlo1] at hv
    subst hv
    have hbW1 : Below w.heap.size w w1 := HA.out.2.1.trans (hb1.mono HA.out.2.1.size)
    have HT2 := Lib.hid (tame_is w1 A2 c2 n2 l2 HN.out.2.2 (by omega) (H2.out.below hb1))
    have HA1 := Lib.hid (And.intro (HA.out.1.below hb1) (And.intro hbW1 (HA.out.2.2.below hb1 HA.out.2.2.lt)))
    have HR1 := Lib.hid (And.intro hlo1 hri1)
    clear ho1 hb1 hri1 hlo1 hbW1 HT1 H2 HA HW0 hlo
    go_wp2_with fail
    refine HT2.out.mono ?_
    rintro e w2 ⟨v, rfl, ho2, hb2⟩
    obtain ⟨ans, hans⟩ : ∃ ans, ans = l2.map (· % (cap 1099511627776 2199023255552 + 1)) := ⟨_, rfl⟩
    rw [← hans] at ho2
    obtain ⟨A2', c2', hv, hri2⟩ := ho2.reads
    have hans1 : ans.length = n2 := by rw [hans, List.length_map]; exact HN.out.2.2
    rw [hans1] at hv
    subst hv
    obtain ⟨R, hR⟩ : ∃ R, runA ans L ⟨[], [], short lo⟩ 0 = R := ⟨_, rfl⟩
    obtain ⟨R', hR'⟩ : ∃ R', runA ans L ⟨[], [], lo⟩ 0 = R' := ⟨_, rfl⟩
    have hLk : LikeR R R' := by rw [← hR, ← hR']; exact run_like ans L _ _ 0 (like_start lo)
    have hbx2 := HA1.out.2.2.below hb2 HA1.out.2.2.lt
    have hro2 := HA1.out.1.below hb2
    have hrl2 := HR1.out.2.below hb2
    have HP := Lib.hid (playC8_is (bx := w.heap.size) HN.out.1 HR1.out.1 hans1 b0 (by omega) (by omega) hro2 hrl2 hri2 hbx2 R hR)
    have HW2 := Lib.hid (And.intro (HA1.out.2.1.trans (hb2.mono HA1.out.2.1.size)) (And.intro hro2 (And.intro hrl2 (And.intro hri2 hbx2))))
    have HLk := Lib.hid (And.intro (val_like hLk) (And.intro hR' hans1))
    have HLo := Lib.hid HR1.out.1
    clear ho2 hb2 hri2 hans1 hans hbx2 hro2 hrl2 hLk hR hR' HT2 HA1 HR1
    have hmf : ∀ (fn : Fn) (first cap : Array Value) (w : World), (Instr.makeFunc fn first cap).run Try.prog w = .ok (.func fn first cap) w := fun _ _ _ _ => rfl
    go_wp2_with fail
    refine HP.out.mono ?_
    intro e w3 hPl
    obtain ⟨P1, P2, P3, m1, m2, m3, d1, d2, d3, va, dn, hva, hdn, hq1, hq2, rfl, hOB, hB3⟩ := plays_out hPl
    have hO1 := hOB.at_
    clear hPl hq1 hq2 hOB
    obtain ⟨V, hV⟩ : ∃ V, V = w3.alloc (.cells #[.bool dn, .slice P1 m1 d1, .slice P2 m2 d2, .slice P3 m3 d3] 29) := ⟨_, rfl⟩
    have hbV : Below w3.heap.size w3 V := by rw [hV]; exact below_alloc _ _
    have hbox : ∀ i x, (#[.bool dn, .slice P1 m1 d1, .slice P2 m2 d2, .slice P3 m3 d3] : Array Value)[i]? = some x → Has V ⟨w3.heap.size, i, none⟩ x := fun i x hx => by rw [hV]; exact has_new w3 _ _ i x hx
    have hb2V : Below w2.heap.size w2 V := hB3.trans (hbV.mono hB3.size)
    have hbwV : Below w.heap.size w V := HW2.out.1.trans (hb2V.mono HW2.out.1.size)
    have hroV := HW2.out.2.1.below hb2V
    have hrlV := HW2.out.2.2.1.below hb2V
    have hriV := HW2.out.2.2.2.1.below hb2V
    have hbxV := HW2.out.2.2.2.2.below hb2V HW2.out.2.2.2.2.lt
    have HNew := Lib.hid (newR_is (w := V) A1' c1' n1 n2 HLo.out HLk.out.2.2 (by omega) hrlV hriV)
    have HVV := Lib.hid (And.intro hbwV (And.intro hroV (And.intro hrlV (And.intro hbxV (And.intro hbox (hO1.below hbV))))))
    have HVe := Lib.hid hV
    have HVal := Lib.hid (And.intro hva hdn)
    clear hO1 hB3 hV hbV hbox hb2V hbwV hroV hrlV hriV hbxV HP HW2 hva hdn
    go_upto_region 6 with fail
    rw [← HVe.out]
    go_wp2_with fail
    refine HNew.out.mono ?_
    rintro e w4 ⟨rb, rfl, hRT, hb4⟩
    have hbx4 := (HVV.out.2.2.2.1.below hb4 HVV.out.2.2.2.1.lt).1
    have HDo := Lib.hid (doR_is (F := fun b => V.heap.size ≤ b ∧ b < w4.heap.size) V.heap.size A0 c0 n0 L HN.out.1 hb4.size (fun b hb => hb.1) (fun wx hx => HVV.out.2.1.below (hb4.trans hx)) b0 (by have := HLk.out.2.2; omega) 0 (by omega) R'
      ⟨RN.of hRT (Below.refl _ _), HLk.out.2.1, by simp, by simp, by have := HLo.out; simp only; omega⟩)
    have HB4 := Lib.hid hb4
    clear hRT hb4 HNew
    go_wp2_with fail
    refine HDo.out.mono ?_
    rintro e w5 ⟨rfl, hN5⟩
    have hv' : valR R' = va := by rw [HVal.out.1, HLk.out.1.1]
    rw [hv']
    have hd' : dn = !overR R' := by rw [HVal.out.2, HLk.out.1.2.1]
    have hbV5 : Below V.heap.size V w5 := HB4.out.trans (hN5.step.below V.heap.size (fun b hb => hb.1) HB4.out.size)
    have hbw5 : Below w.heap.size w w5 := HVV.out.1.trans (hbV5.mono HVV.out.1.size)
    have hcell : ∀ wx, Below w5.heap.size w5 wx → ∀ i x, (#[.bool dn, .slice P1 m1 d1, .slice P2 m2 d2, .slice P3 m3 d3] : Array Value)[i]? = some x → wx.cell? ⟨w3.heap.size, i, none⟩ = some x := fun wx hb i x hx =>
      ((HVV.out.2.2.2.2.1 i x hx).below (hbV5.trans (hb.mono hbV5.size)) (HVV.out.2.2.2.2.1 i x hx).lt).1
    have y0 := hcell w5 (Below.refl _ _) 0 _ rfl
    have y1 := hcell w5 (Below.refl _ _) 1 _ rfl
    have y2 := hcell w5 (Below.refl _ _) 2 _ rfl
    have y3 := hcell w5 (Below.refl _ _) 3 _ rfl
    have HCe := Lib.hid hcell
    have HOut := Lib.hid (fun (wx : World) (hb : Below w5.heap.size w5 wx) => outR_is (hN5.at_.grow hb))
    have hO5 : OutAt w5 (outV dn P1 P2 P3 m1 m2 m3 d1 d2 d3) (!overR R') R.st := by rw [← hd']; exact HVV.out.2.2.2.2.2.below hbV5
    have HO1 := Lib.hid (fun (wx : World) (hb : Below w5.heap.size w5 wx) => hO5.below hb)
    have hrl5 := HVV.out.2.2.1.below hbV5
    have HSh := Lib.hid (fun (wx : World) (hb : Below w5.heap.size w5 wx) => short_is wx A1' c1' n1 lo HLo.out (by omega) (hrl5.below hb))
    have HShR := Lib.hid (fun (wx : World) (hb : Below w5.heap.size w5 wx) => shortR_is wx A1' c1' n1 lo HLo.out (hrl5.below hb) _ rfl)
    have HIn := Lib.hid (fun (wx : World) (hb : Below w5.heap.size w5 wx) (A : Option Addr) (c : Nat) (h : RI wx A c (short lo)) => ints_is A A1' c c1' (short lo).length (shN lo) (short lo) (short lo) rfl (short_len lo) wx h ((hrl5.below hb).take _) true (by simp))
    have HL3 := Lib.hid HLk.out.1.2.2
    have HB5 := Lib.hid hbw5
    clear hv' hd' hbV5 hbw5 hcell hO5 hrl5 hN5 HVV HVal HLk HDo HB4 hbx4 HVe
    obtain ⟨sl, hsl⟩ : ∃ sl, sl = short lo := ⟨_, rfl⟩
    obtain ⟨sn, hsn⟩ : ∃ sn, sn = shN lo := ⟨_, rfl⟩
    rw [← hsl] at HSh HIn
    rw [← hsn] at HShR HIn
    clear hsl hsn
    go_wp2_with fail
    go_region_with (first
      | (go_at_call 13; refine (HOut.out _ (by first | exact (Below.refl _ _).drew | exact bl_drewN _ _)).mono ?_; rintro e w6 ⟨o2, rfl, ho2, hb6⟩; have hb56 : Below w5.heap.size w5 w6 := (Below.drew (Below.refl _ _)).trans hb6; have e0 := HCe.out _ hb56 0 _ rfl; have e1 := HCe.out _ hb56 1 _ rfl; have e2 := HCe.out _ hb56 2 _ rfl; have e3 := HCe.out _ hb56 3 _ rfl; have HO2 := Lib.hid ho2; have HB56 := Lib.hid hb56; clear ho2 hb6 hb56)
      | (go_at_call 12; refine (same_is (HO1.out _ HB56.out) HO2.out HL3.out.acc HL3.out.nts HL3.out.loc).mono ?_; rintro e w7 ⟨rfl, hb7⟩; have HB57 := Lib.hid (HB56.out.trans (hb7.mono HB56.out.size)); clear hb7)
      | (go_at_call 15; refine (HSh.out _ HB57.out).mono ?_; rintro e w8 ⟨v, rfl, ho, hb8⟩; obtain ⟨A, c, rfl, hri⟩ := ho.reads; have HRI := Lib.hid hri; have HB58 := Lib.hid (HB57.out.trans (hb8.mono HB57.out.size)); clear ho hb8 hri)
      | (go_at_call 16; refine (HShR.out _ (by first | exact HB58.out | exact HB57.out)).mono ?_; rintro e w' ⟨rfl, rfl⟩)
      | (go_at_call 14; refine (HIn.out _ HB58.out _ _ HRI.out).mono ?_; rintro e w' ⟨rfl, q, rfl⟩)
      | (go_at_call 5; refine (alive10_is _).mono ?_; rintro e w9 ⟨rfl, hb9⟩; have HB9 := Lib.hid (HB5.out.trans ((HB58.out.trans ((((bl_drewN _ _).trans hb9)).mono HB58.out.size)).mono HB5.out.size)); clear hb9))
    all_goals
      go_wp2_with fail
      go_ret
      exact ⟨rfl, HB9.out⟩
  · have hal := Lib.hid (fun wx => alive10_is wx)
    clear hA h1 h2 hn0 hn1 hn2
    have HB0 := Lib.hid hB0
    clear hB0
    by_cases c1 : n0 ≤ 100
    · by_cases c2 : n1 ≤ 100
      · have c3 : ¬ n2 ≤ 100 := fun h => hbig ⟨c1, c2, h⟩
        clear hbig
        go_enter Try.func3, Try.ntmps3
        go_wp2_with fail
        refine (hal.out _).mono ?_; rintro e w' ⟨rfl, hb⟩
        have HB := Lib.hid (HB0.out.trans (hb.mono HB0.out.size))
        clear hb
        go_wp2_with fail
        go_ret
        exact ⟨rfl, HB.out⟩
      · clear hbig
        go_enter Try.func3, Try.ntmps3
        go_wp2_with fail
        refine (hal.out _).mono ?_; rintro e w' ⟨rfl, hb⟩
        have HB := Lib.hid (HB0.out.trans (hb.mono HB0.out.size))
        clear hb
        go_wp2_with fail
        go_ret
        exact ⟨rfl, HB.out⟩
    · clear hbig
      go_enter Try.func3, Try.ntmps3
      go_wp2_with fail
      refine (hal.out _).mono ?_; rintro e w' ⟨rfl, hb⟩
      have HB := Lib.hid (HB0.out.trans (hb.mono HB0.out.size))
      clear hb
      go_wp2_with fail
      go_ret
      exact ⟨rfl, HB.out⟩
end Go.Proofs.Ythpdfmjcchcijaa
