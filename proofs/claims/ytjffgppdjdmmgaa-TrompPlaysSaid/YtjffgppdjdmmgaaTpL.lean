/- TrompPlays: the whole. Own work. -/
import Derived.Test.YtjffgppdjdmmgaaTpC
import Derived.Test.YtjffgppdjdmmgaaTpA2
import Derived.Test.YtjffgppdjdmmgaaTpR
import Derived.Test.YtjffgppdjdmmgaaTNewR
import Derived.Test.YtjffgppdjdmmgaaTOutR
import Derived.Deep.RegionWith
import Derived.StillTailTactics
import Derived.Deep.DeepCutAuto
namespace Go.Proofs.Ytjffgppdjdmmgaa
open Go.ChangeShapes Go.WideShapes Go.ChangeAt Go.RowKit CellM TapeM

theorem like_start (lo : List Int) : Like ⟨[], [], short lo⟩ ⟨[], [], lo⟩ := ⟨rfl, rfl, alike_short lo⟩
theorem tpRow_nb (b l : Int) (L : List Int) (s : Int) : (tpRow b l L s).nb 0 := rowT_nb (rdTp_nb b l) (fun x => wrTp_nb b l x) L s
/-- Play of the closure. -/
theorem playTp_is {w : World} {A0 A1 AA : Option Addr} {c0 c1 ac n0 n1 m : Nat} {lo ans L : List Int} (k b l n rw rr tp : Int) (b1 b2 : Nat) (hn0 : L.length = n0) (hn1 : lo.length = n1) (hm : ans.length = m) (h2 : n1 ≤ 1000) (h3 : m ≤ 90000)
    (hA : RI w A0 c0 L) (hl : RI w A1 c1 lo) (hr : RI w AA ac ans) (hb1 : Has w ⟨b1, 0, none⟩ (.slice A0 n0 c0)) (hb2 : BoxAt w b2 #[.int .i64 k, .int .i64 b, .int .i64 l, .int .i64 n, .int .i64 rw, .int .i64 rr, .int .i64 tp]) (hnr : Near b l) (R : Res) (hR : (tpRow b l L 0).run ans ⟨[], [], short lo⟩ = R) :
    Calls Try.prog 7 #[.func (.func 8) #[] #[.pointer (some ⟨b1, 0, none⟩), .pointer (some ⟨b2, 0, none⟩)], .slice A1 n1 c1, .slice AA m ac] w fun e w' => Plays R (Value.int .i64) (.int .i64 0) w w' e :=
  playT_is (tpRow b l L 0) 0 (tpRow_nb _ _ _ _) (by decide) 8 _ enterT1 hn1 hm h2 h3 hl hr R hR
    (fun C hC hb H => tpClo_is A0 c0 n0 L hn0 k b l n rw rr tp b1 b2 (hb1.below hb hb1.lt) (hb2.grow hb) (by rw [hC]; exact hb1.lt) (by rw [hC]; exact (hb2 0 _ rfl).lt) hnr (fun w' hx => hA.below (hb.trans (hC ▸ hx))) H)
set_option maxHeartbeats 16000000 in
set_option maxRecDepth 20000 in
theorem trompPlays_is (w : World) (k b l n rw rr tp : Int) (A0 A1 A2 : Option Addr) (c0 c1 c2 n0 n1 n2 : Nat) (L l1 l2 : List Int) (hn0 : L.length = n0) (hn1 : l1.length = n1) (hn2 : l2.length = n2) (hA : RI w A0 c0 L) (h1 : RI w A1 c1 l1) (h2 : RI w A2 c2 l2) :
    Calls Try.prog 3 #[.agg #[.int .i64 k, .int .i64 b, .int .i64 l, .int .i64 n, .int .i64 rw, .int .i64 rr, .int .i64 tp], .slice A0 n0 c0, .slice A1 n1 c1, .slice A2 n2 c2] w fun e w' => e = .returned (.bool true) ∧ Below w.heap.size w w' := by
  have hm0 : n0 ≤ maxLen := by have := hA.max; omega
  have hm1 : n1 ≤ maxLen := by have := h1.max; omega
  have hm2 : n2 ≤ maxLen := by have := h2.max; omega
  unfold maxLen at hm0 hm1 hm2
  obtain ⟨W0, hW0⟩ : ∃ W0, W0 = (w.alloc (.cells #[.int .i64 k, .int .i64 b, .int .i64 l, .int .i64 n, .int .i64 rw, .int .i64 rr, .int .i64 tp] 23)).alloc (.cells #[.slice A0 n0 c0] 24) := ⟨_, rfl⟩
  have hB0 : Below w.heap.size w W0 := by rw [hW0]; exact (below_alloc _ _).alloc (by simp) _
  have hbr : BoxAt W0 w.heap.size #[.int .i64 k, .int .i64 b, .int .i64 l, .int .i64 n, .int .i64 rw, .int .i64 rr, .int .i64 tp] := by rw [hW0]; exact (BoxAt.new w _ _).grow (below_alloc _ _)
  have hbx : Has W0 ⟨w.heap.size + 1, 0, none⟩ (.slice A0 n0 c0) := by
    have := has_new (w.alloc (.cells #[.int .i64 k, .int .i64 b, .int .i64 l, .int .i64 n, .int .i64 rw, .int .i64 rr, .int .i64 tp] 23)) #[.slice A0 n0 c0] 24 0 _ rfl
    rw [size_alloc'] at this
    rw [hW0]; exact this
  have x0 := hbx.1
  have x1 := (hbr 1 _ rfl).1
  have x2 := (hbr 2 _ rfl).1
  by_cases hbig : n0 ≤ 40 ∧ n1 ≤ 100 ∧ n2 ≤ 300 ∧ -1099511627776 ≤ b ∧ b ≤ 1099511627776 ∧ -1099511627776 ≤ l ∧ l ≤ 1099511627776
  · obtain ⟨q0, q1, q2, q3, q4, q5, q6⟩ := hbig
    have HNr := Lib.hid (show Near b l from ⟨by omega, by omega, by omega, by omega⟩)
    have HT1 := Lib.hid (tame_is W0 A1 c1 n1 l1 hn1 (by omega) (h1.below hB0))
    have H2 := Lib.hid (h2.below hB0)
    have HA := Lib.hid (And.intro (hA.below hB0) (And.intro hB0 (And.intro hbx hbr)))
    have HN := Lib.hid (And.intro hn0 (And.intro hn1 hn2))
    have HW0 := Lib.hid hW0
    clear h1 h2 hA hB0 hbx hn0 hn1 hn2 hW0 hbr
    go_enter Try.func3, Try.ntmps3
    go_upto_region 1 with fail
    rw [← HW0.out]
    go_wp2_with fail
    refine HT1.out.mono ?_
    rintro e w1 ⟨v, rfl, ho1, hb1⟩
    obtain ⟨lo, hlo⟩ : ∃ lo, lo = l1.map (· % (cap 1099511627776 2199023255552 + 1)) := ⟨_, rfl⟩
    rw [← hlo] at ho1
    obtain ⟨A1', c1', hv, hri1⟩ := ho1.reads
    have hlo1 : lo.length = n1 := by rw [hlo, List.length_map]; exact HN.out.2.1
    rw [hlo1] at hv
    subst hv
    have hbW1 : Below w.heap.size w w1 := HA.out.2.1.trans (hb1.mono HA.out.2.1.size)
    have HT2 := Lib.hid (tame_is w1 A2 c2 n2 l2 HN.out.2.2 (by omega) (H2.out.below hb1))
    have HA1 := Lib.hid (And.intro (HA.out.1.below hb1) (And.intro hbW1 (And.intro (HA.out.2.2.1.below hb1 HA.out.2.2.1.lt) (HA.out.2.2.2.grow hb1))))
    have HR1 := Lib.hid (And.intro hlo1 hri1)
    clear ho1 hb1 hri1 hlo1 hbW1 HT1 H2 HA HW0 hlo x0 x1 x2
    go_wp2_with fail
    refine HT2.out.mono ?_
    rintro e w2 ⟨v, rfl, ho2, hb2⟩
    obtain ⟨ans, hans⟩ : ∃ ans, ans = l2.map (· % (cap 1099511627776 2199023255552 + 1)) := ⟨_, rfl⟩
    rw [← hans] at ho2
    obtain ⟨A2', c2', hv, hri2⟩ := ho2.reads
    have hans1 : ans.length = n2 := by rw [hans, List.length_map]; exact HN.out.2.2
    rw [hans1] at hv
    subst hv
    obtain ⟨R, hR⟩ : ∃ R, (tpRow b l L 0).run ans ⟨[], [], short lo⟩ = R := ⟨_, rfl⟩
    obtain ⟨R', hR'⟩ : ∃ R', (tpRow b l L 0).run ans ⟨[], [], lo⟩ = R' := ⟨_, rfl⟩
    have hLk : LikeR R R' := by rw [← hR, ← hR']; exact Tr.run_like ans _ _ _ (like_start lo)
    have hbx2 := HA1.out.2.2.1.below hb2 HA1.out.2.2.1.lt
    have hbr2 := HA1.out.2.2.2.grow hb2
    have hro2 := HA1.out.1.below hb2
    have hrl2 := HR1.out.2.below hb2
    have HP := Lib.hid (playTp_is k b l n rw rr tp (w.heap.size + 1) w.heap.size HN.out.1 HR1.out.1 hans1 (by omega) (by omega) hro2 hrl2 hri2 hbx2 hbr2 HNr.out R hR)
    have HW2 := Lib.hid (And.intro (HA1.out.2.1.trans (hb2.mono HA1.out.2.1.size)) (And.intro hro2 (And.intro hrl2 (And.intro hri2 (And.intro hbx2 hbr2)))))
    have HLk := Lib.hid (And.intro (val_like hLk) (And.intro hR' hans1))
    have HLo := Lib.hid HR1.out.1
    clear ho2 hb2 hri2 hans1 hans hbx2 hro2 hrl2 hLk hR hR' HT2 HA1 HR1 hbr2
    have hmf : ∀ (fn : Fn) (first cap : Array Value) (w : World), (Instr.makeFunc fn first cap).run Try.prog w = .ok (.func fn first cap) w := fun _ _ _ _ => rfl
    go_wp2_with fail
    refine HP.out.mono ?_
    intro e w3 hPl
    obtain ⟨P1, P2, P3, m1, m2, m3, d1, d2, d3, va, dn, hva, hdn, hq1, hq2, rfl, hOB, hB3⟩ := plays_out hPl
    have hO1 := hOB.at_
    clear hPl hq1 hq2 hOB
    obtain ⟨V, hV⟩ : ∃ V, V = w3.alloc (.cells #[.bool dn, .slice P1 m1 d1, .slice P2 m2 d2, .slice P3 m3 d3] 30) := ⟨_, rfl⟩
    have hbV : Below w3.heap.size w3 V := by rw [hV]; exact below_alloc _ _
    have hbox : BoxAt V w3.heap.size #[.bool dn, .slice P1 m1 d1, .slice P2 m2 d2, .slice P3 m3 d3] := by rw [hV]; exact BoxAt.new _ _ _
    have hb2V : Below w2.heap.size w2 V := hB3.trans (hbV.mono hB3.size)
    have hbwV : Below w.heap.size w V := HW2.out.1.trans (hb2V.mono HW2.out.1.size)
    have hroV := HW2.out.2.1.below hb2V
    have hrlV := HW2.out.2.2.1.below hb2V
    have hriV := HW2.out.2.2.2.1.below hb2V
    have hbxV := HW2.out.2.2.2.2.1.below hb2V HW2.out.2.2.2.2.1.lt
    have hbrV := HW2.out.2.2.2.2.2.grow hb2V
    have HNew := Lib.hid (newR_is (w := V) A1' c1' n1 n2 HLo.out HLk.out.2.2 (by omega) hrlV hriV)
    have HVV := Lib.hid (And.intro hbwV (And.intro hroV (And.intro hbxV (And.intro hbrV (And.intro hbox (hO1.below hbV))))))
    have HVe := Lib.hid hV
    have HVal := Lib.hid (And.intro hva hdn)
    clear hO1 hB3 hV hbV hbox hb2V hbwV hroV hrlV hriV hbxV hbrV HP HW2 hva hdn
    go_upto_region 6 with fail
    rw [← HVe.out]
    go_wp2_with fail
    refine HNew.out.mono ?_
    rintro e w4 ⟨rb, rfl, hRT, hb4⟩
    have hlo32 : lo.length ≤ 32768 := by have := HLo.out; omega
    have hN0 := NowR.start (base := V.heap.size) hRT (fun b hb => hb.1) hb4.size (tpRow b l L 0) 0 (tpRow_nb _ _ _ _) (by have := HLk.out.2.2; omega) (by simp) (by simp) hlo32
    rw [HLk.out.2.1] at hN0
    obtain ⟨C, hC⟩ : ∃ C : Ctx, C = ⟨w4, V.heap.size, rb, A2', c2', ans, fun b => V.heap.size ≤ b ∧ b < w4.heap.size⟩ := ⟨_, rfl⟩
    rw [← hC] at hN0
    have HN0 := Lib.hid hN0
    have HC := Lib.hid (And.intro hC hb4)
    clear hN0 hC hRT hb4 HNew hlo32
    go_wp2_with fail
    go_loopw [12, 13] (fun s i wr => ∃ (j : Nat) (sum : Int), j ≤ n0 ∧ i = .int .i64 j ∧ s = .int .i64 sum ∧ Hid (NowR C wr (fun b => b < V.heap.size) (tpRow b l (L.drop j) sum) R')) (fun _ i _ => n0 - (intOf i).toNat)
    case atStart => exact ⟨0, 0, Nat.zero_le _, rfl, rfl, HN0⟩
    case round =>
      obtain ⟨j, sum, hj, rfl, rfl, HR⟩ := hrel
      have hbw : Below V.heap.size V wr := HC.out.2.trans (by have := HR.out.below; rw [HC.out.1] at this; exact this)
      have x1 := (HVV.out.2.2.1.below hbw HVV.out.2.2.1.lt).1
      have hLn := HN.out.1
      by_cases hlt : j < n0
      · obtain ⟨ov, hov, hover⟩ := HR.out.over
        rw [HC.out.1] at hov
        have hov1 := hov.1
        simp only at hov1
        cases ov with
        | false =>
          have hbx := HVV.out.2.2.2.1.grow hbw
          have y0 := (hbx 0 _ rfl).1
          have y1 := (hbx 1 _ rfl).1
          have y2 := (hbx 2 _ rfl).1
          have y3 := (hbx 3 _ rfl).1
          have y4 := (hbx 4 _ rfl).1
          have y5 := (hbx 5 _ rfl).1
          have y6 := (hbx 6 _ rfl).1
          have hri := HVV.out.2.1.below hbw
          have hlL : j < L.length := by rw [hLn]; exact hlt
          obtain ⟨ad, rfl, xc⟩ := hri.at_ hlL
          obtain ⟨z, hz⟩ : ∃ z, z = L[j] := ⟨_, rfl⟩
          rw [← hz] at xc
          have hmb : C.mb = rb := by rw [HC.out.1]
          clear hbx hbw hri hover hov
          by_cases h0 : z < 0
          · have hM := (HR.out.as (rowT_read hlL (by rw [← hz]; exact h0) sum)).call (rdTpR_does k b l n rw rr tp HNr.out) (Below.refl _ _)
            rw [hmb] at hM
            have HM := Lib.hid hM
            clear hM hz HR
            go_wp2_with fail
            refine HM.out.mono ?_
            rintro e w' ⟨x, rfl, hN, hK⟩
            have HG := Lib.hid (hN.less (K := fun b => b < V.heap.size) (fun b h => .inl h))
            clear hN hK HM
            go_wp2_with fail
            go_roundw
            case rel => exact ⟨j + 1, _, by omega, by go_num, rfl, HG⟩
            case measure => simp [intOf]; omega
          · have hM := (HR.out.as (rowT_write hlL (by rw [← hz]; exact h0) sum)).call (wrTpR_does k b l n rw rr tp L[j] HNr.out) ((Below.refl _ _).drew)
            rw [← hz, hmb] at hM
            have HM := Lib.hid hM
            have hj0 : (0 : Int) ≤ (j : Int) := by omega
            have hj1 : (j : Int) < (n0 : Int) := by omega
            clear hM hz HR
            go_wp2_with fail
            go_still_tail 6, (by kernel_rfl)
            change wpList _ _ _ _ _ wr.drew
            go_wp2_with fail
            refine HM.out.mono ?_
            rintro e w' ⟨x, rfl, hN, hK⟩
            have HG := Lib.hid (hN.less (K := fun b => b < V.heap.size) (fun b h => .inl h))
            clear hN hK HM
            go_wp2_with fail
            go_roundw
            case rel => exact ⟨j + 1, _, by omega, by go_num, rfl, HG⟩
            case measure => simp [intOf]; omega
        | true =>
          have hfin := hover rfl (.ret sum)
          clear hover hov
          have hD := hfin.done
          have hval : va = valR R' := HVal.out.1.trans HLk.out.1.1
          have hdn : dn = !overR R' := HVal.out.2.trans HLk.out.1.2.1
          have hbV5 : Below V.heap.size V wr := HC.out.2.trans (by have := hfin.below; rw [HC.out.1] at this; exact this)
          have hbw5 : Below w.heap.size w wr := HVV.out.1.trans (hbV5.mono HVV.out.1.size)
          have hcell : ∀ wx, Below wr.heap.size wr wx → ∀ i x, (#[.bool dn, .slice P1 m1 d1, .slice P2 m2 d2, .slice P3 m3 d3] : Array Value)[i]? = some x → wx.cell? ⟨w3.heap.size, i, none⟩ = some x := fun wx hb i x hx =>
            ((HVV.out.2.2.2.2.1 i x hx).below (hbV5.trans (hb.mono hbV5.size)) (HVV.out.2.2.2.2.1 i x hx).lt).1
          have y0 := hcell wr (Below.refl _ _) 0 _ rfl
          have y1 := hcell wr (Below.refl _ _) 1 _ rfl
          have y2 := hcell wr (Below.refl _ _) 2 _ rfl
          have y3 := hcell wr (Below.refl _ _) 3 _ rfl
          have hO5 : OutAt wr (outV dn P1 P2 P3 m1 m2 m3 d1 d2 d3) (!overR R') R.st := by rw [← hdn]; exact HVV.out.2.2.2.2.2.below hbV5
          have HO1 := Lib.hid (fun (wx : World) (hb : Below wr.heap.size wr wx) => hO5.below hb)
          have hRN := hD.2.1
          have hov2 := hD.1.1
          rw [HC.out.1] at hRN hov2
          simp only at hRN hov2
          have HOut := Lib.hid (fun (wx : World) (hb : Below wr.heap.size wr wx) => outR_is (hRN.at_.grow hb))
          have HCe := Lib.hid hcell
          have HL3 := Lib.hid HLk.out.1.2.2
          have HB5 := Lib.hid hbw5
          have hovr : overR R' = true := by
            have := hov2
            rw [hov1] at this
            simpa using this.symm
          obtain rfl : va = 0 := hval.trans (hD.2.2.2 hovr)
          have hvv : ((0 : Int) == 0) = true := rfl
          clear hD hval hdn hbV5 hbw5 hcell hO5 hRN hovr hov2 hfin
          go_wp2_with fail
          go_region_with (first
            | (go_at_call 15; refine (HOut.out _ (by first | exact (Below.refl _ _).drew | exact bl_drewN _ _)).mono ?_; rintro e w6 ⟨o2, rfl, ho2, hb6⟩; have hb56 : Below wr.heap.size wr w6 := (Below.drew (Below.refl _ _)).trans hb6; have e0 := HCe.out _ hb56 0 _ rfl; have e1 := HCe.out _ hb56 1 _ rfl; have e2 := HCe.out _ hb56 2 _ rfl; have e3 := HCe.out _ hb56 3 _ rfl; have HO2 := Lib.hid ho2; have HB56 := Lib.hid hb56; clear ho2 hb6 hb56)
            | (go_at_call 14; refine (same_is (HO1.out _ HB56.out) HO2.out HL3.out.acc HL3.out.nts HL3.out.loc).mono ?_; rintro e w7 ⟨rfl, hb7⟩; have HB57 := Lib.hid (HB56.out.trans (hb7.mono HB56.out.size)); clear hb7)
            | (go_at_call 5; refine (alive13_is _).mono ?_; rintro e w9 ⟨rfl, hb9⟩; have HB9 := Lib.hid (HB5.out.trans ((HB57.out.trans (hb9.mono HB57.out.size)).mono HB5.out.size)); clear hb9))
          all_goals
            go_wp2_with fail
            go_ret
            exact ⟨rfl, HB9.out⟩
      · obtain rfl : j = n0 := by omega
        have hfin := HR.out
        rw [← hLn, List.drop_length] at hfin
        have hfin : NowR C wr (fun b => b < V.heap.size) (.ret sum) R' := hfin
        have hD := hfin.done
        have hval : va = valR R' := HVal.out.1.trans HLk.out.1.1
        have hdn : dn = !overR R' := HVal.out.2.trans HLk.out.1.2.1
        have hbV5 : Below V.heap.size V wr := HC.out.2.trans (by have := hfin.below; rw [HC.out.1] at this; exact this)
        have hbw5 : Below w.heap.size w wr := HVV.out.1.trans (hbV5.mono HVV.out.1.size)
        have hcell : ∀ wx, Below wr.heap.size wr wx → ∀ i x, (#[.bool dn, .slice P1 m1 d1, .slice P2 m2 d2, .slice P3 m3 d3] : Array Value)[i]? = some x → wx.cell? ⟨w3.heap.size, i, none⟩ = some x := fun wx hb i x hx =>
          ((HVV.out.2.2.2.2.1 i x hx).below (hbV5.trans (hb.mono hbV5.size)) (HVV.out.2.2.2.2.1 i x hx).lt).1
        have y0 := hcell wr (Below.refl _ _) 0 _ rfl
        have y1 := hcell wr (Below.refl _ _) 1 _ rfl
        have y2 := hcell wr (Below.refl _ _) 2 _ rfl
        have y3 := hcell wr (Below.refl _ _) 3 _ rfl
        have hO5 : OutAt wr (outV dn P1 P2 P3 m1 m2 m3 d1 d2 d3) (!overR R') R.st := by rw [← hdn]; exact HVV.out.2.2.2.2.2.below hbV5
        have HO1 := Lib.hid (fun (wx : World) (hb : Below wr.heap.size wr wx) => hO5.below hb)
        have hRN := hD.2.1
        have hov2 := hD.1.1
        rw [HC.out.1] at hRN hov2
        simp only at hRN hov2
        have HOut := Lib.hid (fun (wx : World) (hb : Below wr.heap.size wr wx) => outR_is (hRN.at_.grow hb))
        have HCe := Lib.hid hcell
        have HL3 := Lib.hid HLk.out.1.2.2
        have HB5 := Lib.hid hbw5
        cases hovr : overR R' with
        | false =>
          obtain rfl : sum = va := (hD.2.2.1 hovr).trans hval.symm
          rw [hovr] at hov2
          have hvv : (sum == sum) = true := by simp
          clear hD hval hdn hbV5 hbw5 hcell hO5 hRN hovr hfin
          go_wp2_with fail
          go_region_with (first
            | (go_at_call 15; refine (HOut.out _ (by first | exact (Below.refl _ _).drew | exact bl_drewN _ _)).mono ?_; rintro e w6 ⟨o2, rfl, ho2, hb6⟩; have hb56 : Below wr.heap.size wr w6 := (Below.drew (Below.refl _ _)).trans hb6; have e0 := HCe.out _ hb56 0 _ rfl; have e1 := HCe.out _ hb56 1 _ rfl; have e2 := HCe.out _ hb56 2 _ rfl; have e3 := HCe.out _ hb56 3 _ rfl; have HO2 := Lib.hid ho2; have HB56 := Lib.hid hb56; clear ho2 hb6 hb56)
            | (go_at_call 14; refine (same_is (HO1.out _ HB56.out) HO2.out HL3.out.acc HL3.out.nts HL3.out.loc).mono ?_; rintro e w7 ⟨rfl, hb7⟩; have HB57 := Lib.hid (HB56.out.trans (hb7.mono HB56.out.size)); clear hb7)
            | (go_at_call 5; refine (alive13_is _).mono ?_; rintro e w9 ⟨rfl, hb9⟩; have HB9 := Lib.hid (HB5.out.trans ((HB57.out.trans (hb9.mono HB57.out.size)).mono HB5.out.size)); clear hb9))
          all_goals
            go_wp2_with fail
            go_ret
            exact ⟨rfl, HB9.out⟩
        | true =>
          obtain rfl : va = 0 := hval.trans (hD.2.2.2 hovr)
          rw [hovr] at hov2
          clear hD hval hdn hbV5 hbw5 hcell hO5 hRN hovr hfin
          go_wp2_with fail
          go_region_with (first
            | (go_at_call 15; refine (HOut.out _ (by first | exact (Below.refl _ _).drew | exact bl_drewN _ _)).mono ?_; rintro e w6 ⟨o2, rfl, ho2, hb6⟩; have hb56 : Below wr.heap.size wr w6 := (Below.drew (Below.refl _ _)).trans hb6; have e0 := HCe.out _ hb56 0 _ rfl; have e1 := HCe.out _ hb56 1 _ rfl; have e2 := HCe.out _ hb56 2 _ rfl; have e3 := HCe.out _ hb56 3 _ rfl; have HO2 := Lib.hid ho2; have HB56 := Lib.hid hb56; clear ho2 hb6 hb56)
            | (go_at_call 14; refine (same_is (HO1.out _ HB56.out) HO2.out HL3.out.acc HL3.out.nts HL3.out.loc).mono ?_; rintro e w7 ⟨rfl, hb7⟩; have HB57 := Lib.hid (HB56.out.trans (hb7.mono HB56.out.size)); clear hb7)
            | (go_at_call 5; refine (alive13_is _).mono ?_; rintro e w9 ⟨rfl, hb9⟩; have HB9 := Lib.hid (HB5.out.trans ((HB57.out.trans (hb9.mono HB57.out.size)).mono HB5.out.size)); clear hb9))
          all_goals
            go_wp2_with fail
            go_ret
            exact ⟨rfl, HB9.out⟩
  · have HB0 := Lib.hid hB0
    have HW0 := Lib.hid hW0
    have hq : 40 < n0 ∨ (n0 ≤ 40 ∧ 100 < n1) ∨ (n0 ≤ 40 ∧ n1 ≤ 100 ∧ 300 < n2) ∨ (n0 ≤ 40 ∧ n1 ≤ 100 ∧ n2 ≤ 300 ∧ b < -1099511627776) ∨ (n0 ≤ 40 ∧ n1 ≤ 100 ∧ n2 ≤ 300 ∧ -1099511627776 ≤ b ∧ 1099511627776 < b) ∨
        (n0 ≤ 40 ∧ n1 ≤ 100 ∧ n2 ≤ 300 ∧ -1099511627776 ≤ b ∧ b ≤ 1099511627776 ∧ l < -1099511627776) ∨ (n0 ≤ 40 ∧ n1 ≤ 100 ∧ n2 ≤ 300 ∧ -1099511627776 ≤ b ∧ b ≤ 1099511627776 ∧ -1099511627776 ≤ l ∧ 1099511627776 < l) := by omega
    clear hA h1 h2 hn0 hn1 hn2 hB0 hbr hbx hW0 hbig
    rcases hq with q1 | ⟨q1, q2⟩ | ⟨q1, q2, q3⟩ | ⟨q1, q2, q3, q4⟩ | ⟨q1, q2, q3, q4, q5⟩ | ⟨q1, q2, q3, q4, q5, q6⟩ | ⟨q1, q2, q3, q4, q5, q6, q7⟩
    all_goals
      go_enter Try.func3, Try.ntmps3
      go_upto_region 1 with fail
      rw [← HW0.out]
      go_wp2_with fail
      refine (alive13_is _).mono ?_; rintro e w' ⟨rfl, hb⟩
      have HB := Lib.hid (HB0.out.trans (hb.mono HB0.out.size))
      clear hb
      go_wp2_with fail
      go_ret
      exact ⟨rfl, HB.out⟩
end Go.Proofs.Ytjffgppdjdmmgaa
