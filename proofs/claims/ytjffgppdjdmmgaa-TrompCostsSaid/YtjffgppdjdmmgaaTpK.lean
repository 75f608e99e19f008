/- TrompCosts: the whole. Own work. -/
import Derived.Test.YtjffgppdjdmmgaaTpM
import Derived.Test.YtjffgppdjdmmgaaTpA2
import Derived.Test.YtjffgppdjdmmgaaTNewR
import Derived.Deep.DeepCutAuto
namespace Go.Proofs.Ytjffgppdjdmmgaa
open Go.ChangeShapes Go.WideShapes Go.ChangeAt Go.RowKit CellM TapeM

theorem own_zero (w : World) (B : Nat) (hB : B ≤ w.heap.size) : OwnI (w.alloc (.cells #[] 3)) B (.slice (some ⟨w.heap.size, 0, none⟩) 0 0) [] := by
  unfold OwnI
  exact World.ownsRow_lit (e := 3) (size := 1) w #[] 0 hB (by decide) (by simp)
set_option maxHeartbeats 16000000 in
set_option maxRecDepth 20000 in
theorem trompCosts_is (w : World) (A0 A1 : Option Addr) (c0 c1 n0 n1 : Nat) (l0 l1 : List Int) (hn0 : l0.length = n0) (hn1 : l1.length = n1) (h0 : RI w A0 c0 l0) (h1 : RI w A1 c1 l1) (b : Bool) :
    Calls Try.prog 4 #[.slice A0 n0 c0, .slice A1 n1 c1, .bool b] w fun e w' => e = .returned (.bool true) ∧ Below w.heap.size w w' := by
  have hm0 : n0 ≤ maxLen := by have := h0.max; omega
  have hm1 : n1 ≤ maxLen := by have := h1.max; omega
  unfold maxLen at hm0 hm1
  by_cases hbig : n0 ≤ 100 ∧ n1 ≤ 100
  · obtain ⟨q0, q1⟩ := hbig
    have HT1 := Lib.hid (tame_is w A0 c0 n0 l0 hn0 (by omega) h0)
    have H1 := Lib.hid h1
    have HN := Lib.hid (And.intro hn0 hn1)
    clear h0 h1 hn0 hn1
    go_enter Try.func4, Try.ntmps4
    go_wp2_with fail
    refine HT1.out.mono ?_
    rintro e w1 ⟨v, rfl, ho1, hb1⟩
    obtain ⟨lo, hlo⟩ : ∃ lo, lo = l0.map (· % (cap 1099511627776 2199023255552 + 1)) := ⟨_, rfl⟩
    rw [← hlo] at ho1
    obtain ⟨A0', c0', hv, hri1⟩ := ho1.reads
    have hlo1 : lo.length = n0 := by rw [hlo, List.length_map]; exact HN.out.1
    rw [hlo1] at hv
    subst hv
    have HT2 := Lib.hid (tame_is w1 A1 c1 n1 l1 HN.out.2 (by omega) (H1.out.below hb1))
    have HR1 := Lib.hid (And.intro hlo1 (And.intro hri1 hb1))
    clear ho1 hb1 hri1 hlo1 HT1 H1 hlo
    go_wp2_with fail
    refine HT2.out.mono ?_
    rintro e w2 ⟨v, rfl, ho2, hb2⟩
    obtain ⟨ans, hans⟩ : ∃ ans, ans = l1.map (· % (cap 1099511627776 2199023255552 + 1)) := ⟨_, rfl⟩
    rw [← hans] at ho2
    obtain ⟨A1', c1', hv, hri2⟩ := ho2.reads
    have hans1 : ans.length = n1 := by rw [hans, List.length_map]; exact HN.out.2
    rw [hans1] at hv
    subst hv
    have HR2 := Lib.hid (And.intro hans1 (And.intro hri2 (And.intro (HR1.out.2.1.below hb2) (HR1.out.2.2.trans (hb2.mono HR1.out.2.2.size)))))
    clear ho2 hb2 hri2 hans1 HT2 hans
    cases b
    case false =>
      go_upto_region 9 with fail
      obtain ⟨W1, hW1⟩ : ∃ W1, W1 = (w2.alloc (.cells #[.int .i64 4, .int .i64 10, .int .i64 0, .int .i64 0, .int .i64 0, .int .i64 0, .int .i64 0] 23)).alloc (.cells #[.int .i64 0] 3) := ⟨_, rfl⟩
      rw [← hW1]
      have hbW : Below w2.heap.size w2 W1 := by rw [hW1]; exact (below_alloc _ _).alloc (by simp) _
      have hbr : BoxAt W1 w2.heap.size #[.int .i64 4, .int .i64 10, .int .i64 0, .int .i64 0, .int .i64 0, .int .i64 0, .int .i64 0] := by rw [hW1]; exact (BoxAt.new w2 _ _).grow (below_alloc _ _)
      have hbv : Has W1 ⟨w2.heap.size + 1, 0, none⟩ (.int .i64 0) := by
        have := has_new (w2.alloc (.cells #[.int .i64 4, .int .i64 10, .int .i64 0, .int .i64 0, .int .i64 0, .int .i64 0, .int .i64 0] 23)) #[.int .i64 0] 3 0 _ rfl
        rw [size_alloc'] at this
        rw [hW1]; exact this
      have HA := Lib.hid (HR2.out.2.1.below hbW)
      have HL := Lib.hid (HR2.out.2.2.1.below hbW)
      have HW1 := Lib.hid (And.intro hbr (And.intro hbv (HR2.out.2.2.2.trans (hbW.mono HR2.out.2.2.2.size))))
      have HLen := Lib.hid (And.intro HR1.out.1 HR2.out.1)
      clear hW1 hbW hbr hbv HR1 HR2
      go_wp2_with (first
        | (at_builtin
           refine app_ints rfl _ _ rfl W1.heap.size _ [] rfl (own_zero _ _ (Nat.le_refl _)) _ _ c1' ans rfl (HA.out.below (below_alloc _ _)) HLen.out.2 (by have := HLen.out.2; simp only [List.length_nil]; omega) (by simp) ?_
           intro v5 w5 hv5 hB5
           have hB5' : Below W1.heap.size W1 w5 := ((Below.refl _ _).alloc (Nat.le_refl _) _).trans hB5
           obtain ⟨A5, h5, e5, hv, hk5, hp5⟩ := RowK.ofOwn hv5
           subst hv
           have hk5 : RowK w5 1 A5 h5 e5 ([] ++ ans).length (valsI ans) := by simpa [valsI] using hk5
           rw [List.nil_append, HLen.out.2] at hk5
           rw [List.nil_append, HLen.out.2]
           have H5 := Lib.hid (And.intro hB5' hp5)
           have HK5 := Lib.hid hk5
           clear hv5 hB5 hB5' hk5 hp5)
        | (at_builtin
           refine app_zeros rfl _ _ rfl HK5.out 8 (by decide) (by omega) rfl _ rfl rfl ?_
           intro v6 w6 hO6
           obtain ⟨A6, h6, c6, hv6, hk6, _⟩ := hO6.ex
           subst hv6
           have hB6 : Below W1.heap.size W1 w6 := H5.out.1.trans (hO6.below W1.heap.size H5.out.2 H5.out.1.size)
           have HF := Lib.hid (And.intro hB6 hk6.ri)
           clear hO6 hk6 hB6))
      have hb6 : Below W1.heap.size W1 w6 := HF.out.1
      have hln := HF.out.2.1
      have HP := Lib.hid (playCostW w2.heap.size (w2.heap.size + 1) 0 HLen.out.1 hln (by omega) (by omega) (by omega) (HL.out.below hb6) HF.out.2.2 (HW1.out.1.grow hb6) (HW1.out.2.1.below hb6 HW1.out.2.1.lt))
      have H6 := Lib.hid (And.intro hb6 (And.intro hln HF.out.2.2))
      clear hb6 hln HF H5 HK5
      refine HP.out.mono ?_
      rintro e w7 ⟨x7, o7, rfl, ⟨B1, B2, B3, m1, m2, m3, d1, d2, d3, g, acc, rfl, ha1, ha2, ha3, ha4, ha5⟩, hB7⟩
      obtain ⟨V, hV⟩ : ∃ V, V = w7.alloc (.cells #[.bool true, .slice B1 m1 d1, .slice B2 m2 d2, .slice B3 m3 d3] 30) := ⟨_, rfl⟩
      have hbV : Below w7.heap.size w7 V := by rw [hV]; exact below_alloc _ _
      have hy : BoxAt V w7.heap.size #[.bool true, .slice B1 m1 d1, .slice B2 m2 d2, .slice B3 m3 d3] := by rw [hV]; exact BoxAt.new _ _ _
      have hb6V : Below w6.heap.size w6 V := hB7.trans (hbV.mono hB7.size)
      have hb1V : Below W1.heap.size W1 V := H6.out.1.trans (hb6V.mono H6.out.1.size)
      have HP2 := Lib.hid (playCostR w2.heap.size HLen.out.1 H6.out.2.1 (by omega) (by omega) (by omega) (HL.out.below hb1V) (H6.out.2.2.below hb6V) (HW1.out.1.grow hb1V))
      have HV := Lib.hid hV
      have HRow1 := Lib.hid (And.intro ha1 (And.intro ha4 (ha5.below hbV)))
      have HBV := Lib.hid (And.intro hb1V hy)
      clear hV hbV hy hb6V hb1V HP ha1 ha4 ha5 H6 hB7 ha2
      go_upto_region 11 with fail
      rw [← HV.out]
      go_wp2_with fail
      refine HP2.out.mono ?_
      rintro e w8 ⟨x8, o8, rfl, ⟨D1, D2, D3, k1, k2, k3, f1, f2, f3, g2, acc2, rfl, hc1, hc2, hc3, hc4, hc5⟩, hB8⟩
      obtain ⟨W3, hW3⟩ : ∃ W3, W3 = w8.alloc (.cells #[.bool true, .slice D1 k1 f1, .slice D2 k2 f2, .slice D3 k3 f3] 30) := ⟨_, rfl⟩
      have hb3 : Below w8.heap.size w8 W3 := by rw [hW3]; exact below_alloc _ _
      have hz : BoxAt W3 w8.heap.size #[.bool true, .slice D1 k1 f1, .slice D2 k2 f2, .slice D3 k3 f3] := by rw [hW3]; exact BoxAt.new _ _ _
      have hbV3 : Below V.heap.size V W3 := hB8.trans (hb3.mono hB8.size)
      have hy := HBV.out.2.grow hbV3
      have y0 := (hy 0 _ rfl).1
      have y1 := (hy 1 _ rfl).1
      have z0 := (hz 0 _ rfl).1
      have z1 := (hz 1 _ rfl).1
      have r1 : ¬ ((3 : Int) < (m1 : Int)) := by omega
      have r2 : ¬ ((7 : Int) < (k1 : Int)) := by omega
      have r3 : ¬ ((k1 : Int) < 1) := by omega
      have HW3 := Lib.hid hW3
      have HR1 := Lib.hid (And.intro HRow1.out.1 (And.intro HRow1.out.2.1 (HRow1.out.2.2.below hbV3)))
      have HR2 := Lib.hid (And.intro hc1 (And.intro hc4 (hc5.below hb3)))
      have HY := Lib.hid (And.intro hy hz)
      have HB3 := Lib.hid (HW1.out.2.2.trans ((HBV.out.1.trans (hbV3.mono HBV.out.1.size)).mono HW1.out.2.2.size))
      clear hW3 hb3 hz hbV3 hy HP2 HV HRow1 HBV hc1 hc4 hc5 hB8 HW1
      go_upto_region 12 with fail
      rw [← HW3.out]
      go_wp2_with fail
      clear y0 y1 z0 z1
      go_loopw [14] (fun i wr => ∃ (j : Nat), j ≤ m1 ∧ i = .int .i64 j ∧ Below W3.heap.size W3 wr) (fun i _ => m1 - (intOf i).toNat)
      case atStart => exact ⟨0, Nat.zero_le _, rfl, Below.refl _ _⟩
      case round =>
        obtain ⟨j, hj, rfl, hbr⟩ := hrel
        have hbx := (HY.out.1).grow hbr
        have y1 := (hbx 1 _ rfl).1
        clear hbx
        by_cases hlt : j < m1
        · have hk : j < acc.length := by rw [HR1.out.1]; exact hlt
          obtain ⟨hA1, z0, z1, z2⟩ := row_ac (HR1.out.2.2.below hbr) HR1.out.1 hk
          have ha := HR1.out.2.1 _ (List.getElem_mem hk)
          obtain ⟨a, haa⟩ : ∃ a, a = acc[j] := ⟨_, rfl⟩
          rw [← haa] at z0 z1 z2 ha
          obtain ⟨ak, ac, av⟩ := a
          simp only at z0 z1 z2
          rw [hA1] at y1
          have hj0 : (0 : Int) ≤ (j : Int) := by omega
          have hj1 : (j : Int) < (m1 : Int) := by omega
          have HBR := Lib.hid hbr
          clear hbr haa hk hA1
          rcases ha with (⟨h1, h2 | h2⟩ | ⟨h1, h2⟩)
          all_goals
            simp only at h1 h2
            subst h1
            subst h2
            go_wp2_with fail
            go_roundw
            case rel => exact ⟨j + 1, by omega, by go_num, HBR.out.alloc HBR.out.size _⟩
            case measure => simp [intOf]; omega
        · obtain rfl : j = m1 := by omega
          have HB1 := Lib.hid hbr
          clear hbr
          go_wp2_with fail
          clear y1
          go_loopw [16] (fun i wr => ∃ (j : Nat), j ≤ k1 ∧ i = .int .i64 j ∧ Below W3.heap.size W3 wr) (fun i _ => k1 - (intOf i).toNat)
          case atStart => exact ⟨0, Nat.zero_le _, rfl, HB1.out⟩
          case round =>
            obtain ⟨j, hj, rfl, hbr⟩ := hrel
            have hbx := (HY.out.2).grow hbr
            have y1 := (hbx 1 _ rfl).1
            clear hbx
            by_cases hlt : j < k1
            · have hk : j < acc2.length := by rw [HR2.out.1]; exact hlt
              obtain ⟨hA1, z0, z1, z2⟩ := row_ac (HR2.out.2.2.below hbr) HR2.out.1 hk
              have ha := HR2.out.2.1 _ (List.getElem_mem hk)
              obtain ⟨a, haa⟩ : ∃ a, a = acc2[j] := ⟨_, rfl⟩
              rw [← haa] at z0 z1 z2 ha
              obtain ⟨ak, ac, av⟩ := a
              simp only at z0 z1 z2
              rw [hA1] at y1
              have hj0 : (0 : Int) ≤ (j : Int) := by omega
              have hj1 : (j : Int) < (k1 : Int) := by omega
              have HBR := Lib.hid hbr
              clear hbr haa hk hA1
              rcases ha with (⟨h1, h2⟩ | ⟨h1, h2 | h2⟩)
              all_goals
                simp only at h1 h2
                subst h1
                subst h2
                go_wp2_with fail
                go_roundw
                case rel => exact ⟨j + 1, by omega, by go_num, HBR.out.alloc HBR.out.size _⟩
                case measure => simp [intOf]; omega
            · obtain rfl : j = k1 := by omega
              have HB2 := Lib.hid (HB3.out.trans (hbr.mono HB3.out.size))
              clear hbr
              go_wp2_with fail
              refine (alive13_is _).mono ?_; rintro e w9 ⟨rfl, hb9⟩
              have HB4 := Lib.hid (HB2.out.trans (hb9.mono HB2.out.size))
              clear hb9
              go_wp2_with fail
              go_ret
              exact ⟨rfl, HB4.out⟩
    case true =>
      go_upto_region 9 with fail
      obtain ⟨W1, hW1⟩ : ∃ W1, W1 = (w2.alloc (.cells #[.int .i64 4, .int .i64 10, .int .i64 0, .int .i64 0, .int .i64 0, .int .i64 0, .int .i64 0] 23)).alloc (.cells #[.int .i64 1] 3) := ⟨_, rfl⟩
      rw [← hW1]
      have hbW : Below w2.heap.size w2 W1 := by rw [hW1]; exact (below_alloc _ _).alloc (by simp) _
      have hbr : BoxAt W1 w2.heap.size #[.int .i64 4, .int .i64 10, .int .i64 0, .int .i64 0, .int .i64 0, .int .i64 0, .int .i64 0] := by rw [hW1]; exact (BoxAt.new w2 _ _).grow (below_alloc _ _)
      have hbv : Has W1 ⟨w2.heap.size + 1, 0, none⟩ (.int .i64 1) := by
        have := has_new (w2.alloc (.cells #[.int .i64 4, .int .i64 10, .int .i64 0, .int .i64 0, .int .i64 0, .int .i64 0, .int .i64 0] 23)) #[.int .i64 1] 3 0 _ rfl
        rw [size_alloc'] at this
        rw [hW1]; exact this
      have HA := Lib.hid (HR2.out.2.1.below hbW)
      have HL := Lib.hid (HR2.out.2.2.1.below hbW)
      have HW1 := Lib.hid (And.intro hbr (And.intro hbv (HR2.out.2.2.2.trans (hbW.mono HR2.out.2.2.2.size))))
      have HLen := Lib.hid (And.intro HR1.out.1 HR2.out.1)
      clear hW1 hbW hbr hbv HR1 HR2
      go_wp2_with (first
        | (at_builtin
           refine app_ints rfl _ _ rfl W1.heap.size _ [] rfl (own_zero _ _ (Nat.le_refl _)) _ _ c1' ans rfl (HA.out.below (below_alloc _ _)) HLen.out.2 (by have := HLen.out.2; simp only [List.length_nil]; omega) (by simp) ?_
           intro v5 w5 hv5 hB5
           have hB5' : Below W1.heap.size W1 w5 := ((Below.refl _ _).alloc (Nat.le_refl _) _).trans hB5
           obtain ⟨A5, h5, e5, hv, hk5, hp5⟩ := RowK.ofOwn hv5
           subst hv
           have hk5 : RowK w5 1 A5 h5 e5 ([] ++ ans).length (valsI ans) := by simpa [valsI] using hk5
           rw [List.nil_append, HLen.out.2] at hk5
           rw [List.nil_append, HLen.out.2]
           have H5 := Lib.hid (And.intro hB5' hp5)
           have HK5 := Lib.hid hk5
           clear hv5 hB5 hB5' hk5 hp5)
        | (at_builtin
           refine app_zeros rfl _ _ rfl HK5.out 8 (by decide) (by omega) rfl _ rfl rfl ?_
           intro v6 w6 hO6
           obtain ⟨A6, h6, c6, hv6, hk6, _⟩ := hO6.ex
           subst hv6
           have hB6 : Below W1.heap.size W1 w6 := H5.out.1.trans (hO6.below W1.heap.size H5.out.2 H5.out.1.size)
           have HF := Lib.hid (And.intro hB6 hk6.ri)
           clear hO6 hk6 hB6))
      have hb6 : Below W1.heap.size W1 w6 := HF.out.1
      have hln := HF.out.2.1
      have HP := Lib.hid (playCostW w2.heap.size (w2.heap.size + 1) 1 HLen.out.1 hln (by omega) (by omega) (by omega) (HL.out.below hb6) HF.out.2.2 (HW1.out.1.grow hb6) (HW1.out.2.1.below hb6 HW1.out.2.1.lt))
      have H6 := Lib.hid (And.intro hb6 (And.intro hln HF.out.2.2))
      clear hb6 hln HF H5 HK5
      refine HP.out.mono ?_
      rintro e w7 ⟨x7, o7, rfl, ⟨B1, B2, B3, m1, m2, m3, d1, d2, d3, g, acc, rfl, ha1, ha2, ha3, ha4, ha5⟩, hB7⟩
      obtain ⟨V, hV⟩ : ∃ V, V = w7.alloc (.cells #[.bool true, .slice B1 m1 d1, .slice B2 m2 d2, .slice B3 m3 d3] 30) := ⟨_, rfl⟩
      have hbV : Below w7.heap.size w7 V := by rw [hV]; exact below_alloc _ _
      have hy : BoxAt V w7.heap.size #[.bool true, .slice B1 m1 d1, .slice B2 m2 d2, .slice B3 m3 d3] := by rw [hV]; exact BoxAt.new _ _ _
      have hb6V : Below w6.heap.size w6 V := hB7.trans (hbV.mono hB7.size)
      have hb1V : Below W1.heap.size W1 V := H6.out.1.trans (hb6V.mono H6.out.1.size)
      have HP2 := Lib.hid (playCostR w2.heap.size HLen.out.1 H6.out.2.1 (by omega) (by omega) (by omega) (HL.out.below hb1V) (H6.out.2.2.below hb6V) (HW1.out.1.grow hb1V))
      have HV := Lib.hid hV
      have HRow1 := Lib.hid (And.intro ha1 (And.intro ha4 (ha5.below hbV)))
      have HBV := Lib.hid (And.intro hb1V hy)
      clear hV hbV hy hb6V hb1V HP ha1 ha4 ha5 H6 hB7 ha2
      go_upto_region 11 with fail
      rw [← HV.out]
      go_wp2_with fail
      refine HP2.out.mono ?_
      rintro e w8 ⟨x8, o8, rfl, ⟨D1, D2, D3, k1, k2, k3, f1, f2, f3, g2, acc2, rfl, hc1, hc2, hc3, hc4, hc5⟩, hB8⟩
      obtain ⟨W3, hW3⟩ : ∃ W3, W3 = w8.alloc (.cells #[.bool true, .slice D1 k1 f1, .slice D2 k2 f2, .slice D3 k3 f3] 30) := ⟨_, rfl⟩
      have hb3 : Below w8.heap.size w8 W3 := by rw [hW3]; exact below_alloc _ _
      have hz : BoxAt W3 w8.heap.size #[.bool true, .slice D1 k1 f1, .slice D2 k2 f2, .slice D3 k3 f3] := by rw [hW3]; exact BoxAt.new _ _ _
      have hbV3 : Below V.heap.size V W3 := hB8.trans (hb3.mono hB8.size)
      have hy := HBV.out.2.grow hbV3
      have y0 := (hy 0 _ rfl).1
      have y1 := (hy 1 _ rfl).1
      have z0 := (hz 0 _ rfl).1
      have z1 := (hz 1 _ rfl).1
      have r1 : ¬ ((3 : Int) < (m1 : Int)) := by omega
      have r2 : ¬ ((7 : Int) < (k1 : Int)) := by omega
      have r3 : ¬ ((k1 : Int) < 1) := by omega
      have HW3 := Lib.hid hW3
      have HR1 := Lib.hid (And.intro HRow1.out.1 (And.intro HRow1.out.2.1 (HRow1.out.2.2.below hbV3)))
      have HR2 := Lib.hid (And.intro hc1 (And.intro hc4 (hc5.below hb3)))
      have HY := Lib.hid (And.intro hy hz)
      have HB3 := Lib.hid (HW1.out.2.2.trans ((HBV.out.1.trans (hbV3.mono HBV.out.1.size)).mono HW1.out.2.2.size))
      clear hW3 hb3 hz hbV3 hy HP2 HV HRow1 HBV hc1 hc4 hc5 hB8 HW1
      go_upto_region 12 with fail
      rw [← HW3.out]
      go_wp2_with fail
      clear y0 y1 z0 z1
      go_loopw [14] (fun i wr => ∃ (j : Nat), j ≤ m1 ∧ i = .int .i64 j ∧ Below W3.heap.size W3 wr) (fun i _ => m1 - (intOf i).toNat)
      case atStart => exact ⟨0, Nat.zero_le _, rfl, Below.refl _ _⟩
      case round =>
        obtain ⟨j, hj, rfl, hbr⟩ := hrel
        have hbx := (HY.out.1).grow hbr
        have y1 := (hbx 1 _ rfl).1
        clear hbx
        by_cases hlt : j < m1
        · have hk : j < acc.length := by rw [HR1.out.1]; exact hlt
          obtain ⟨hA1, z0, z1, z2⟩ := row_ac (HR1.out.2.2.below hbr) HR1.out.1 hk
          have ha := HR1.out.2.1 _ (List.getElem_mem hk)
          obtain ⟨a, haa⟩ : ∃ a, a = acc[j] := ⟨_, rfl⟩
          rw [← haa] at z0 z1 z2 ha
          obtain ⟨ak, ac, av⟩ := a
          simp only at z0 z1 z2
          rw [hA1] at y1
          have hj0 : (0 : Int) ≤ (j : Int) := by omega
          have hj1 : (j : Int) < (m1 : Int) := by omega
          have HBR := Lib.hid hbr
          clear hbr haa hk hA1
          rcases ha with (⟨h1, h2 | h2⟩ | ⟨h1, h2⟩)
          all_goals
            simp only at h1 h2
            subst h1
            subst h2
            go_wp2_with fail
            go_roundw
            case rel => exact ⟨j + 1, by omega, by go_num, HBR.out.alloc HBR.out.size _⟩
            case measure => simp [intOf]; omega
        · obtain rfl : j = m1 := by omega
          have HB1 := Lib.hid hbr
          clear hbr
          go_wp2_with fail
          clear y1
          go_loopw [16] (fun i wr => ∃ (j : Nat), j ≤ k1 ∧ i = .int .i64 j ∧ Below W3.heap.size W3 wr) (fun i _ => k1 - (intOf i).toNat)
          case atStart => exact ⟨0, Nat.zero_le _, rfl, HB1.out⟩
          case round =>
            obtain ⟨j, hj, rfl, hbr⟩ := hrel
            have hbx := (HY.out.2).grow hbr
            have y1 := (hbx 1 _ rfl).1
            clear hbx
            by_cases hlt : j < k1
            · have hk : j < acc2.length := by rw [HR2.out.1]; exact hlt
              obtain ⟨hA1, z0, z1, z2⟩ := row_ac (HR2.out.2.2.below hbr) HR2.out.1 hk
              have ha := HR2.out.2.1 _ (List.getElem_mem hk)
              obtain ⟨a, haa⟩ : ∃ a, a = acc2[j] := ⟨_, rfl⟩
              rw [← haa] at z0 z1 z2 ha
              obtain ⟨ak, ac, av⟩ := a
              simp only at z0 z1 z2
              rw [hA1] at y1
              have hj0 : (0 : Int) ≤ (j : Int) := by omega
              have hj1 : (j : Int) < (k1 : Int) := by omega
              have HBR := Lib.hid hbr
              clear hbr haa hk hA1
              rcases ha with (⟨h1, h2⟩ | ⟨h1, h2 | h2⟩)
              all_goals
                simp only at h1 h2
                subst h1
                subst h2
                go_wp2_with fail
                go_roundw
                case rel => exact ⟨j + 1, by omega, by go_num, HBR.out.alloc HBR.out.size _⟩
                case measure => simp [intOf]; omega
            · obtain rfl : j = k1 := by omega
              have HB2 := Lib.hid (HB3.out.trans (hbr.mono HB3.out.size))
              clear hbr
              go_wp2_with fail
              refine (alive13_is _).mono ?_; rintro e w9 ⟨rfl, hb9⟩
              have HB4 := Lib.hid (HB2.out.trans (hb9.mono HB2.out.size))
              clear hb9
              go_wp2_with fail
              go_ret
              exact ⟨rfl, HB4.out⟩
  · have hq : 100 < n0 ∨ (n0 ≤ 100 ∧ 100 < n1) := by omega
    clear h0 h1 hn0 hn1 hbig
    rcases hq with q1 | ⟨q1, q2⟩
    all_goals
      go_enter Try.func4, Try.ntmps4
      go_wp2_with fail
      refine (alive13_is _).mono ?_; rintro e w' ⟨rfl, hb⟩
      have HB := Lib.hid hb
      clear hb
      go_wp2_with fail
      go_ret
      exact ⟨rfl, HB.out⟩
end Go.Proofs.Ytjffgppdjdmmgaa
