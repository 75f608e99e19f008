/- TapeGrows: the whole. Own work. -/
import Derived.Test.YthpdfmjcchcijaaTGrowP
import Derived.Deep.DeepCutAuto
namespace Go.Proofs.Ythpdfmjcchcijaa
open Go.ChangeShapes Go.WideShapes Go.ChangeAt Go.RowKit CellM TapeM

/-- Two outcomes, the first one's accesses and notes the front of the second one's. -/
structure Pair (W : World) (xa xb : Nat) (A1 A2 B1 B2 : Option Addr) (ga1 ga2 gb1 gb2 : Nat) (da db : Bool) (A3 B3 : Option Addr) (a1 a2 a3 c1 c2 c3 b1 b2 b3 e1 e2 e3 : Nat) (TA TB : TS) : Prop where
  ya : ∀ i x, (#[.bool da, .slice A1 a1 c1, .slice A2 a2 c2, .slice A3 a3 c3] : Array Value)[i]? = some x → Has W ⟨xa, i, none⟩ x
  yb : ∀ i x, (#[.bool db, .slice B1 b1 e1, .slice B2 b2 e2, .slice B3 b3 e3] : Array Value)[i]? = some x → Has W ⟨xb, i, none⟩ x
  na1 : TA.acc.length = a1
  na2 : TA.nts.length = a2
  nb1 : TB.acc.length = b1
  nb2 : TB.nts.length = b2
  ra1 : RowK W 3 A1 ga1 c1 a1 (flatAc TA.acc)
  ra2 : RowK W 2 A2 ga2 c2 a2 (flatNt TA.nts)
  rb1 : RowK W 3 B1 gb1 e1 b1 (flatAc TB.acc)
  rb2 : RowK W 2 B2 gb2 e2 b2 (flatNt TB.nts)
  p1 : TA.acc <+: TB.acc
  p2 : TA.nts <+: TB.nts
theorem Pair.below {W W' : World} {xa xb : Nat} {A1 A2 B1 B2 : Option Addr} {ga1 ga2 gb1 gb2 : Nat} {da db : Bool} {A3 B3 : Option Addr} {a1 a2 a3 c1 c2 c3 b1 b2 b3 e1 e2 e3 : Nat} {TA TB : TS}
    (H : Pair W xa xb A1 A2 B1 B2 ga1 ga2 gb1 gb2 da db A3 B3 a1 a2 a3 c1 c2 c3 b1 b2 b3 e1 e2 e3 TA TB) (hb : Below W.heap.size W W') : Pair W' xa xb A1 A2 B1 B2 ga1 ga2 gb1 gb2 da db A3 B3 a1 a2 a3 c1 c2 c3 b1 b2 b3 e1 e2 e3 TA TB :=
  ⟨fun i x hx => (H.ya i x hx).below hb (H.ya i x hx).lt, fun i x hx => (H.yb i x hx).below hb (H.yb i x hx).lt, H.na1, H.na2, H.nb1, H.nb2, H.ra1.below hb, H.ra2.below hb, H.rb1.below hb, H.rb2.below hb, H.p1, H.p2⟩
theorem row_ac' {w : World} {A : Option Addr} {h c n : Nat} {L M : List TapeM.Ac} (H : RowK w 3 A h c n (flatAc L)) (hn : L.length = n) (hp : M <+: L) {k : Nat} (hk : k < M.length) :
    A = some ⟨h, 0, none⟩ ∧ w.cell? ⟨h, k * 3, none⟩ = some (.int .i64 M[k].k) ∧ w.cell? ⟨h, k * 3 + 1, none⟩ = some (.int .i64 M[k].c) ∧ w.cell? ⟨h, k * 3 + 2, none⟩ = some (.int .i64 M[k].v) := by
  have hl := hp.length_le
  have e : L[k]'(by omega) = M[k] := by
    obtain ⟨t, rfl⟩ := hp
    rw [List.getElem_append_left hk]
  have := row_ac H hn (k := k) (by omega)
  rwa [e] at this
theorem row_nt' {w : World} {A : Option Addr} {h c n : Nat} {L M : List Nt} (H : RowK w 2 A h c n (flatNt L)) (hn : L.length = n) (hp : M <+: L) {k : Nat} (hk : k < M.length) :
    A = some ⟨h, 0, none⟩ ∧ w.cell? ⟨h, k * 2, none⟩ = some (.int .i64 M[k].k) ∧ w.cell? ⟨h, k * 2 + 1, none⟩ = some (.int .i64 M[k].a) := by
  have hl := hp.length_le
  have e : L[k]'(by omega) = M[k] := by
    obtain ⟨t, rfl⟩ := hp
    rw [List.getElem_append_left hk]
  have := row_nt H hn (k := k) (by omega)
  rwa [e] at this
set_option maxHeartbeats 32000000 in
set_option maxRecDepth 20000 in
theorem tapeGrows_is (w : World) (nn8 : Int) (hn8 : 0 ≤ nn8 ∧ nn8 < 256) (A0 A1 A2 : Option Addr) (c0 c1 c2 n0 n1 n2 : Nat) (L : List TapeM.Op) (l1 l2 : List Int) (hn0 : L.length = n0) (hn1 : l1.length = n1) (hn2 : l2.length = n2) (hA : RO w A0 c0 L) (h1 : RI w A1 c1 l1) (h2 : RI w A2 c2 l2) :
    Calls Try.prog 4 #[.slice A0 n0 c0, .slice A1 n1 c1, .slice A2 n2 c2, .int .u8 nn8] w fun e w' => e = .returned (.bool true) ∧ Below w.heap.size w w' := by
  have hm0 : n0 ≤ maxLen := by have := hA.1; have := hA.2.1; omega
  have hm1 : n1 ≤ maxLen := by have := h1.max; omega
  have hm2 : n2 ≤ maxLen := by have := h2.max; omega
  unfold maxLen at hm0 hm1 hm2
  obtain ⟨W0, hW0⟩ : ∃ W0, W0 = (w.alloc (.cells #[.slice A0 n0 c0] 22)).alloc (.cells #[.slice A1 n1 c1] 23) := ⟨_, rfl⟩
  have hB0 : Below w.heap.size w W0 := by rw [hW0]; exact ((Below.refl _ _).alloc (Nat.le_refl _) _).alloc (by simp) _
  have hbx : Has W0 ⟨w.heap.size, 0, none⟩ (.slice A0 n0 c0) := by rw [hW0]; exact (has_new w _ _ 0 _ rfl).alloc _
  have hby : Has W0 ⟨w.heap.size + 1, 0, none⟩ (.slice A1 n1 c1) := by
    rw [hW0]
    have := has_new (w.alloc (.cells #[.slice A0 n0 c0] 22)) #[.slice A1 n1 c1] 23 0 _ rfl
    simpa using this
  have x0 := hbx.1
  have x1 := hby.1
  by_cases hbig : n0 ≤ 100 ∧ n1 ≤ 100 ∧ n2 ≤ 100
  · obtain ⟨b0, b1, b2⟩ := hbig
    obtain ⟨k, hk⟩ : ∃ k : Nat, min nn8 (n2 : Int) = (k : Int) := ⟨(min nn8 (n2 : Int)).toNat, by omega⟩
    have hkn : k ≤ n2 := by omega
    have hri2 := h2.below hB0
    have hcut := (cutToI hri2 hn2 hkn).1
    have hrik := (cutToI hri2 hn2 hkn).2.1
    obtain ⟨Rk, hRk⟩ : ∃ R, runA (l2.take k) L ⟨[], [], short l1⟩ 0 = R := ⟨_, rfl⟩
    obtain ⟨R, hR⟩ : ∃ R, runA l2 L ⟨[], [], short l1⟩ 0 = R := ⟨_, rfl⟩
    have hG := grows l2 (short l1) L k (by omega) Rk R hRk hR
    have HP1 := Lib.hid (playG_is (bx := w.heap.size) (by_ := w.heap.size + 1) hn0 hn1 (cutToI hri2 hn2 hkn).2.2 b0 (by omega) (by omega) (hA.below hB0) (h1.below hB0) hrik hbx hby Rk hRk)
    have HP2 := Lib.hid (fun (wx : World) (hb : Below W0.heap.size W0 wx) => playG_is (bx := w.heap.size) (by_ := w.heap.size + 1) hn0 hn1 hn2 b0 (by omega) (by omega) ((hA.below hB0).below hb) ((h1.below hB0).below hb) (hri2.below hb) (hbx.below hb hbx.lt) (hby.below hb hby.lt) R hR)
    have HG := Lib.hid hG
    have HW0 := Lib.hid hW0
    have HB0 := Lib.hid hB0
    have hmf : ∀ (fn : Fn) (first cap : Array Value) (w : World), (Instr.makeFunc fn first cap).run Try.prog w = .ok (.func fn first cap) w := fun _ _ _ _ => rfl
    have HK := Lib.hid hk
    clear hk hG hri2 hrik hRk hR hB0 hW0 hbx hby hA h1 h2 hn0 hn1 hn2
    go_enter Try.func4, Try.ntmps4
    go_upto_region 1 with fail
    rw [← HW0.out]
    go_upto_region 3 with fail
    go_cut [9] (fun s wx => s = .int .i64 k ∧ Hid (wx = W0))
    case first =>
      by_cases hlt : (n2 : Int) < nn8
      · have e : (n2 : Int) = k := by have := HK.out; omega
        have E := Lib.hid e
        clear e
        go_wp2_with fail
        go_meet
        exact ⟨by rw [← E.out], Lib.hid rfl⟩
      · have e : nn8 = k := by have := HK.out; omega
        have E := Lib.hid e
        clear e
        go_wp2_with fail
        go_meet
        exact ⟨by rw [← E.out], Lib.hid rfl⟩
    case rest =>
      obtain ⟨rfl, hwc⟩ := hcut
      rw [hwc.out]
      clear hwc
      go_wp2_with fail
      refine HP1.out.mono ?_
      rintro e wa ⟨P1, P2, P3, m1, m2, m3, d1, d2, d3, va, da, hva, hda, hq1, hq2, rfl, hOa, hBa⟩
      obtain ⟨Va, hVa⟩ : ∃ Va, Va = wa.alloc (.cells #[.bool da, .slice P1 m1 d1, .slice P2 m2 d2, .slice P3 m3 d3] 29) := ⟨_, rfl⟩
      have hbVa : Below wa.heap.size wa Va := by rw [hVa]; exact below_alloc _ _
      have hya : ∀ i x, (#[.bool da, .slice P1 m1 d1, .slice P2 m2 d2, .slice P3 m3 d3] : Array Value)[i]? = some x → Has Va ⟨wa.heap.size, i, none⟩ x := fun i x hx => by rw [hVa]; exact has_new wa _ _ i x hx
      have hb0a : Below W0.heap.size W0 Va := hBa.trans (hbVa.mono hBa.size)
      have HPb := Lib.hid (HP2.out Va hb0a)
      have HQa := Lib.hid (And.intro hva (And.intro hda (And.intro hq1 hq2)))
      have HVa := Lib.hid (And.intro hb0a (And.intro hya (hOa.below hbVa)))
      have HVae := Lib.hid hVa
      clear hva hda hq1 hq2 hOa hBa hVa hbVa hya hb0a HP1 HP2
      go_upto_region 6 with fail
      rw [← HVae.out]
      go_wp2_with fail
      refine HPb.out.mono ?_
      rintro e wb ⟨Q1, Q2, Q3, j1, j2, j3, f1, f2, f3, vb, db, hvb, hdb, hq1, hq2, rfl, hOb, hBb⟩
      obtain ⟨Vb, hVb⟩ : ∃ Vb, Vb = wb.alloc (.cells #[.bool db, .slice Q1 j1 f1, .slice Q2 j2 f2, .slice Q3 j3 f3] 29) := ⟨_, rfl⟩
      have hbVb : Below wb.heap.size wb Vb := by rw [hVb]; exact below_alloc _ _
      have hyb : ∀ i x, (#[.bool db, .slice Q1 j1 f1, .slice Q2 j2 f2, .slice Q3 j3 f3] : Array Value)[i]? = some x → Has Vb ⟨wb.heap.size, i, none⟩ x := fun i x hx => by rw [hVb]; exact has_new wb _ _ i x hx
      have hbab : Below Va.heap.size Va Vb := hBb.trans (hbVb.mono hBb.size)
      have hb0b : Below w.heap.size w Vb := HB0.out.trans ((HVa.out.1.trans (hbab.mono HVa.out.1.size)).mono HB0.out.size)
      have hOa2 := HVa.out.2.2.below hbab
      have hOb2 := hOb.below hbVb
      have hya2 : ∀ i x, (#[.bool da, .slice P1 m1 d1, .slice P2 m2 d2, .slice P3 m3 d3] : Array Value)[i]? = some x → Has Vb ⟨wa.heap.size, i, none⟩ x := fun i x hx => (HVa.out.2.1 i x hx).below hbab (HVa.out.2.1 i x hx).lt
      obtain ⟨Xa1, Xa2, Xa3, ga1, ga2, ca1, ca2, ca3, ea, hDa⟩ := hOa2
      obtain ⟨Xb1, Xb2, Xb3, gb1, gb2, cb1, cb2, cb3, eb, hDb⟩ := hOb2
      have hOa3 := HVa.out.2.2.below hbab
      have hOb3 := hOb.below hbVb
      have hra1 : RowK Vb 3 P1 ga1 d1 m1 (flatAc Rk.st.acc) ∧ RowK Vb 2 P2 ga2 d2 m2 (flatNt Rk.st.nts) := by
        unfold outV at ea
        simp only [Value.agg.injEq, Array.mk.injEq, List.cons.injEq, Value.slice.injEq, and_true, true_and] at ea
        obtain ⟨⟨e1, e2, e3⟩, ⟨e4, e5, e6⟩, _⟩ := ea
        rw [e1, e2, e3, e4, e5, e6]
        exact ⟨hDa.r1, hDa.r2⟩
      have hrb1 : RowK Vb 3 Q1 gb1 f1 j1 (flatAc R.st.acc) ∧ RowK Vb 2 Q2 gb2 f2 j2 (flatNt R.st.nts) := by
        unfold outV at eb
        simp only [Value.agg.injEq, Array.mk.injEq, List.cons.injEq, Value.slice.injEq, and_true, true_and] at eb
        obtain ⟨⟨e1, e2, e3⟩, ⟨e4, e5, e6⟩, _⟩ := eb
        rw [e1, e2, e3, e4, e5, e6]
        exact ⟨hDb.r1, hDb.r2⟩
      have HPair := Lib.hid (show Pair Vb wa.heap.size wb.heap.size P1 P2 Q1 Q2 ga1 ga2 gb1 gb2 da db P3 Q3 m1 m2 m3 d1 d2 d3 j1 j2 j3 f1 f2 f3 Rk.st R.st from
        ⟨hya2, hyb, HQa.out.2.2.1.symm, HQa.out.2.2.2.symm, hq1.symm, hq2.symm, hra1.1, hra1.2, hrb1.1, hrb1.2, HG.out.1, HG.out.2.1⟩)
      have HQb := Lib.hid (And.intro hvb (And.intro hdb (And.intro hq1 hq2)))
      have HOO := Lib.hid (And.intro hOa3 (And.intro hOb3 hb0b))
      have HVbe := Lib.hid hVb
      have ya0 : Vb.cell? ⟨wa.heap.size, 0, none⟩ = some (.bool da) := (hya2 0 _ rfl).1
      have ya1 : Vb.cell? ⟨wa.heap.size, 1, none⟩ = some (.slice P1 m1 d1) := (hya2 1 _ rfl).1
      have ya2 : Vb.cell? ⟨wa.heap.size, 2, none⟩ = some (.slice P2 m2 d2) := (hya2 2 _ rfl).1
      have ya3 : Vb.cell? ⟨wa.heap.size, 3, none⟩ = some (.slice P3 m3 d3) := (hya2 3 _ rfl).1
      have yb0 : Vb.cell? ⟨wb.heap.size, 0, none⟩ = some (.bool db) := (hyb 0 _ rfl).1
      have yb1 : Vb.cell? ⟨wb.heap.size, 1, none⟩ = some (.slice Q1 j1 f1) := (hyb 1 _ rfl).1
      have yb2 : Vb.cell? ⟨wb.heap.size, 2, none⟩ = some (.slice Q2 j2 f2) := (hyb 2 _ rfl).1
      have yb3 : Vb.cell? ⟨wb.heap.size, 3, none⟩ = some (.slice Q3 j3 f3) := (hyb 3 _ rfl).1
      clear hvb hdb hq1 hq2 hOb hBb hVb hbVb hyb hbab hb0b hya2 ea hDa eb hDb hOa3 hOb3 hra1 hrb1 HPb HVa HVae HB0
      go_upto_region 7 with fail
      rw [← HVbe.out]
      go_cut [94] (fun s wx => s = .bool false ∧ Hid (Below Vb.heap.size Vb wx))
      case first =>
        rcases HG.out.2.2 with ⟨T, x, hk1, hr1, hle⟩ | ⟨T, hk1, hle⟩
        · have hq := HQa.out
          have hq' := HQb.out
          have hO := HOO.out
          rw [hk1] at hq hO
          rw [hr1] at hq' hO
          obtain ⟨v1, w1, e1, e2⟩ := hq
          obtain ⟨v2, w2, e3, e4⟩ := hq'
          have hv : vb = va := v2.trans v1.symm
          have hda : da = true := w1
          have hdb : db = true := w2
          subst hv; subst hda; subst hdb
          clear v1 v2 w1 w2
          have HSm := Lib.hid (same_is hO.1 hO.2.1 rfl rfl (fun _ => rfl))
          have hj1 : j1 = m1 := e3.trans e1.symm
          have hj2 : j2 = m2 := e4.trans e2.symm
          subst hj1; subst hj2
          have hle2 : j1 ≤ k := by rw [e1]; exact hle
          have hle3 : ¬ ((k : Int) + 1 < (j1 : Int)) := by omega
          have ez : (vb != vb) = false := by simp
          clear e1 e2 e3 e4 hO hk1 hr1 hle HPair HQa HQb HOO HG
          go_wp2_with fail
          refine HSm.out.mono ?_
          rintro e w7 ⟨rfl, hb7⟩
          have z1 := (hb7.cell (cell_lt ya1)).trans ya1
          have z2 := (hb7.cell (cell_lt ya2)).trans ya2
          have z3 := (hb7.cell (cell_lt yb1)).trans yb1
          have z4 := (hb7.cell (cell_lt yb2)).trans yb2
          have HB7 := Lib.hid hb7
          clear hb7
          go_wp2_with fail
          go_meet
          exact ⟨rfl, HB7⟩
        · have hq := HQa.out
          rw [hk1] at hq
          obtain ⟨v1, w1, e1, e2⟩ := hq
          have hda : da = false := w1
          subst hda
          have hp1 := HPair.out.p1.length_le
          have hp2 := HPair.out.p2.length_le
          rw [HPair.out.na1, HPair.out.nb1] at hp1
          rw [HPair.out.na2, HPair.out.nb2] at hp2
          have e1' : m1 = k + 1 := e1.trans hle
          have hle3 : ¬ ((k : Int) + 1 < (m1 : Int)) := by omega
          have hle4 : ¬ ((j1 : Int) < (m1 : Int)) := by omega
          have hle5 : ¬ ((j2 : Int) < (m2 : Int)) := by omega
          clear e1 e2 e1' hk1 hle v1 w1 HPair HQa HQb HOO HG
          go_wp2_with fail
          go_meet
          exact ⟨rfl, Lib.hid (Below.refl _ _)⟩
      case rest =>
        obtain ⟨rfl, hbz⟩ := hcut
        have HPz := Lib.hid (HPair.out.below hbz.out)
        have HD : Hid (da = true ∨ (da = false ∧ m1 = k + 1 ∧ va = 0)) := Lib.hid (by
          rcases HG.out.2.2 with ⟨T, x, hk1, hr1, hle⟩ | ⟨T, hk1, hle⟩
          · left
            have := HQa.out.2.1
            rw [hk1] at this; exact this
          · right
            have hq := HQa.out
            rw [hk1] at hq
            exact ⟨hq.2.1, hq.2.2.1.trans hle, hq.1⟩)
        have HBf := Lib.hid (HOO.out.2.2.trans (hbz.out.mono HOO.out.2.2.size))
        have z0 := (HPz.out.ya 0 _ rfl).1
        have z1 := (HPz.out.ya 1 _ rfl).1
        have z2 := (HPz.out.ya 2 _ rfl).1
        have y1 := (HPz.out.yb 1 _ rfl).1
        have y2 := (HPz.out.yb 2 _ rfl).1
        have hmx1 : m1 ≤ maxLen := Nat.le_trans HPz.out.ra1.le HPz.out.ra1.max
        have hmx2 : m2 ≤ maxLen := Nat.le_trans HPz.out.ra2.le HPz.out.ra2.max
        have hmy1 : j1 ≤ maxLen := Nat.le_trans HPz.out.rb1.le HPz.out.rb1.max
        have hmy2 : j2 ≤ maxLen := Nat.le_trans HPz.out.rb2.le HPz.out.rb2.max
        have hp1 := HPz.out.p1.length_le
        have hp2 := HPz.out.p2.length_le
        rw [HPz.out.na1, HPz.out.nb1] at hp1
        rw [HPz.out.na2, HPz.out.nb2] at hp2
        unfold maxLen at hmx1 hmx2 hmy1 hmy2
        clear ya0 ya1 ya2 ya3 yb0 yb1 yb2 yb3 HPair HQa HQb HOO HG hbz HVbe
        go_wp2_with fail
        go_loopw [15] (fun i wr => ∃ j q : Nat, j ≤ m1 ∧ i = .int .i64 j ∧ wr = wc.drewN q) (fun i _ => m1 - (intOf i).toNat)
        case atStart => exact ⟨0, 0, by omega, rfl, rfl⟩
        case round =>
          obtain ⟨j, q, hj, rfl, rfl⟩ := hrel
          by_cases hlt : j < m1
          · have hka : j < Rk.st.acc.length := by rw [HPz.out.na1]; exact hlt
            have hlt2 : j < j1 := by omega
            obtain ⟨hA, x0, x1, x2⟩ := row_ac HPz.out.ra1 HPz.out.na1 hka
            obtain ⟨hB', u0, u1, u2⟩ := row_ac' HPz.out.rb1 HPz.out.nb1 HPz.out.p1 hka
            rw [hA] at z1
            rw [hB'] at y1
            obtain ⟨u, hu⟩ : ∃ u, u = Rk.st.acc[j] := ⟨_, rfl⟩
            rw [← hu] at x0 x1 x2 u0 u1 u2
            obtain ⟨t1, t2, t3⟩ := u
            simp only at x0 x1 x2 u0 u1 u2
            have r1 : (t1 == t1) = true := by simp
            have r2 : (t2 == t2) = true := by simp
            have r3 : (t3 == t3) = true := by simp
            clear hu hA hB' hka
            go_wp2_with fail
            go_quiet (fail)
            go_wp2_with fail
            go_roundw
            case rel => exact ⟨j + 1, _, by omega, by go_num, rfl⟩
            case measure => simp [intOf]; omega
          · obtain rfl : j = m1 := by omega
            clear hlt
            go_wp2_with fail
            go_loopw [16] (fun i wr => ∃ j q : Nat, j ≤ m2 ∧ i = .int .i64 j ∧ wr = wc.drewN q) (fun i _ => m2 - (intOf i).toNat)
            case atStart => exact ⟨0, q, by omega, rfl, rfl⟩
            case round =>
              obtain ⟨i, q', hi, rfl, rfl⟩ := hrel
              by_cases hlt : i < m2
              · have hka : i < Rk.st.nts.length := by rw [HPz.out.na2]; exact hlt
                have hlt2 : i < j2 := by omega
                obtain ⟨hA, x0, x1⟩ := row_nt HPz.out.ra2 HPz.out.na2 hka
                obtain ⟨hB', u0, u1⟩ := row_nt' HPz.out.rb2 HPz.out.nb2 HPz.out.p2 hka
                rw [hA] at z2
                rw [hB'] at y2
                obtain ⟨u, hu⟩ : ∃ u, u = Rk.st.nts[i] := ⟨_, rfl⟩
                rw [← hu] at x0 x1 u0 u1
                obtain ⟨t1, t2⟩ := u
                simp only at x0 x1 u0 u1
                have r1 : (t1 == t1) = true := by simp
                have r2 : (t2 == t2) = true := by simp
                clear hu hA hB' hka
                go_wp2_with fail
                go_quiet (fail)
                go_wp2_with fail
                go_roundw
                case rel => exact ⟨i + 1, _, by omega, by go_num, rfl⟩
                case measure => simp [intOf]; omega
              · rcases HD.out with hd | ⟨hd, hd1, hd2⟩
                · subst hd
                  go_wp2_with fail
                  refine (alive10_is _).mono ?_; rintro e w9 ⟨rfl, hb9⟩
                  have HB9 := Lib.hid (HBf.out.trans (((bl_drewN _ _).trans hb9).mono HBf.out.size))
                  clear hb9
                  go_wp2_with fail
                  go_ret
                  exact ⟨rfl, HB9.out⟩
                · subst hd; subst hd1; subst hd2
                  go_wp2_with fail
                  refine (alive10_is _).mono ?_; rintro e w9 ⟨rfl, hb9⟩
                  have HB9 := Lib.hid (HBf.out.trans (((bl_drewN _ _).trans hb9).mono HBf.out.size))
                  clear hb9
                  go_wp2_with fail
                  go_ret
                  exact ⟨rfl, HB9.out⟩
  · have hal := Lib.hid (fun wx => alive10_is wx)
    clear hA h1 h2 hn0 hn1 hn2 hbx hby
    have HB0 := Lib.hid hB0
    have HW0 := Lib.hid hW0
    clear hB0 hW0
    by_cases c1 : n0 ≤ 100
    · by_cases c2 : n1 ≤ 100
      · have c3 : ¬ n2 ≤ 100 := fun h => hbig ⟨c1, c2, h⟩
        clear hbig
        go_enter Try.func4, Try.ntmps4
        go_upto_region 1 with fail
        rw [← HW0.out]
        go_wp2_with fail
        refine (hal.out _).mono ?_; rintro e w' ⟨rfl, hb⟩
        have HB := Lib.hid (HB0.out.trans (hb.mono HB0.out.size))
        clear hb
        go_wp2_with fail
        go_ret
        exact ⟨rfl, HB.out⟩
      · clear hbig
        go_enter Try.func4, Try.ntmps4
        go_upto_region 1 with fail
        rw [← HW0.out]
        go_wp2_with fail
        refine (hal.out _).mono ?_; rintro e w' ⟨rfl, hb⟩
        have HB := Lib.hid (HB0.out.trans (hb.mono HB0.out.size))
        clear hb
        go_wp2_with fail
        go_ret
        exact ⟨rfl, HB.out⟩
    · clear hbig
      go_enter Try.func4, Try.ntmps4
      go_upto_region 1 with fail
      rw [← HW0.out]
      go_wp2_with fail
      refine (hal.out _).mono ?_; rintro e w' ⟨rfl, hb⟩
      have HB := Lib.hid (HB0.out.trans (hb.mono HB0.out.size))
      clear hb
      go_wp2_with fail
      go_ret
      exact ⟨rfl, HB.out⟩
end Go.Proofs.Ythpdfmjcchcijaa
