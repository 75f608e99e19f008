/- The law StampsTells, walked. Own work. -/
import Derived.Test.YtdkliknnnolngaaDoorLaw07
import Derived.Deep.DeepCutAuto
namespace Go.Proofs.YtdkliknnnolngaaDoor
open Go.ChangeShapes Go.WideShapes Go.ChangeAt Go.RowKit Cyc

theorem quiet_from {P : Program} {f : FuncId} {args : Array Value} {w : World} {n : Nat} {v : Value}
    (h : ∀ q, Calls P f args (w.drewN q) fun e w' => e = .returned v ∧ ∃ m, w' = (w.drewN q).drewN m) :
    Calls P f args (w.drewN n) fun e w'' => e = .returned v ∧ ∃ m, w'' = w.drewN m :=
  (h n).mono fun _ _ ⟨he, m, hm⟩ => ⟨he, n + m, by rw [hm, World.drewN_drewN]⟩
set_option maxRecDepth 20000 in
set_option maxHeartbeats 8000000 in
theorem tells_near (A : Option Addr) (c k : Nat) (L : List (List Int)) (hn : L.length = k) (n me cc : Int) (hfar : farL L = false) (w : World) (ht : Ring w) (hr : RR w A c L) :
    Calls Tryd.prog 3 #[.slice A k c, .int .i64 n, .int .i64 me, .int .i64 cc] w fun e w' => e = .returned (.bool true) ∧ Below w.heap.size w w' := by
  have h40 : L.length ≤ 40 := farL_len hfar
  have FAR := Lib.hid (far_is A c k L hn w hr false hfar)
  have R := Lib.hid hr; have T := Lib.hid ht
  have HN := Lib.hid hn
  have hk40 : k ≤ 40 := by omega
  clear hr ht hn hfar h40
  go_enter Tryd.func3, Tryd.ntmps3
  go_wp2_with fail
  refine FAR.out.mono ?_; rintro e w1 ⟨rfl, rfl⟩
  go_wp2_with fail
  refine (new_gen n _).mono ?_; rintro e w1 ⟨A1, c1, m1, q1, N1, rfl, hF, hl1, hR1, hB1⟩
  have B1 := Lib.hid hB1; have HL1 := Lib.hid hl1
  clear hB1 hl1
  go_upto_region 4 with fail
  go_cut [49] (fun s wx => s = .bool false ∧ Hid (Below w.heap.size w wx))
  case first =>
    rcases hF.out with ⟨h1, h8, hm, hq, hN⟩ | ⟨hno, hm, hq, hN⟩
    · subst hq
      obtain ⟨m, rfl⟩ : ∃ m : Nat, n = (m : Int) := ⟨n.toNat, by omega⟩
      have hmm : m1 = m := by omega
      subst hmm; subst hN
      have d1 : (0 : Int) < m1 := by omega
      have d2 : (m1 : Int) < 9 := by omega
      have CL := Lib.hid (clampR_is m1 m1 (by omega) w1)
      have OK := Lib.hid (ok_is 0 1 (by decide) w1)
      have FB := Lib.hid (fineB_is A1 c1 m1 _ HL1.out w1 hR1.out true (newL_fine (by omega) (by omega)))
      clear hF h1 h8 hm
      go_wp2_with fail
      refine CL.out.mono ?_; rintro e w2 ⟨rfl, rfl⟩
      go_wp2_with fail
      refine OK.out.mono ?_; rintro e w2 ⟨rfl, rfl⟩
      go_wp2_with fail
      refine FB.out.mono ?_; rintro e w2 ⟨rfl, rfl⟩
      go_wp2_with fail
      go_meet
      exact ⟨rfl, B1⟩
    · subst hq; subst hN; subst hm
      have OK := Lib.hid (ok_is 6 0 (by decide) w1)
      have FB := Lib.hid (fineB_is A1 c1 0 _ HL1.out w1 hR1.out false (by decide))
      by_cases h0 : 0 < n
      · have d2 : ¬ n < 9 := by omega
        have CL := Lib.hid (clampR_is n 8 (by omega) w1)
        clear hF hno
        go_wp2_with fail
        refine CL.out.mono ?_; rintro e w2 ⟨rfl, rfl⟩
        go_wp2_with fail
        refine OK.out.mono ?_; rintro e w2 ⟨rfl, rfl⟩
        go_wp2_with fail
        refine FB.out.mono ?_; rintro e w2 ⟨rfl, rfl⟩
        go_wp2_with fail
        go_meet
        exact ⟨rfl, B1⟩
      · have CL := Lib.hid (clampR_is n 0 (by omega) w1)
        clear hF hno
        go_wp2_with fail
        refine CL.out.mono ?_; rintro e w2 ⟨rfl, rfl⟩
        go_wp2_with fail
        refine OK.out.mono ?_; rintro e w2 ⟨rfl, rfl⟩
        go_wp2_with fail
        refine FB.out.mono ?_; rintro e w2 ⟨rfl, rfl⟩
        go_wp2_with fail
        go_meet
        exact ⟨rfl, B1⟩
  case rest =>
    obtain ⟨rfl, B2⟩ := hcut
    have R2 := Lib.hid (R.out.below B2.out); have T2 := Lib.hid (T.out.below B2.out)
    clear B1 hR1 hF HL1
    obtain ⟨z, hz⟩ : ∃ z, fineB L = z := ⟨_, rfl⟩
    have HZ := Lib.hid hz; clear hz
    go_wp2_with fail
    refine (fineB_is A c k L HN.out _ R2.out z HZ.out).mono ?_; rintro e w2 ⟨rfl, rfl⟩
    go_wp2_with fail
    refine (fineBR_is A c k L HN.out _ R2.out z HZ.out).mono ?_; rintro e w2 ⟨rfl, rfl⟩
    go_wp2_with fail
    refine (take_gen A c k me L HN.out _ T2.out R2.out).mono ?_; rintro e w3 ⟨A3, c3, m3, q3, N3, rfl, hF3, hl3, hR3, hB3⟩
    have HL3 := Lib.hid hl3
    have B3 := Lib.hid (B2.out.trans (hB3.mono B2.out.size))
    have R3 := Lib.hid (R2.out.below hB3); have T3 := Lib.hid (T2.out.below hB3)
    clear hl3 hB3
    go_wp2_with fail
    refine (over_is A c k n L HN.out (by omega) _ T3.out R3.out _ rfl).mono ?_; rintro e w4 ⟨v4, rfl, ho4, hB4⟩
    obtain ⟨A4, c4, rfl, hri4⟩ := ho4.reads
    have HI4 := Lib.hid hri4
    have B4 := Lib.hid (B3.out.trans (hB4.mono B3.out.size))
    have R4 := Lib.hid (R3.out.below hB4); have T4 := Lib.hid (T3.out.below hB4)
    have X4 := Lib.hid (hR3.out.below hB4)
    clear ho4 hri4 hB4 hR3
    obtain ⟨tl, htl⟩ : ∃ tl, (overA n L).length = tl := ⟨_, rfl⟩
    rw [htl]
    have HT := Lib.hid htl
    clear htl
    obtain ⟨i, hi⟩ : ∃ i, inR n L = i := ⟨_, rfl⟩
    have HI := Lib.hid hi
    clear hi
    go_upto_region 10 with fail
    go_cut [75] (fun s wx => s = .bool (!i) ∧ w4 = wx)
    case first =>
      by_cases h0 : 0 ≤ n
      · by_cases h8 : n ≤ 8
        · have d1 : ¬ n < 0 := by omega
          have d2 : ¬ 8 < n := by omega
          have hrw : rowsL n L = i := by have := HI.out; unfold inR at this; rw [decide_eq_true h0, decide_eq_true h8] at this; exact this
          have RW := Lib.hid (rowsR_is A c k L HN.out n w4 R4.out i hrw)
          clear hrw
          go_wp2_with fail
          refine RW.out.mono ?_; rintro e w5 ⟨rfl, rfl⟩
          go_wp2_with fail
          go_meet
          exact ⟨rfl, rfl⟩
        · have d1 : ¬ n < 0 := by omega
          have d2 : 8 < n := by omega
          have hii : i = false := by rw [← HI.out]; unfold inR; rw [decide_eq_false h8]; simp
          subst hii
          go_wp2_with fail
          go_meet
          exact ⟨rfl, rfl⟩
      · have d1 : n < 0 := by omega
        have hii : i = false := by rw [← HI.out]; unfold inR; rw [decide_eq_false h0]; rfl
        subst hii
        go_wp2_with fail
        go_meet
        exact ⟨rfl, rfl⟩
    case rest =>
      obtain ⟨rfl, rfl⟩ := hcut
      go_upto_if 75 with fail
      go_cut [] (fun wx => Hid (Below w4.heap.size w4 wx))
      case first =>
        cases i
        · have h0 : tl = 0 := by rw [← HT.out, overA_no HI.out]; rfl
          subst h0
          go_wp2_with fail
          go_meet
          exact Lib.hid (Below.refl _ _)
        · have h3 := inR_iff.1 HI.out
          have hov := overA_yes HI.out
          obtain ⟨m, rfl⟩ : ∃ m : Nat, n = (m : Int) := ⟨n.toNat, by omega⟩
          have OR := Lib.hid (overR_is m A c k L HN.out (by omega) (fun r hr => by have := rowsL_iff.1 h3.2.2 r hr; exact ⟨by omega, this.2⟩) (by omega) w4 R4.out _ rfl)
          have EQ := Lib.hid hov
          clear h3 hov
          go_wp2_with fail
          refine OR.out.mono ?_; rintro e w5 ⟨v5, rfl, ho5, hB5⟩
          obtain ⟨A5, c5, rfl, hri5⟩ := ho5.reads
          have I5 := Lib.hid (ints_is A4 A5 c4 c5 tl _ (overA m L) (overL m L) HT.out rfl w5 (HI4.out.below hB5) hri5 true (by rw [EQ.out]; simp))
          have B5 := Lib.hid hB5
          clear ho5 hri5 hB5
          go_wp2_with fail
          refine I5.out.mono ?_; rintro e w6 ⟨rfl, q6, rfl⟩
          go_wp2_with fail
          go_meet
          exact Lib.hid (below_drewN B5.out q6)
      case rest =>
        have R5 := Lib.hid (R4.out.below hcut.out); have T5 := Lib.hid (T4.out.below hcut.out)
        have X5 := Lib.hid (X4.out.below hcut.out)
        have B5 := Lib.hid (B4.out.trans (hcut.out.mono B4.out.size))
        clear hcut HT HI HI4
        rcases hF3.out with ⟨hf, hrange, hm, hq, hN⟩ | ⟨hf, hrange, hm, hq, hN⟩ | ⟨hf, hm, hq, hN⟩
        · subst hq; subst hN
          rw [HN.out] at hm hrange; subst hm
          obtain ⟨t, rfl⟩ : ∃ t : Nat, me = (t : Int) := ⟨me.toNat, by omega⟩
          have htk : t < m3 := by omega
          have htk' : (t : Int) < m3 := by omega
          have htk2 : ¬ (m3 : Int) ≤ t := by omega
          have FR := Lib.hid (fineBR_is A c m3 L HN.out wc R5.out true hf)
          have TR := Lib.hid (fun w' (h : RR w' A c L) => takeR_is A c m3 t L HN.out hf htk w' h _ rfl)
          have LA : Hid (lastA L = lastL L) := Lib.hid (by unfold lastA; rw [hf]; rfl)
          obtain ⟨zb, hzb⟩ : ∃ zb, behindL L t cc = zb := ⟨_, rfl⟩
          have ZB := Lib.hid hzb
          have HF := Lib.hid hf
          clear hF3 hrange hf hzb
          go_wp2_with fail
          refine FR.out.mono ?_; rintro e w6 ⟨rfl, rfl⟩
          go_upto_region 19 with fail
          go_cut [14] (fun s wx => s = .bool zb ∧ Hid (∃ q, wx = wc.drewN q))
          case first =>
            by_cases h0 : 0 ≤ cc
            · by_cases h1 : cc < m3
              · obtain ⟨u, rfl⟩ : ∃ u : Nat, cc = (u : Int) := ⟨cc.toNat, by omega⟩
                have htL : t < L.length := by rw [HN.out]; exact htk
                have huL : u < L.length := by rw [HN.out]; omega
                have hd : domL L[t] L[u] = zb := by
                  rw [← ZB.out]; unfold behindL hasL
                  rw [HF.out, decide_eq_true (show (0 : Int) ≤ (t : Int) by omega), decide_eq_true (show (t : Int) < L.length by omega), decide_eq_true (show (0 : Int) ≤ (u : Int) by omega), decide_eq_true (show (u : Int) < L.length by omega)]
                  simp [List.getD_eq_getElem?_getD, htL, huL]
                obtain ⟨ad, A1', c1', hA, hc1, hr1⟩ := R5.out.at_ htL
                obtain ⟨ad', A2', c2', hA', hc2, hr2⟩ := R5.out.at_ huL
                subst hA; cases hA'
                have D := Lib.hid (fun q => domR_is L[t] A1' A2' c1' c2' _ _ L[u] rfl rfl (wc.drewN q) hr1 hr2 zb hd)
                clear hd hr1 hr2
                go_quiet ((go_at_call 19; exact quiet_from D.out))
                go_wp2_with fail
                go_meet
                exact ⟨rfl, Lib.hid ⟨_, rfl⟩⟩
              · have hzf : zb = false := by rw [← ZB.out]; unfold behindL hasL; rw [decide_eq_false (show ¬ cc < (L.length : Int) by rw [HN.out]; exact h1)]; simp
                subst hzf
                go_quiet (fail)
                go_wp2_with fail
                go_meet
                exact ⟨rfl, Lib.hid ⟨_, rfl⟩⟩
            · have hzf : zb = false := by rw [← ZB.out]; unfold behindL hasL; rw [decide_eq_false h0]; simp
              subst hzf
              go_quiet (fail)
              go_wp2_with fail
              go_meet
              exact ⟨rfl, Lib.hid ⟨_, rfl⟩⟩
          case rest =>
            obtain ⟨rfl, HQ⟩ := hcut
            obtain ⟨q, hq⟩ := HQ.out
            subst hq
            have TR2 := Lib.hid (TR.out (wc.drewN q) R5.out)
            have B6 := Lib.hid (below_drewN B5.out q)
            have T6 : Hid (Ring (wc.drewN q)) := Lib.hid T5.out
            clear HQ TR
            go_wp2_with fail
            refine TR2.out.mono ?_; rintro e w7 ⟨A7, c7, rfl, hr7, hb7⟩
            have SM := Lib.hid (sameR_is A3 A7 c3 c7 m3 m3 _ _ HL3.out (by rw [takeL_len, HN.out]) w7 ((show RR (wc.drewN q) _ _ _ from X5.out).below hb7) hr7 true (by simp))
            have B7 := Lib.hid (B6.out.trans (hb7.mono B6.out.size))
            have R7 := Lib.hid ((show RR (wc.drewN q) _ _ _ from R5.out).below hb7); have T7 := Lib.hid (T6.out.below hb7)
            clear hr7 hb7
            go_wp2_with fail
            refine SM.out.mono ?_; rintro e w8 ⟨rfl, q8, hq8⟩
            have E8 := Lib.hid (below_of_drew hq8)
            have B8 := Lib.hid (B7.out.trans (E8.out.mono B7.out.size))
            have R8 := Lib.hid (R7.out.below E8.out); have T8 := Lib.hid (T7.out.below E8.out)
            clear hq8
            go_wp2_with fail
            refine (last_is A c m3 L HN.out _ T8.out R8.out (lastL L) LA.out).mono ?_; rintro e w9 ⟨rfl, hb9⟩
            have B9 := Lib.hid (B8.out.trans (hb9.mono B8.out.size))
            have R9 := Lib.hid (R8.out.below hb9); have T9 := Lib.hid (T8.out.below hb9)
            clear hb9
            go_wp2_with fail
            refine (lastR_is A c m3 L HN.out _ R9.out (lastL L) rfl).mono ?_; rintro e w10 ⟨rfl, q10, hq10⟩
            have E10 := Lib.hid (below_of_drew hq10)
            have B10 := Lib.hid (B9.out.trans (E10.out.mono B9.out.size))
            have R10 := Lib.hid (R9.out.below E10.out); have T10 := Lib.hid (T9.out.below E10.out)
            clear hq10
            go_wp2_with fail
            refine (behind_is A c m3 t cc L HN.out _ T10.out R10.out zb ZB.out).mono ?_; rintro e w11 ⟨rfl, q11, hq11⟩
            have E11 := Lib.hid (below_of_drew hq11)
            have B11 := Lib.hid (B10.out.trans (E11.out.mono B10.out.size))
            have T11 := Lib.hid (T10.out.below E11.out)
            clear hq11
            go_wp2_with fail
            refine (alive_is _ T11.out).mono ?_; rintro e w12 ⟨rfl, hb12⟩
            have B12 := Lib.hid (B11.out.trans (hb12.mono B11.out.size))
            clear hb12
            go_wp2_with fail
            go_ret
            exact ⟨rfl, B12.out⟩
        · subst hq; subst hN; subst hm
          have FR := Lib.hid (fineBR_is A c k L HN.out wc R5.out true hf)
          have BH := Lib.hid (behind_is A c k me cc L HN.out wc T5.out R5.out false (by
            unfold behindL hasL
            cases h1 : (decide (0 ≤ me) && decide (me < (L.length : Int)))
            · rw [hf]; rfl
            · rw [Bool.and_eq_true, decide_eq_true_iff, decide_eq_true_iff] at h1; exact absurd h1 hrange))
          rw [HN.out] at hrange
          have AL := Lib.hid (fun q => alive_is (wc.drewN q) T5.out)
          clear hF3 hf
          by_cases h0 : me < 0
          · clear hrange
            go_wp2_with fail
            refine FR.out.mono ?_; rintro e w6 ⟨rfl, rfl⟩
            go_wp2_with fail
            refine BH.out.mono ?_; rintro e w6 ⟨rfl, q6, rfl⟩
            go_wp2_with fail
            refine (AL.out q6).mono ?_; rintro e w7 ⟨rfl, hb7⟩
            have B7 := Lib.hid ((below_drewN B5.out q6).trans (hb7.mono B5.out.size))
            clear hb7
            go_wp2_with fail
            go_ret
            exact ⟨rfl, B7.out⟩
          · have d1 : (k : Int) ≤ me := by omega
            clear hrange
            go_wp2_with fail
            refine FR.out.mono ?_; rintro e w6 ⟨rfl, rfl⟩
            go_wp2_with fail
            refine BH.out.mono ?_; rintro e w6 ⟨rfl, q6, rfl⟩
            go_wp2_with fail
            refine (AL.out q6).mono ?_; rintro e w7 ⟨rfl, hb7⟩
            have B7 := Lib.hid ((below_drewN B5.out q6).trans (hb7.mono B5.out.size))
            clear hb7
            go_wp2_with fail
            go_ret
            exact ⟨rfl, B7.out⟩
        · subst hq; subst hN; subst hm
          have FR := Lib.hid (fineBR_is A c k L HN.out wc R5.out false hf)
          have LS := Lib.hid (last_is A c k L HN.out wc T5.out R5.out (-1) (by unfold lastA; rw [hf]; rfl))
          have BH := Lib.hid (fun w' (t : Ring w') (h : RR w' A c L) => behind_is A c k me cc L HN.out w' t h false (by unfold behindL; rw [hf]; rfl))
          clear hF3 hf
          go_wp2_with fail
          refine FR.out.mono ?_; rintro e w6 ⟨rfl, rfl⟩
          go_wp2_with fail
          refine LS.out.mono ?_; rintro e w6 ⟨rfl, hb6⟩
          have R6 := Lib.hid (R5.out.below hb6); have T6 := Lib.hid (T5.out.below hb6)
          have B6 := Lib.hid (B5.out.trans (hb6.mono B5.out.size))
          clear hb6
          go_wp2_with fail
          refine (BH.out _ T6.out R6.out).mono ?_; rintro e w7 ⟨rfl, q6, rfl⟩
          go_wp2_with fail
          refine (alive_is _ (show Ring (w6.drewN q6) from T6.out)).mono ?_; rintro e w7 ⟨rfl, hb7⟩
          have B7 := Lib.hid ((below_drewN B6.out q6).trans (hb7.mono B6.out.size))
          clear hb7
          go_wp2_with fail
          go_ret
          exact ⟨rfl, B7.out⟩
set_option maxRecDepth 20000 in
theorem tells_far (A : Option Addr) (c k : Nat) (L : List (List Int)) (hn : L.length = k) (n me cc : Int) (hfar : farL L = true) (w : World) (ht : Ring w) (hr : RR w A c L) :
    Calls Tryd.prog 3 #[.slice A k c, .int .i64 n, .int .i64 me, .int .i64 cc] w fun e w' => e = .returned (.bool true) ∧ Below w.heap.size w w' := by
  have FAR := Lib.hid (far_is A c k L hn w hr true hfar)
  have AL := Lib.hid (alive_is w ht)
  clear hr ht hn hfar
  go_enter Tryd.func3, Tryd.ntmps3
  go_wp2_with fail
  refine FAR.out.mono ?_; rintro e w1 ⟨rfl, rfl⟩
  go_wp2_with fail
  refine AL.out.mono ?_; rintro e w1 ⟨rfl, hb⟩
  go_wp2_with fail
  go_ret
  exact ⟨rfl, hb⟩
theorem tells_is (A : Option Addr) (c k : Nat) (L : List (List Int)) (hn : L.length = k) (n me cc : Int) (w : World) (ht : Ring w) (hr : RR w A c L) :
    Calls Tryd.prog 3 #[.slice A k c, .int .i64 n, .int .i64 me, .int .i64 cc] w fun e w' => e = .returned (.bool true) ∧ Below w.heap.size w w' := by
  cases hf : farL L
  · exact tells_near A c k L hn n me cc hf w ht hr
  · exact tells_far A c k L hn n me cc hf w ht hr
end Go.Proofs.YtdkliknnnolngaaDoor
