/- The law StampsLast, walked. Own work. -/
import Derived.Test.YtdkliknnnolngaaDoorLaw07
import Derived.Test.YtdkliknnnolngaaDoorBoard
namespace Go.Proofs.YtdkliknnnolngaaDoor
open Go.ChangeShapes Go.WideShapes Go.ChangeAt Go.RowKit Cyc

def byteOf (c : UInt8) : Value := .int .u8 (c.toNat : Int)
theorem last_far (A : Option Addr) (c k : Nat) (a : Int) (_ : 0 ≤ a) (_ : a < 256) (hfar : 200 < k) (w : World) (ht : Ring w) :
    Calls Tryd.prog 4 #[.int .u8 a, .slice A k c] w fun e w' => e = .returned (.bool true) ∧ Below w.heap.size w w' := by
  have AL := Lib.hid (alive_is w ht)
  have hf : (200 : Int) < k := by omega
  clear ht hfar
  go_enter Tryd.func4, Tryd.ntmps4
  go_wp2_with fail
  refine AL.out.mono ?_; rintro e w1 ⟨rfl, hb⟩
  go_wp2_with fail
  go_ret
  exact ⟨rfl, hb⟩
set_option maxRecDepth 20000 in
set_option maxHeartbeats 8000000 in
theorem last_near (A : Option Addr) (c k : Nat) (s : List UInt8) (hn : s.length = k) (a : Int) (h0 : 0 ≤ a) (h1 : a < 256) (hfar : k ≤ 200) (w : World) (ht : Ring w) (hr : RV w A c (s.map byteOf)) :
    Calls Tryd.prog 4 #[.int .u8 a, .slice A k c] w fun e w' => e = .returned (.bool true) ∧ Below w.heap.size w w' := by
  obtain ⟨m, hm⟩ : ∃ m : Nat, (m : Int) = 1 + a % 8 := ⟨(1 + a % 8).toNat, by omega⟩
  have hm1 : 1 ≤ m := by omega
  have hm8 : m ≤ 8 := by omega
  have R := Lib.hid hr; have T := Lib.hid ht; have HN := Lib.hid hn
  have HM := Lib.hid hm
  clear hm
  have hf : ¬ (200 : Int) < k := by omega
  clear hr ht hn
  go_enter Tryd.func4, Tryd.ntmps4
  go_wp2_with fail
  rw [← HM.out]
  refine (new_good m hm1 hm8 w).mono ?_; rintro e w1 ⟨A0, c0, rfl, hr1, hb1⟩
  have B1 := Lib.hid hb1; have R1 := Lib.hid hr1
  clear hr1 hb1
  go_wp2_with fail
  have hm0 : (0 : Int) < m := by omega
  have hB0 := below_alloc w1 (.cells ((List.replicate 8 0).map (Value.int .i64)).toArray 41)
  have hK0 := Blk.new w1 41 ((List.replicate 8 0).map (Value.int .i64)).toArray
  go_loopw [6, 9] (fun v i wr => ∃ (j : Nat) (L : List (List Int)) (wh : List Int) (A' : Option Addr) (c' : Nat), j ≤ k ∧ v = .slice A' m c' ∧ i = .int .i64 j ∧ Hid (InvB m j L wh) ∧ Hid (ROff (· ≠ w1.heap.size) wr A' c' L) ∧ Hid (Blk wr w1.heap.size 41 (wh.map (Value.int .i64)).toArray) ∧ Hid (Below w.heap.size w wr)) (fun _ i _ => k - (intOf i).toNat)
  case atStart => exact ⟨0, newL m, List.replicate 8 0, A0, c0, by omega, rfl, rfl, Lib.hid (inv_start (newL_fine hm1 hm8)), Lib.hid (((ROff.of_rr R1.out).below hB0).mono fun b hb => Nat.ne_of_lt hb), Lib.hid hK0, Lib.hid (B1.out.trans (hB0.mono B1.out.size))⟩
  case round =>
    obtain ⟨j, L, wh, A', c', hj, rfl, rfl, HI, HR, HK, HB⟩ := hrel
    by_cases hlt : j < k
    · have hjl : j < s.length := by rw [HN.out]; exact hlt
      have hjm : j < (s.map byteOf).length := by rw [List.length_map]; exact hjl
      obtain ⟨ad, hA, hc0⟩ := R.out.at_ hjm
      subst hA
      obtain ⟨X, hX⟩ : ∃ X : Nat, s[j].toNat = X := ⟨_, rfl⟩
      have hX256 : X < 256 := by rw [← hX]; exact s[j].toNat_lt
      have hcx : w.cell? (ad.add j) = some (.int .u8 (X : Int)) := by rw [hc0, List.getElem_map]; unfold byteOf; rw [hX]
      have hc1 := (HB.out.cell (cell_lt hcx)).trans hcx
      have TT : Hid (Ring wr) := Lib.hid (T.out.below HB.out)
      have hme : X % m < m := Nat.mod_lt _ (by omega)
      have hfine := HI.out.fine
      have TK := Lib.hid (take_off A' c' m (X % m) L HI.out.len hfine hme wr TT.out HR.out.rr _ rfl)
      have IN := Lib.hid (inv_next HI.out hme)
      have LA := Lib.hid (inv_last HI.out hme)
      have hg : w1.heap.size < wr.heap.size := HK.out.lt
      clear hc0 hX hcx hfine
      go_wp2_with fail
      rw [← Int.natCast_emod]
      generalize X % m = t at TK IN LA hme ⊢
      obtain ⟨M, hMM⟩ : ∃ M, takeL L t = M := ⟨_, rfl⟩
      rw [hMM] at TK IN LA
      refine TK.out.mono ?_; rintro e w2 ⟨A2, c2, rfl, hr2, hb2⟩
      have FB := Lib.hid (fineB_is A2 c2 m M IN.out.len w2 hr2.rr true IN.out.fine)
      have B2 := Lib.hid (HB.out.trans (hb2.mono HB.out.size))
      have K2 := HK.out.below hb2 hg
      have R2 := Lib.hid (hr2.mono (q := (· ≠ w1.heap.size)) fun b hb => Nat.ne_of_gt (Nat.lt_of_lt_of_le hg hb))
      have htm : (t : Int) < 8 := by omega
      have hwl := HI.out.whl
      have htw : t < wh.length := by omega
      have hfr := K2.frozen t
      have hcell := K2.cell t
      rw [List.getElem?_toArray, List.getElem?_map, List.getElem?_eq_getElem htw, Option.map_some] at hcell
      generalize (Value.int .i64 wh[t]) = old at hcell
      have hK3 := K2.set_ t (.int .i64 ((j : Int) + 1))
      rw [set_cells] at hK3
      have K3 := Lib.hid hK3
      clear hK3
      have R3 := Lib.hid (R2.out.set t (.int .i64 ((j : Int) + 1)))
      have B3 := Lib.hid (B2.out.setCell (p := ⟨w1.heap.size, t, none⟩) (Nat.le_trans B1.out.size (Nat.le_refl _)) (.int .i64 ((j : Int) + 1)))
      clear hr2 hb2 K2 HR HK TK hMM hwl htw HI
      go_wp2_with fail
      refine FB.out.mono ?_; rintro e w3 ⟨rfl, rfl⟩
      go_wp2_with fail
      generalize w2.setCell ⟨w1.heap.size, t, none⟩ (.int .i64 ((j : Int) + 1)) = W at K3 R3 B3 ⊢
      generalize wh.set t ((j : Int) + 1) = V at IN K3
      have T3 : Hid (Ring W) := Lib.hid (T.out.below B3.out)
      have HC : Hid (∀ x, x < m → W.cell? ⟨w1.heap.size, x, none⟩ = some (.int .i64 (V.getD x 0))) := Lib.hid (fun x hx => by
        have hxl : x < V.length := by have := IN.out.whl; omega
        rw [K3.out.cell, List.getElem?_toArray, List.getElem?_map, List.getElem?_eq_getElem hxl, List.getD_eq_getElem?_getD, List.getElem?_eq_getElem hxl]; rfl)
      have BH : Hid (∀ x y z q, behindL M x y = z → Calls Tryd.prog 18 #[.slice A2 m c2, .int .i64 x, .int .i64 y] (W.drewN q) fun e w' => e = .returned (.bool z) ∧ ∃ n, w' = (W.drewN q).drewN n) :=
        Lib.hid (fun x y z q hz => behind_is A2 c2 m x y M IN.out.len (W.drewN q) T3.out R3.out.rr z hz)
      go_loopw [13] (fun v wr => ∃ x q : Nat, x ≤ m ∧ v = .int .i64 x ∧ wr = W.drewN q) (fun v _ => m - (intOf v).toNat)
      case atStart => exact ⟨0, 0, by omega, rfl, rfl⟩
      case round =>
        obtain ⟨x, q, hx, rfl, rfl⟩ := hrel
        by_cases hxm : x < m
        · have hx8 : (x : Int) < 8 := by omega
          obtain ⟨ax, hax⟩ : ∃ ax, V.getD x 0 = ax := ⟨_, rfl⟩
          have HCX := HC.out x hxm
          rw [hax] at HCX
          have HAX := Lib.hid hax
          clear hax
          go_wp2_with fail
          go_loopw [14] (fun v wr => ∃ y q : Nat, y ≤ m ∧ v = .int .i64 y ∧ wr = W.drewN q) (fun v _ => m - (intOf v).toNat)
          case atStart => exact ⟨0, q, by omega, rfl, rfl⟩
          case round =>
            obtain ⟨y, q2, hy, rfl, rfl⟩ := hrel
            by_cases hym : y < m
            · have hy8 : (y : Int) < 8 := by omega
              obtain ⟨ay, hay⟩ : ∃ ay, V.getD y 0 = ay := ⟨_, rfl⟩
              have HCY := HC.out y hym
              rw [hay] at HCY
              have HAY := Lib.hid hay
              clear hay
              by_cases hgt : ay < ax
              · have hnlt : decide (ax < ay) = false := decide_eq_false (by omega)
                have D := Lib.hid (fun q => BH.out x y true q (behind_yes IN.out hxm hym (by rw [HAX.out, HAY.out]; exact hgt)))
                go_wp2_with fail
                go_quiet ((go_at_call 18; exact quiet_own D.out))
                go_wp2_with fail
                go_roundw
                case rel => exact ⟨y + 1, _, by omega, by go_num, rfl⟩
                case measure => simp [intOf]; omega
              · have hg1 : decide (ay < ax) = false := decide_eq_false hgt
                by_cases hlt2 : ax < ay
                · have D := Lib.hid (fun q => BH.out x y false q (behind_no IN.out hxm hym (by rw [HAX.out, HAY.out]; exact hlt2)))
                  go_wp2_with fail
                  go_quiet ((go_at_call 18; exact quiet_own D.out))
                  go_wp2_with fail
                  go_roundw
                  case rel => exact ⟨y + 1, _, by omega, by go_num, rfl⟩
                  case measure => simp [intOf]; omega
                · have hg2 : decide (ax < ay) = false := decide_eq_false hlt2
                  obtain ⟨z, hz⟩ : ∃ z, behindL M x y = z := ⟨_, rfl⟩
                  have D := Lib.hid (fun q => BH.out x y z q hz)
                  clear hz
                  cases z
                  · go_wp2_with fail
                    go_quiet ((go_at_call 18; exact quiet_own D.out))
                    go_wp2_with fail
                    go_roundw
                    case rel => exact ⟨y + 1, _, by omega, by go_num, rfl⟩
                    case measure => simp [intOf]; omega
                  · go_wp2_with fail
                    go_quiet ((go_at_call 18; exact quiet_own D.out))
                    go_wp2_with fail
                    go_roundw
                    case rel => exact ⟨y + 1, _, by omega, by go_num, rfl⟩
                    case measure => simp [intOf]; omega
            · obtain rfl : y = m := by omega
              go_wp2_with fail
              go_roundw
              case rel => exact ⟨x + 1, _, by omega, by go_num, rfl⟩
              case measure => simp [intOf]; omega
        · obtain rfl : x = m := by omega
          have LS := Lib.hid (last_is A2 c2 x M IN.out.len (W.drewN q) T3.out R3.out.rr (t : Int) LA.out)
          have B4 := Lib.hid (below_drewN B3.out q)
          have K4 : Hid (Blk (W.drewN q) w1.heap.size 41 (V.map (Value.int .i64)).toArray) := Lib.hid K3.out
          have R4 : Hid (ROff (· ≠ w1.heap.size) (W.drewN q) A2 c2 M) := Lib.hid R3.out
          clear HC BH
          go_wp2_with fail
          refine LS.out.mono ?_; rintro e w5 ⟨rfl, hb5⟩
          have K5 := Lib.hid (K4.out.below hb5 K4.out.lt)
          have R5 := Lib.hid (R4.out.below hb5)
          have B5 := Lib.hid (B4.out.trans (hb5.mono B4.out.size))
          clear hb5
          go_wp2_with fail
          go_roundw
          case rel => exact ⟨j + 1, M, V, A2, c2, by omega, rfl, by go_num, IN, R5, K5, B5⟩
          case measure => simp [intOf]; omega
    · obtain rfl : j = k := by omega
      have TT : Hid (Ring wr) := Lib.hid (T.out.below HB.out)
      go_wp2_with fail
      refine (alive_is _ TT.out).mono ?_; rintro e w9 ⟨rfl, hb9⟩
      have B9 := Lib.hid (HB.out.trans (hb9.mono HB.out.size))
      clear hb9
      go_wp2_with fail
      go_ret
      exact ⟨rfl, B9.out⟩
theorem lastlaw_is (A : Option Addr) (c k : Nat) (s : List UInt8) (hn : s.length = k) (a : Int) (h0 : 0 ≤ a) (h1 : a < 256) (w : World) (ht : Ring w) (hr : RV w A c (s.map byteOf)) :
    Calls Tryd.prog 4 #[.int .u8 a, .slice A k c] w fun e w' => e = .returned (.bool true) ∧ Below w.heap.size w w' := by
  by_cases h : 200 < k
  · exact last_far A c k a h0 h1 h w ht
  · exact last_near A c k s hn a h0 h1 (by omega) w ht hr
end Go.Proofs.YtdkliknnnolngaaDoor
