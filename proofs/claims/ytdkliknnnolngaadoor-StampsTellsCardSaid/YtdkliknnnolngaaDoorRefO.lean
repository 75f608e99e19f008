/- The reference's Over, which calls itself. Own work. -/
import Derived.Test.YtdkliknnnolngaaDoorRefS
import Derived.Deep.RegionLaw
namespace Go.Proofs.YtdkliknnnolngaaDoor
open Go.ChangeShapes Go.WideShapes Go.ChangeAt Go.RowKit Cyc

set_option maxHeartbeats 4000000 in
theorem overR_is : ∀ (k : Nat) (A : Option Addr) (c n : Nat) (L : List (List Int)) (_ : L.length = n) (_ : n ≤ 1000) (_ : ∀ r ∈ L, r.length = k ∧ fineL r = true) (_ : k ≤ 8) (w : World) (_ : RR w A c L) (t : List Int) (_ : overL k L = t),
    Calls Tryd.prog 16 #[.slice A n c, .int .i64 k] w (GivesI w t) := by
  intro k
  induction k with
  | zero =>
    intro A c n L hn h1000 hL hk8 w hr t ht
    have e : t = [] := by rw [← ht]; rfl
    subst e
    clear ht hr hL
    have e0 : ((0 : Nat) : Int) = 0 := rfl
    go_enter Tryd.func16, Tryd.ntmps16
    go_wp2_with fail
    go_ret
    exact ⟨_, rfl, OwnI.nil _ _, Below.refl _ _⟩
  | succ k ih =>
    intro A c n L hn h1000 hL hk8 w hr t ht
    have hk1 : ((k + 1 : Nat) : Int) - 1 = (k : Int) := by omega
    have hk2 : ¬ ((k + 1 : Nat) : Int) ≤ 0 := by omega
    obtain ⟨K, hK⟩ : ∃ K : Int, K = ((k + 1 : Nat) : Int) := ⟨_, rfl⟩
    rw [← hK] at hk1 hk2 ⊢
    have hK8 : K ≤ 8 := by omega
    have hK0 : 0 < K := by omega
    have HK := Lib.hid hK
    clear hK
    by_cases h0 : n = 0
    · subst h0
      have hnil : L = [] := List.eq_nil_of_length_eq_zero hn
      rw [hnil, over_none] at ht
      have hO := own_one w 0 w.heap.size (Nat.le_refl _)
      have hB0 := below_alloc w (.cells #[.int .i64 0] 3)
      have REC := Lib.hid (ih A c 0 L hn (by omega) (by rw [hnil]; simp) (by omega) (w.alloc (.cells #[.int .i64 0] 3)) (hr.below hB0) _ rfl)
      rw [hnil] at REC
      have HT := Lib.hid ht
      clear ht hr hL ih hnil
      go_enter Tryd.func16, Tryd.ntmps16
      go_wp2_with fail
      refine REC.out.mono ?_; rintro e w2 ⟨v, rfl, hv, hB⟩
      obtain ⟨A', c', rfl, hri⟩ := hv.reads
      have hO2 := hO.below hB
      have hs0 := hB.size
      have hol : (overL k []).length ≤ 8 := by rw [overL_len]; omega
      have hB2 : Below w.heap.size w w2 := hB0.trans (hB.mono hB0.size)
      clear hv hO hB0 hB
      go_wp2_with (at_builtin; refine app_ints rfl _ _ rfl w.heap.size _ [0] rfl hO2 A' _ c' _ rfl hri rfl ?c1 hB2.size ?_)
      case c1 => simp only [List.length_singleton]; omega
      intro v' w3 hv' hB3
      have F : Hid (GivesI w t (.returned v') w3) := Lib.hid ⟨_, rfl, by rw [← HT.out]; exact hv', hB2.trans hB3⟩
      clear hv' hB3 hO2 hri
      go_wp2
      go_ret
      exact F.out
    · have hL0 : L ≠ [] := fun e => by rw [e] at hn; exact h0 hn.symm
      have hpos : 0 < L.length := by omega
      have hn0 : (0 : Int) < n := by omega
      have hb0 : ((n : Int) == 0) = false := by simp; omega
      have hmax : n ≤ 1000 := h1000
      obtain ⟨ad, A0, c0, hA, hc0, hr0⟩ := hr.at_ hpos
      subst hA
      have hc00 : w.cell? ad = some (.slice A0 L[0].length c0) := by simpa [Addr.add] using hc0
      have S0 : Hid (bestL L[0] (L.drop 1) = great L) := Lib.hid (by
        cases L with
        | nil => exact absurd rfl hL0
        | cons r l => rfl)
      have R := Lib.hid hr; have R0 := Lib.hid hr0
      have HL := Lib.hid hL
      have HT := Lib.hid ht
      have HN := Lib.hid hn
      clear hr hr0 ht hc0 hL
      go_enter Tryd.func16, Tryd.ntmps16
      go_wp2_with fail
      go_loopw [5, 6] (fun v i wr => ∃ (j : Nat) (m' : List Int) (A' : Option Addr) (c' q : Nat), 1 ≤ j ∧ j ≤ n ∧ v = .slice A' m'.length c' ∧ i = .int .i64 j ∧ Hid (RI w A' c' m') ∧ Hid (bestL m' (L.drop j) = great L) ∧ wr = w.drewN q) (fun _ i _ => n - (intOf i).toNat)
      case atStart => exact ⟨1, L[0], A0, c0, 0, by omega, by omega, rfl, rfl, R0, S0, rfl⟩
      case round =>
        obtain ⟨j, m', A', c', q, hj1, hj, rfl, rfl, HM, HB, rfl⟩ := hrel
        by_cases hlt : j < n
        · have hltL : j < L.length := by rw [HN.out]; exact hlt
          obtain ⟨ad', A1, c1, e, hc1, hr1⟩ := R.out.at_ hltL
          cases e
          have R1 := Lib.hid hr1; clear hr1
          cases hd : domL L[j] m'
          · have S1 : Hid (bestL m' (L.drop (j + 1)) = great L) := Lib.hid (by simpa using best_step hltL HB.out hd)
            have D := Lib.hid (fun q => domR_is L[j] A1 A' c1 c' _ _ m' rfl rfl (w.drewN q) R1.out HM.out false hd); clear hd
            go_wp2_with fail
            refine (D.out _).mono ?_; rintro e w' ⟨rfl, q2, rfl⟩
            go_wp2_with fail
            go_roundw
            case rel => exact ⟨j + 1, m', A', c', q + q2, by omega, by omega, rfl, by go_num, HM, S1, rfl⟩
            case measure => simp [intOf]; omega
          · have S1 : Hid (bestL L[j] (L.drop (j + 1)) = great L) := Lib.hid (by simpa using best_step hltL HB.out hd)
            have D := Lib.hid (fun q => domR_is L[j] A1 A' c1 c' _ _ m' rfl rfl (w.drewN q) R1.out HM.out true hd); clear hd
            go_wp2_with fail
            refine (D.out _).mono ?_; rintro e w' ⟨rfl, q2, rfl⟩
            go_wp2_with fail
            go_roundw
            case rel => exact ⟨j + 1, L[j], A1, c1, q + q2, by omega, by omega, rfl, by go_num, R1, S1, rfl⟩
            case measure => simp [intOf]; omega
        · obtain rfl : j = n := by omega
          have E : m' = great L := best_end (by rw [HN.out]; exact HB.out)
          clear HB S0
          have hgm := HL.out _ (great_mem hL0)
          rw [← E] at hgm
          have hml : 0 < m'.length := by omega
          have hml' : (0 : Int) < m'.length := by omega
          obtain ⟨adb, rfl, hcb⟩ := HM.out.at_ hml
          obtain ⟨d, hd⟩ : ∃ d, d = m'[0] := ⟨_, rfl⟩
          have hdg : Hid ((great L).getD 0 0 = d) := Lib.hid (by rw [hd, ← E, List.getD_eq_getElem?_getD, List.getElem?_eq_getElem hml]; rfl)
          have hcb' : w.cell? adb = some (.int .i64 d) := by rw [hd]; simpa [Addr.add] using hcb
          clear hcb hd hc00 R0 E hgm
          go_wp2_with fail
          go_loopw [7, 8] (fun v i wr => ∃ (x : Nat) (us : List Value), x ≤ j ∧ i = .int .i64 x ∧ OwnV wr w.heap.size v us ∧ Hid (Vals w us (nearL (L.take x) d)) ∧ Below w.heap.size w wr) (fun _ i _ => j - (intOf i).toNat)
          case atStart => exact ⟨0, [], by omega, rfl, OwnV.nil _ _, Lib.hid (by simpa [nearL] using Vals.nil w), below_drewN (Below.refl _ _) _⟩
          case round =>
            obtain ⟨x, us, hx, rfl, hown, hU, hB⟩ := hrel
            have hcbr : wr.cell? adb = some (.int .i64 d) := (hB.cell (cell_lt hcb')).trans hcb'
            by_cases hlt2 : x < j
            · have hltL : x < L.length := by rw [HN.out]; exact hlt2
              obtain ⟨ad', A1, c1, e, hc1, hr1⟩ := R.out.at_ hltL
              cases e
              have hxl : L[x].length = k + 1 := (HL.out _ (List.getElem_mem hltL)).1
              have hx0 : 0 < L[x].length := by omega
              have hx0' : (0 : Int) < L[x].length := by omega
              obtain ⟨adx, rfl, hcx⟩ := hr1.at_ hx0
              have hcx' : wr.cell? adx = some (.int .i64 L[x][0]) := (hB.cell (cell_lt (by simpa [Addr.add] using hcx))).trans (by simpa [Addr.add] using hcx)
              have hc1r : wr.cell? (ad.add x) = some (.slice (some adx) L[x].length c1) := (hB.cell (cell_lt hc1)).trans hc1
              obtain ⟨A2, hcut, hri2⟩ := cut1 hr1 rfl (by omega)
              have hT := nearL_take (d := d) hltL hx0
              have hul : us.length ≤ x := by
                rw [hU.out.1]
                have := nearL_len (L.take x) d
                rw [List.length_take] at this
                omega
              clear hc1 hcx hxl
              by_cases hd : L[x][0] = d
              · rw [if_pos hd] at hT
                have hVI : VI w (.slice A2 (L[x].length - 1) (c1 - 1)) (L[x].drop 1) := VI.of_len hri2 (by rw [List.length_drop])
                have U2 : Hid (Vals w (us ++ [.slice A2 (L[x].length - 1) (c1 - 1)]) (nearL (L.take (x + 1)) d)) := Lib.hid (by rw [hT]; exact hU.out.snoc hVI)
                have hd1 : (L[x][0] == d) = true := by simp [hd]
                clear hd hT hVI hri2 hr1
                go_wp2_with fail
                go_quiet (fail)
                go_wp2_with (at_builtin; refine app_vals rfl _ _ rfl w.heap.size _ us rfl ((show OwnV (wr.drewN nq) _ _ us from hown).alloc _) (some ⟨wr.heap.size, 0, none⟩) 1 1 [.slice A2 (L[x].length - 1) (c1 - 1)] rfl (rv_lit (wr.drewN nq) _ _ 1 rfl (by decide) _ rfl) rfl ?c1 ?c2 ?c3 ?_)
                case c1 => intro u hu; simp at hu; subst hu; rfl
                case c2 => simp; omega
                case c3 => have := hB.size; simp; omega
                intro v' w1 hown' hB1
                have h2 : Below w.heap.size w w1 := ((below_drewN hB nq).alloc hB.size _).trans hB1
                clear hB1
                go_wp2
                go_roundw
                case rel => exact ⟨x + 1, _, by omega, by go_num, hown', U2, h2⟩
                case measure => simp [intOf]; omega
              · rw [if_neg hd, List.append_nil] at hT
                have U2 : Hid (Vals w us (nearL (L.take (x + 1)) d)) := Lib.hid (by rw [hT]; exact hU.out)
                have hd1 : (L[x][0] == d) = false := by simp [hd]
                clear hd hT hri2 hr1
                go_wp2_with fail
                go_quiet (fail)
                go_wp2_with fail
                go_roundw
                case rel => exact ⟨x + 1, us, by omega, by go_num, hown, U2, below_drewN hB _⟩
                case measure => simp [intOf]; omega
            · obtain rfl : x = j := by omega
              have hU2 : Vals w us (nearL L d) := by have := hU.out; rwa [List.take_of_length_le (by have := HN.out; omega)] at this
              obtain ⟨A2, c2, rfl, hv2⟩ := hown.reads
              have hrr : RR wr A2 c2 (nearL L d) := ⟨us, hv2, hU2.below hB⟩
              have hul : (nearL L d).length = us.length := hU2.1.symm
              have hul2 := nearL_len L d
              have hs0 := hB.size
              have hnr : ∀ r ∈ nearL L d, r.length = k ∧ fineL r = true := nearL_rows HL.out
              have hus : us.length ≤ x := by have := HN.out; omega
              clear hU hU2 hown hv2
              by_cases hlt3 : us.length < k + 1
              · have hlt4 : (us.length : Int) < K := by have := HK.out; omega
                have REC := Lib.hid (fun w' h => ih A2 c2 us.length (nearL L d) hul (by omega) hnr (by omega) w' h _ rfl)
                have EQ : Hid (d :: overL k (nearL L d) = t) := Lib.hid (by rw [← HT.out, over_near hL0 hdg.out (by omega)])
                have hol : (overL k (nearL L d)).length ≤ 8 := by rw [overL_len]; omega
                clear ih hnr hdg
                have LIT : ∀ wx : World, wr.heap.size ≤ wx.heap.size → OwnI (wx.alloc (.cells #[.int .i64 d] 3)) w.heap.size (.slice (some ⟨wx.heap.size, 0, none⟩) 1 1) [d] := fun wx h => own_one wx d _ (by omega)
                have hwk : IntKind.i64.wrap (k : Int) = (k : Int) := by rw [IntKind.wrap_i64]; omega
                have REC2 : Hid (∀ w' (_ : RR w' A2 c2 (nearL L d)), Calls Tryd.prog 16 #[.slice A2 us.length c2, .int .i64 (IntKind.i64.wrap (k : Int))] w' (GivesI w' (overL k (nearL L d)))) := Lib.hid (by rw [hwk]; exact REC.out)
                clear hwk REC
                go_wp2_with fail
                go_region_law (first
                  | (go_simp; go_at_call 16; refine (REC2.out _ (hrr.below (by go_grown))).mono ?_; rintro e w2 ⟨v, rfl, hv, hB1⟩; obtain ⟨A', c', rfl, hri⟩ := hv.reads; have hs1 := hB1.size; have hBw : Below w.heap.size w w2 := hB.trans ((Below.mono (B := wr.heap.size) (by go_grown) hs0).trans (hB1.mono (by simp; omega))); have hs2 := hBw.size; have hs3 : wr.heap.size ≤ w2.heap.size := Nat.le_trans (by simp) hs1; have hcb2 : w2.cell? adb = some (.int .i64 d) := (hBw.cell (cell_lt hcb')).trans hcb')
                  | (refine step_app_ints rfl _ _ rfl w.heap.size _ [d] rfl (by first | exact OwnI.below (LIT wr (Nat.le_refl _)) hB1 | exact OwnI.below (LIT wr.drew (Nat.le_refl _)) hB1 | exact LIT w2 hs3 | exact LIT w2.drew hs3) A' _ c' _ rfl (by first | exact hri | exact RI.alloc hri _) rfl (by simp only [List.length_singleton]; omega) (by first | exact hs2 | exact Nat.le_succ_of_le hs2 | (simp; omega)) ?_; intro v' w3 hv' hB3; have F : Hid (GivesI w t (.returned v') w3) := Lib.hid ⟨_, rfl, by rw [← EQ.out]; exact hv', (by first | exact hBw.trans hB3 | exact (hBw.alloc hs2 _).trans hB3 | exact (hBw.drew.alloc hs2 _).trans hB3 | exact (hBw.alloc hs2 _).drew.trans hB3)⟩))
                all_goals (go_wp2; go_ret; exact F.out)
              · have hlt4 : ¬ (us.length : Int) < K := by have := HK.out; omega
                have hol : (overL k []).length ≤ 8 := by rw [overL_len]; omega
                have hB0 := below_alloc wr (.cells #[.int .i64 (nextD d)] 3)
                have hO := own_one wr (nextD d) w.heap.size hs0
                have REC := Lib.hid (ih none 0 0 [] rfl (by omega) (by simp) (by omega) (wr.alloc (.cells #[.int .i64 (nextD d)] 3)) (RR.nil _) _ rfl)
                have NX := Lib.hid (nextR_is d (nextD d) rfl wr)
                have EQ : Hid (nextD d :: overL k [] = t) := Lib.hid (by rw [← HT.out, over_next hL0 hdg.out (by omega)])
                clear ih hnr hdg hrr
                go_wp2_with fail
                refine NX.out.mono ?_; rintro e w' ⟨rfl, rfl⟩
                go_wp2_with fail
                refine REC.out.mono ?_; rintro e w2 ⟨v, rfl, hv, hB1⟩
                obtain ⟨A', c', rfl, hri⟩ := hv.reads
                have hO2 := hO.below hB1
                have hs1 := hB1.size
                have hs2 := hB0.size
                have hB2 : Below w.heap.size w w2 := hB.trans ((hB0.mono hs0).trans (hB1.mono (by omega)))
                clear hv hO hB0 hB1
                go_wp2_with (at_builtin; refine app_ints rfl _ _ rfl w.heap.size _ [nextD d] rfl hO2 A' _ c' _ rfl hri rfl ?c1 hB2.size ?_)
                case c1 => simp only [List.length_singleton]; omega
                intro v' w3 hv' hB3
                have F : Hid (GivesI w t (.returned v') w3) := Lib.hid ⟨_, rfl, by rw [← EQ.out]; exact hv', hB2.trans hB3⟩
                clear hv' hB3 hO2 hri
                go_wp2
                go_ret
                exact F.out
end Go.Proofs.YtdkliknnnolngaaDoor
