/- The reference's End. Own work. -/
import Derived.Test.YtdfkmkflcnfchaaRBeg8
import Derived.Deep.DeepCutAuto
namespace Go.Proofs.Ytdfkmkflcnfchaa
open Go.ChangeShapes Go.WideShapes Go.ChangeAt Go.RowKit CellM

theorem wrapR_is (n t z : Int) (hz : n % (cap 1099511627776 t + 1) = z) (w : World) : Calls Try.prog 37 #[.int .i64 n, .int .i64 t] w fun e w' => e = .returned (.int .i64 z) ∧ w = w' := by
  subst hz
  have hc := cap_le 1099511627776 t (by decide)
  go_enter Try.func37, Try.ntmps37
  go_wp2_with fail
  refine (within_any _ _ (by decide) _).mono ?_; rintro e w' ⟨rfl, rfl⟩
  have hk : 0 < cap 1099511627776 t + 1 := by omega
  have hm := tmod_low (n := n) hk
  go_wp2_with fail
  all_goals go_ret
  · exact ⟨ret_int (tmod_neg hk ‹_›), rfl⟩
  · exact ⟨ret_int (tmod_pos hk ‹_›), rfl⟩
theorem RAt.setTo {w : World} {rc : Nat} {r : Rs} {A : Option Addr} {h c : Nat} {G : Nat → Prop} (H : RAt w rc r A h c G) {i : Nat} (hi : i < r.L.length) (n : Int) :
    RAt (w.setCell ⟨h, i * 7 + 5, none⟩ (.int .i64 n)) rc ⟨r.kind, r.top, r.value, r.now, r.L.set i (over8 r.L[i] n)⟩ A h c G := by
  have hk := kept_set w ⟨h, i * 7 + 5, none⟩ (.int .i64 n)
  have hc : c ≠ 0 := by have := H.row.le; omega
  have h0 : ∀ j, ¬ ((⟨rc, j, none⟩ : Addr) = ⟨h, i * 7 + 5, none⟩) := fun j e => (H.hG hc).2 (by simp only [Addr.mk.injEq] at e; exact e.1.symm)
  exact ⟨hk.has _ _ H.kind (h0 _), hk.has _ _ H.top (h0 _), hk.has _ _ H.value (h0 _), hk.has _ _ H.now (h0 _), by rw [List.length_set]; exact hk.has _ _ H.l (h0 _), H.row.set hi n, H.rG, H.hG⟩
/-- Where a read's answer is. -/
theorem seen_at {L : List Ev} {w f : Int} (hl : L.length ≤ 100) (draw : Int) : ∃ q : Nat, q < (seenL L w f).length ∧ draw % (cap 1099511627776 (((seenL L w f).length : Int) - 1) + 1) = q ∧ (draw % ((seenL L w f).length : Int)).toNat = q := by
  have h1 := part2_le L w f L.length hl
  rw [part2_end] at h1
  exact drawn_at (by have := seen_pos L w f; intro e; rw [e] at this; simp at this) (by omega) draw
set_option maxHeartbeats 8000000 in
set_option maxRecDepth 20000 in
theorem endR_is (w : World) (rc : Nat) (r : Rs) (A : Option Addr) (h c : Nat) (G : Nat → Prop) (t draw : Int) (H : RAt w rc r A h c G) (hl : r.L.length ≤ 100) (hn : 0 ≤ r.now ∧ r.now ≤ 1000) :
    Calls Try.prog 23 #[.pointer (some ⟨rc, 0, none⟩), .int .i64 t, .int .i64 draw] w fun e w' => e = .returned (.tuple #[.int .i64 (endVr r t draw), .int .i64 (errEr r t)]) ∧ RNow w w' rc (endr r t) G := by
  have hrc := H.lt
  cases hf : findO r.L t with
  | none =>
    have hneg := findA_neg.2 hf
    have d1 : decide (findA r.L t < 0) = true := by simp [hneg]
    have he : errEr r t = 7 := by unfold errEr; rw [if_pos hneg]
    have hv : endVr r t draw = 0 := by unfold endVr; rw [hf]
    have hr : endr r t = r := by unfold endr; rw [hf]
    have HE := Lib.hid (And.intro he (And.intro hv hr))
    have HH := Lib.hid H
    clear H he hv hr hf
    go_enter Try.func23, Try.ntmps23
    go_wp2_with fail
    refine (find_is _ _ _ _ _ _ _ _ HH.out).mono ?_; rintro e w' ⟨rfl, rfl⟩
    go_wp2_with fail
    go_ret2
    exact ⟨ret_2 HE.out.2.1.symm HE.out.1.symm, by rw [HE.out.2.2]; exact RNow.of HH.out (Below.refl _ _)⟩
  | some i =>
    obtain ⟨hi, _, _⟩ := findO_some hf
    have hfa := findA_val hf
    have he : errEr r t = 0 := by unfold errEr; rw [hfa, if_neg (by omega)]
    obtain ⟨x, hx⟩ : ∃ x, r.L[i] = x := ⟨_, rfl⟩
    have hgd : r.L.getD i default = x := by rw [List.getD_eq_getElem?_getD, List.getElem?_eq_getElem hi, ← hx]; rfl
    have hL' : endL r i = r.L.set i (over8 x (r.now + 1)) := by unfold endL; rw [hgd]
    have hr : endr r t = ⟨r.kind, r.top, if x.k = 2 then x.v else r.value, r.now + 1, r.L.set i (over8 x (r.now + 1))⟩ := by unfold endr; rw [hf]; simp only; rw [hgd, hL']
    have hv : endVr r t draw = if x.k = 2 then 0 else tellR r (seenL (r.L.set i (over8 x (r.now + 1))) x.w x.f) draw := by unfold endVr; rw [hf]; simp only; rw [hgd, hL']
    have HE := Lib.hid (And.intro he (And.intro hv hr))
    have HF := Lib.hid (fun (w : World) (hz : RAt w rc r A h c G) => find_is w rc r A h c G t hz)
    rw [hfa] at HF
    have HH := Lib.hid H
    obtain ⟨hA, _⟩ := H.row.get hi
    subst hA
    have c3 := H.now.1
    have f3 := H.now.2
    have hR1 := H.setNow (r.now + 1)
    have hR2 := hR1.setTo (i := i) hi (r.now + 1)
    simp only at hR2
    rw [hx] at hR2
    have hto := ((hR1.row.get (i := i) hi).2 5 _ rfl)
    have hS2 : Step G w ((w.setCell ⟨rc, 3, none⟩ (.int .i64 (r.now + 1))).setCell ⟨h, i * 7 + 5, none⟩ (.int .i64 (r.now + 1))) :=
      ((Step.refl G w).setCell (p := ⟨rc, 3, none⟩) (.inl H.rG) _).setCell (p := ⟨h, i * 7 + 5, none⟩) (.inl (H.hG (by have := H.row.le; omega)).1) _
    have H2 := Lib.hid (And.intro hR2 hS2)
    have c4 : (w.setCell ⟨rc, 3, none⟩ (.int .i64 (r.now + 1))).cell? ⟨rc, 4, none⟩ = some (.slice (some ⟨h, 0, none⟩) r.L.length c) := hR1.l.1
    have c3' : (w.setCell ⟨rc, 3, none⟩ (.int .i64 (r.now + 1))).cell? ⟨rc, 3, none⟩ = some (.int .i64 (r.now + 1)) := hR1.now.1
    have t5 := hto.1
    have g5 := hto.2
    clear H he hv hr hf hR1 hR2 hS2 hto hfa hgd hL' hx
    go_enter Try.func23, Try.ntmps23
    go_wp2_with fail
    refine (HF.out _ HH.out).mono ?_; rintro e w' ⟨rfl, rfl⟩
    go_upto_region 5 with fail
    go_cut [] (fun wx => Hid (RAt wx rc ⟨r.kind, r.top, r.value, r.now + 1, r.L.set i (over8 x (r.now + 1))⟩ (some ⟨h, 0, none⟩) h c G ∧ Step G w wx))
    case first =>
      go_region
      all_goals
        go_wp2_with fail
        go_meet
        exact Lib.hid ⟨H2.out.1.below (Below.refl _ _).drew, H2.out.2.trans (.of_below (Below.refl _ _).drew)⟩
    case rest =>
      clear c3 f3 c4 c3' t5 g5 H2
      obtain ⟨hR, hS⟩ := hcut.out
      clear hcut
      have hlen : (r.L.set i (over8 x (r.now + 1))).length = r.L.length := List.length_set
      have hget := (hR.row.get (i := i) (by simp only; rw [hlen]; exact hi)).2
      simp only [List.getElem_set_self] at hget
      have c4 : wc.cell? ⟨rc, 4, none⟩ = some (.slice (some ⟨h, 0, none⟩) r.L.length c) := by rw [← hlen]; exact hR.l.1
      have x0 : wc.cell? ⟨h, i * 7, none⟩ = some (.int .i64 x.t) := (hget 0 _ rfl).1
      have x1 : wc.cell? ⟨h, i * 7 + 1, none⟩ = some (.int .i64 x.k) := (hget 1 _ rfl).1
      have x2 : wc.cell? ⟨h, i * 7 + 2, none⟩ = some (.int .i64 x.c) := (hget 2 _ rfl).1
      have x3 : wc.cell? ⟨h, i * 7 + 3, none⟩ = some (.int .i64 x.v) := (hget 3 _ rfl).1
      have x4 : wc.cell? ⟨h, i * 7 + 4, none⟩ = some (.int .i64 x.f) := (hget 4 _ rfl).1
      have x5 : wc.cell? ⟨h, i * 7 + 5, none⟩ = some (.int .i64 (r.now + 1)) := (hget 5 _ rfl).1
      have x6 : wc.cell? ⟨h, i * 7 + 6, none⟩ = some (.int .i64 x.w) := (hget 6 _ rfl).1
      have x13 : wc.cell? ⟨h, i * 7 + 1 + 2, none⟩ = some (.int .i64 x.v) := x3
      have hrw := hR.lt
      have c2 := hR.value.1
      have f2 := hR.value.2
      have HRS := Lib.hid (And.intro hR hS)
      clear hR hS hget
      by_cases hk : x.k = 2
      · have dk : (x.k == 2) = true := by simp [hk]
        have HV := Lib.hid ((HRS.out.1.setValue x.v).mono (G' := More w G) (fun _ hb => .inl hb))
        go_wp2_with fail
        go_ret2
        refine ⟨ret_2 (by rw [HE.out.2.1, if_pos hk]) HE.out.1.symm, ?_⟩
        rw [HE.out.2.2, if_pos hk]
        exact ⟨⟨_, _, _, HV.out⟩, HRS.out.2.setCell (p := ⟨rc, 2, none⟩) (.inl HH.out.rG) _⟩
      · have dk : (x.k == 2) = false := by simp [hk]
        go_wp2_with fail
        refine (seen_is wc rc _ _ _ _ _ HRS.out.1 (over8 x (r.now + 1)) (by simp only; rw [hlen]; exact hl)).mono ?_; rintro e w5 ⟨v5, rfl, hG⟩
        have hG2 : Got wc.heap.size wc w5 v5 (seenL (r.L.set i (over8 x (r.now + 1))) x.w x.f) := hG
        have hle := part2_le (r.L.set i (over8 x (r.now + 1))) x.w x.f (r.L.set i (over8 x (r.now + 1))).length (by rw [hlen]; exact hl)
        rw [part2_end] at hle
        have hpos := seen_pos (r.L.set i (over8 x (r.now + 1))) x.w x.f
        obtain ⟨q, hq1, hq2, hq3⟩ := seen_at (L := r.L.set i (over8 x (r.now + 1))) (w := x.w) (f := x.f) (by rw [hlen]; exact hl) draw
        have hE2 : endVr r t draw = tellR r (seenL (r.L.set i (over8 x (r.now + 1))) x.w x.f) draw := by rw [HE.out.2.1, if_neg hk]
        have hE3 : endr r t = ⟨r.kind, r.top, r.value, r.now + 1, r.L.set i (over8 x (r.now + 1))⟩ := by rw [HE.out.2.2, if_neg hk]
        obtain ⟨s, hs⟩ : ∃ s, seenL (r.L.set i (over8 x (r.now + 1))) x.w x.f = s := ⟨_, rfl⟩
        rw [hs] at hG2 hle hpos hq1 hq2 hq3 hE2
        have hR5 := HRS.out.1.below hG2.below
        have k0 := hR5.kind.1
        have k1 := hR5.top.1
        have k2 := hR5.value.1
        simp only at k0 k1 k2
        have HN : Hid (RNow w w5 rc (endr r t) G) := Lib.hid (by
          rw [hE3]
          exact ⟨⟨_, _, _, hR5.mono (fun _ hb => .inl hb)⟩, HRS.out.2.trans (.of_below hG2.below)⟩)
        obtain ⟨g, o, cc, hgB, hC⟩ := hG2.ex
        have hv5 := hC.v
        subst hv5
        have hsq := (hC.at_ q s[q] (List.getElem?_eq_getElem hq1)).1
        have E1 := HE.out.1
        have EE := Lib.hid (And.intro E1 hE2)
        have HQ := Lib.hid (And.intro hq2 hq3)
        clear hG hG2 hs hE2 hE3 hR5 hC E1 hq2 hq3 HE x0 x1 x2 x3 x4 x5 x6 x13 c4 c2 f2 hlen
        by_cases hA : r.kind = 1 ∧ 1 < s.length
        · obtain ⟨hA1, hA2⟩ := hA
          have d1 : (r.kind == 1) = true := by simp [hA1]
          have d2 : decide ((1 : Int) < (s.length : Int)) = true := by simp; omega
          have hcap := cap_le 1099511627776 r.top (by decide)
          have HC1 := Lib.hid (fun w => clampR_is r.top 1099511627776 (capR r) rfl w)
          have HC2 := Lib.hid (fun w => wrapR_is draw (capR r) (draw % (capR r + 1)) (by unfold capR; rw [cap_in hcap.1 hcap.2]) w)
          have hT : tellR r s draw = draw % (capR r + 1) := by unfold tellR; rw [if_pos ⟨hA1, hA2⟩]
          have HT := Lib.hid hT; clear hT hcap
          go_wp2_with fail
          refine (HC1.out _).mono ?_; rintro e w6 ⟨rfl, rfl⟩
          go_wp2_with fail
          refine (HC2.out _).mono ?_; rintro e w6 ⟨rfl, rfl⟩
          go_wp2_with fail
          go_ret2
          exact ⟨ret_2 (by rw [EE.out.2, HT.out]) EE.out.1.symm, HN.out⟩
        · have hd : (r.kind == 1) = false ∨ ((r.kind == 1) = true ∧ decide ((1 : Int) < (s.length : Int)) = false) := by
            by_cases h1 : r.kind = 1
            · exact .inr ⟨by simp [h1], by simp; omega⟩
            · exact .inl (by simp [h1])
          by_cases hB : r.kind = 2
          · have d2 : (r.kind == 2) = true := by simp [hB]
            have d1 : (r.kind == 1) = false := by simp [hB]
            have HC2 := Lib.hid (fun w => wrapR_is draw ((s.length : Int) - 1) q HQ.out.1 w)
            have hT : tellR r s draw = s[q] := by unfold tellR; rw [if_neg hA, if_pos hB, HQ.out.2]; simp [List.getD, hq1]
            have HT := Lib.hid hT; clear hT hA hd
            go_wp2_with fail
            refine (HC2.out _).mono ?_; rintro e w6 ⟨rfl, rfl⟩
            go_wp2_with fail
            go_ret2
            exact ⟨ret_2 (by rw [EE.out.2, HT.out]) EE.out.1.symm, HN.out⟩
          · have d2 : (r.kind == 2) = false := by simp [hB]
            have hT : tellR r s draw = r.value := by unfold tellR; rw [if_neg hA, if_neg hB]
            have HT := Lib.hid hT; clear hT hA
            rcases hd with d1 | ⟨d1, d3⟩
            all_goals
              go_wp2_with fail
              go_ret2
              exact ⟨ret_2 (by rw [EE.out.2, HT.out]) EE.out.1.symm, HN.out⟩
end Go.Proofs.Ytdfkmkflcnfchaa
