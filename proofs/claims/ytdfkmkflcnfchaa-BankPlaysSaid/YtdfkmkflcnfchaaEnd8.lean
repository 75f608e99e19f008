/- cell's told and End. Own work. -/
import Derived.Test.YtdfkmkflcnfchaaCalls8
namespace Go.Proofs.Ytdfkmkflcnfchaa
open Go.ChangeShapes Go.WideShapes Go.ChangeAt Go.RowKit CellM

/-- The place that is drawn. -/
theorem drawn_at {l : List Int} (hne : l ≠ []) (hl : l.length ≤ 100000) (draw : Int) : ∃ q : Nat, q < l.length ∧ draw % (cap 1099511627776 ((l.length : Int) - 1) + 1) = q ∧ (draw % (l.length : Int)).toNat = q := by
  have h0 : 0 < l.length := List.length_pos_iff.2 hne
  have e : cap 1099511627776 ((l.length : Int) - 1) + 1 = l.length := by rw [cap_in (by omega) (by omega)]; omega
  rw [e]
  have h1 := Int.emod_nonneg draw (show (l.length : Int) ≠ 0 by omega)
  have h2 := Int.emod_lt_of_pos draw (show (0 : Int) < l.length by omega)
  exact ⟨(draw % (l.length : Int)).toNat, by omega, by omega, rfl⟩
set_option maxHeartbeats 2000000 in
theorem told_is (w : World) (cb : Nat) (S : St) (a : CellM.Acc) (A : Option Addr) (len cp : Nat) (draw : Int) (p : Pl) (hk : Has w ⟨cb, 0, none⟩ (.int .i64 S.kind)) (ht : Has w ⟨cb, 1, none⟩ (.int .i64 S.top)) (hv : Has w ⟨cb, 2, none⟩ (.int .i64 S.value))
    (htop : 0 ≤ S.top ∧ S.top ≤ 1099511627776) (hc : S.kind = 2 → Cand w (.slice A len cp) p.h p.o p.c a.c ∧ a.c ≠ [] ∧ a.c.length ≤ 100000) :
    Calls Try.prog 35 #[.pointer (some ⟨cb, 0, none⟩), .agg #[.int .i64 a.k, .int .i64 a.w, .bool a.m, .slice A len cp], .int .i64 draw] w fun e w' => e = .returned (.int .i64 (told S a draw)) ∧ Below w.heap.size w w' := by
  have c0 := hk.1
  have c1 := ht.1
  have c2 := hv.1
  have hcb : cb < w.heap.size := hk.lt
  by_cases h2 : S.kind = 2
  · have d2 : (S.kind == 2) = true := by simp [h2]
    obtain ⟨hC, hne, hl⟩ := hc h2
    obtain ⟨q, hq, e1, e2⟩ := drawn_at hne hl draw
    have e3 : told S a draw = a.c[q] := by unfold told; rw [if_pos h2, e2]; simp [List.getD, hq]
    have hx := hC.at_ q a.c[q] (List.getElem?_eq_getElem hq)
    have cx := hx.1
    have hxl : p.h < w.heap.size := hx.lt
    have hv0 := hC.v
    simp only [Value.slice.injEq] at hv0
    obtain ⟨rfl, rfl, rfl⟩ := hv0
    have hwk : IntKind.i64.wrap ((a.c.length : Int) - 1) = (a.c.length : Int) - 1 := by rw [IntKind.wrap_i64]; omega
    have HW := Lib.hid (fun (w : World) => wrap_is draw (IntKind.i64.wrap ((a.c.length : Int) - 1)) q (by rw [hwk]; exact e1) w)
    have HW2 := Lib.hid (fun (w : World) => wrap_is draw ((a.c.length : Int) - 1) q e1 w)
    have E3 := Lib.hid e3
    clear hC hx e1 e2 e3 hc hk ht hv hwk hne
    go_enter Try.func35, Try.ntmps35
    go_wp2_with fail
    go_quiet ((go_at_call 48; with_reducible (first | refine (HW2.out _).mono ?_ | refine (HW.out _).mono ?_); rintro e w' ⟨rfl, rfl⟩; exact ⟨rfl, _, rfl⟩))
    go_wp2_with fail
    go_ret
    exact ⟨ret_int E3.out.symm, below_drewN ((Below.refl _ _).alloc (Nat.le_refl _) _) _⟩
  · have d2 : (S.kind == 2) = false := by simp [h2]
    by_cases hm : a.m = true
    · have e3 : told S a draw = draw % (S.top + 1) := by unfold told; rw [if_neg h2, if_pos hm]
      have e1 : draw % (cap 1099511627776 S.top + 1) = draw % (S.top + 1) := by rw [cap_in htop.1 htop.2]
      have E3 := Lib.hid e3; have E1 := Lib.hid e1
      clear e1 e3 hc hk ht hv
      go_enter Try.func35, Try.ntmps35
      go_wp2_with fail
      refine (wrap_is _ _ _ E1.out _).mono ?_; rintro e w' ⟨rfl, rfl⟩
      go_wp2_with fail
      go_ret
      exact ⟨ret_int E3.out.symm, (Below.refl _ _).alloc (Nat.le_refl _) _⟩
    · have hm' : a.m = false := by simpa using hm
      have e3 : told S a draw = S.value := by unfold told; rw [if_neg h2, if_neg hm]
      have E3 := Lib.hid e3
      clear e3 hc hk ht hv
      go_enter Try.func35, Try.ntmps35
      go_wp2_with fail
      go_ret
      exact ⟨ret_int E3.out.symm, (Below.refl _ _).alloc (Nat.le_refl _) _⟩
def errE (S : St) (t : Int) : Int := if isT t = false ∨ (S.d t.toNat).k = 0 then 7 else 0
def fin (S : St) (t : Int) : St := if errE S t ≠ 0 then S else endS S t.toNat
def finV (S : St) (t draw : Int) : Int := if errE S t ≠ 0 then 0 else endV S t.toNat draw
set_option maxHeartbeats 2000000 in
theorem end_is (w : World) (cb : Nat) (S : St) (F : Nat → Prop) (n : Nat) (t draw : Int) (H : PAt w cb S F) (hG : CellM.Good S n) (hn : n ≤ 90000) :
    Calls Try.prog 21 #[.pointer (some ⟨cb, 0, none⟩), .int .i64 t, .int .i64 draw] w fun e w' => e = .returned (.tuple #[.int .i64 (finV S t draw), .int .i64 (errE S t)]) ∧ Now w w' cb (fin S t) F := by
  by_cases ht : isT t = true
  · obtain ⟨h0, h8⟩ := isT_iff ht
    obtain ⟨j, rfl⟩ := Int.eq_ofNat_of_zero_le h0
    have hj : j < 8 := by omega
    have hcb : cb < w.heap.size := H.kind.lt
    have htn : ((j : Int)).toNat = j := by omega
    by_cases hi : (S.d j).k = 0
    · have ct := (H.k hj).1
      have d0 : ((S.d j).k == 0) = true := by simp [hi]
      have he : errE S j = 7 := by unfold errE; rw [htn, if_pos (.inr hi)]
      have hf : fin S j = S := by unfold fin; rw [he]; simp
      have hv : finV S j draw = 0 := by unfold finV; rw [he]; simp
      have E := Lib.hid (And.intro he (And.intro hf hv)); have HH := Lib.hid H; clear he hf hv H hG
      go_enter Try.func21, Try.ntmps21
      go_wp2_with fail
      refine (isThread_any _ _).mono ?_; rintro e w' ⟨rfl, rfl⟩
      go_wp2_with fail
      go_ret2
      exact ⟨ret_2 E.out.2.2.symm E.out.1.symm, by rw [E.out.2.1]; exact Now.of HH.out (Below.refl _ _)⟩
    · have d0 : ((S.d j).k == 0) = false := by simp [hi]
      have he : errE S j = 0 := by unfold errE; rw [htn, if_neg (by rw [ht]; simp [hi])]
      have hf : fin S j = endS S j := by unfold fin; rw [he, htn]; simp
      have hv : finV S j draw = endV S j draw := by unfold finV; rw [he, htn]; simp
      obtain ⟨rb, V, pl, hD⟩ := H
      have hA := hD.acc j hj
      have c0 := hA.k.1
      have f0 := hA.k.2
      have c1 := hA.w_.1
      have f1 := hA.w_.2
      have c2 := hA.m.1
      have f2 := hA.m.2
      have c3 := hA.c.1
      have f3 := hA.c.2
      obtain ⟨A, m, c, hVj⟩ := hD.slot hj
      rw [hVj] at c3
      by_cases hk2 : (S.d j).k = 2
      · have d2 : ((S.d j).k == 2) = true := by simp [hk2]
        have cv := hD.value.1
        have fv := hD.value.2
        have E := Lib.hid (And.intro he (And.intro hf hv)); have HD := Lib.hid (And.intro hD hG); clear he hf hv hD hG hA hVj
        go_enter Try.func21, Try.ntmps21
        go_wp2_with fail
        refine (isThread_any _ _).mono ?_; rintro e w' ⟨rfl, rfl⟩
        go_wp2_with fail
        go_ret2
        have hP := HD.out.1.set (p' := ⟨0, 0, 0⟩) (F' := F) hj ((store4_kept w cb (3 + j * 4) idle (.slice none 0 0)).mono (fun p hp => .inl hp)) (HD.out.1.acc j hj).store4 (fun _ hb => hb) (fun _ => rfl) (fun h => absurd rfl h)
        have hP2 : PAt (((CellM.store4 w cb (3 + j * 4) idle (.slice none 0 0)).setCell ⟨cb, 2, none⟩ (.int .i64 (S.d j).w)).alloc (.cells #[.int .i64 2, .int .i64 (S.d j).w, .bool (S.d j).m, .slice A m c] 73)) cb (setV (put S j idle) (S.d j).w) F := PAt.alloc ⟨rb, _, _, hP.setV _⟩ _
        have hst := ((store4_step w cb (3 + j * 4) idle (.slice none 0 0) HD.out.1.cF).setCell (p := ⟨cb, 2, none⟩) (.inl HD.out.1.cF) (.int .i64 (S.d j).w)).alloc (.cells #[.int .i64 2, .int .i64 (S.d j).w, .bool (S.d j).m, .slice A m c] 73)
        have hvd : endV S j draw = 0 := by unfold endV; rw [if_pos hk2]
        have hfd : endS S j = setV (put S j idle) (S.d j).w := by unfold endS; rw [if_pos hk2]
        refine ⟨ret_2 (by rw [E.out.2.2, hvd]) E.out.1.symm, ?_⟩
        rw [E.out.2.1, hfd]
        exact ⟨hP2.mono (fun _ hb => .inl hb), hst⟩
      · have d2 : ((S.d j).k == 2) = false := by simp [hk2]
        have E := Lib.hid (And.intro he (And.intro hf hv)); have HD := Lib.hid (And.intro hD (And.intro hG hVj)); clear he hf hv hD hG hA hVj
        go_enter Try.func21, Try.ntmps21
        go_wp2_with fail
        refine (isThread_any _ _).mono ?_; rintro e w' ⟨rfl, rfl⟩
        have hP := HD.out.1.set (p' := ⟨0, 0, 0⟩) (F' := F) hj ((store4_kept w cb (3 + j * 4) idle (.slice none 0 0)).mono (fun p hp => .inl hp)) (HD.out.1.acc j hj).store4 (fun _ hb => hb) (fun _ => rfl) (fun h => absurd rfl h)
        have hP2 : PAt ((CellM.store4 w cb (3 + j * 4) idle (.slice none 0 0)).alloc (.cells #[.int .i64 (S.d j).k, .int .i64 (S.d j).w, .bool (S.d j).m, .slice A m c] 73)) cb (put S j idle) F := PAt.alloc ⟨rb, _, _, hP⟩ _
        have hst := (store4_step w cb (3 + j * 4) idle (.slice none 0 0) HD.out.1.cF).alloc (.cells #[.int .i64 (S.d j).k, .int .i64 (S.d j).w, .bool (S.d j).m, .slice A m c] 73)
        have hCand : S.kind = 2 → Cand ((CellM.store4 w cb (3 + j * 4) idle (.slice none 0 0)).alloc (.cells #[.int .i64 (S.d j).k, .int .i64 (S.d j).w, .bool (S.d j).m, .slice A m c] 73)) (.slice A m c) (pl j).h (pl j).o (pl j).c (S.d j).c ∧ (S.d j).c ≠ [] ∧ (S.d j).c.length ≤ 100000 := fun h2 => by
          have hk1 : (S.d j).k = 1 := by rcases HD.out.2.1.k j with h | h | h <;> omega
          have hne := HD.out.2.1.r j h2 hk1
          have hc := HD.out.1.cand j hj hne
          rw [HD.out.2.2] at hc
          exact ⟨(hc.keep (store4_kept _ _ _ _ _) (fun k _ hq => (HD.out.1.place j hj hne).1 hq.1)).alloc _, hne, by have := HD.out.2.1.n j; omega⟩
        have hN : Now w ((CellM.store4 w cb (3 + j * 4) idle (.slice none 0 0)).alloc (.cells #[.int .i64 (S.d j).k, .int .i64 (S.d j).w, .bool (S.d j).m, .slice A m c] 73)) cb (put S j idle) F := ⟨hP2.mono (fun _ hb => .inl hb), hst⟩
        have HN := Lib.hid hN
        have HT := Lib.hid (told_is ((CellM.store4 w cb (3 + j * 4) idle (.slice none 0 0)).alloc (.cells #[.int .i64 (S.d j).k, .int .i64 (S.d j).w, .bool (S.d j).m, .slice A m c] 73)) cb (put S j idle) (S.d j) A m c draw (pl j) hP2.kind hP2.top hP2.value HD.out.2.1.top hCand)
        clear hP hP2 hst hCand hN
        go_wp2_with fail
        refine HT.out.mono ?_; rintro e w' ⟨rfl, hB⟩
        have HB := Lib.hid hB; clear hB
        go_wp2_with fail
        go_ret2
        have hvd : endV S j draw = told (put S j idle) (S.d j) draw := by unfold endV; rw [if_neg hk2]; rfl
        have hfd : endS S j = put S j idle := by unfold endS; rw [if_neg hk2]
        refine ⟨ret_2 (by rw [E.out.2.2, hvd]) E.out.1.symm, ?_⟩
        rw [E.out.2.1, hfd]
        exact ⟨HN.out.at_.below HB.out, HN.out.step.trans (.of_below HB.out)⟩
  · have ht' := isT_not ht
    have he : errE S t = 7 := by unfold errE; rw [if_pos (.inl ht')]
    have hf : fin S t = S := by unfold fin; rw [he]; simp
    have hv : finV S t draw = 0 := by unfold finV; rw [he]; simp
    have E := Lib.hid (And.intro he (And.intro hf hv)); have HH := Lib.hid H; clear he hf hv H hG
    go_enter Try.func21, Try.ntmps21
    go_wp2_with fail
    refine (isThread_any _ _).mono ?_; rintro e w' ⟨rfl, rfl⟩
    go_wp2_with fail
    go_ret2
    exact ⟨ret_2 E.out.2.2.symm E.out.1.symm, by rw [E.out.2.1]; exact Now.of HH.out (Below.refl _ _)⟩
end Go.Proofs.Ytdfkmkflcnfchaa
