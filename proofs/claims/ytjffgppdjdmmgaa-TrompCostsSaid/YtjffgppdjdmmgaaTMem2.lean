/- tape's Mem: goesOn, Note. Own work. -/
import Derived.Test.YtjffgppdjdmmgaaTMem
namespace Go.Proofs.Ytjffgppdjdmmgaa
open Go.ChangeShapes Go.WideShapes Go.ChangeAt Go.RowKit CellM TapeM

section
variable {w : World} {mb : Nat} {ph : Int} {AA : Option Addr} {ac : Nat} {ans : List Int} {S : TS} {F : Nat → Prop}
theorem goesOn_is (H : PT w mb ph AA ac ans S F) (b : Bool) (hb : (ph == 1) = b) : Calls Try.prog 51 #[.pointer (some ⟨mb, 0, none⟩)] w fun e w' => e = .returned (.bool b) ∧ w = w' := by
  have c0 := H.c0.1
  have HB := Lib.hid hb; clear hb
  go_enter Try.func51, Try.ntmps51
  go_wp2_with fail
  go_ret
  exact ⟨ret_bool HB.out, rfl⟩
theorem note_nn (S : TS) (k : Int) (j : Nat) : nn (noteT S k) j = if j = 1 then S.nts.length + 1 else nn S j := by
  unfold nn noteT
  split
  · simp
  · simp
  · rename_i _ h1
    rw [if_neg (fun e => h1 e)]
theorem note_xx (S : TS) (k : Int) (j : Nat) : xx (noteT S k) j = if j = 1 then flatNt S.nts ++ cellsNt ⟨k, S.acc.length⟩ else xx S j := by
  unfold xx noteT
  split
  · simp
  · simp [flatNt, List.flatMap_append]
  · rename_i _ h1
    rw [if_neg (fun e => h1 e)]
theorem TAtD.note {w1 W : World} {v : Nat → Value} {A : Nat → Option Addr} {h c : Nat → Nat} (H : TAtD W mb v AA ac ans S F A h c) (hb : Below W.heap.size W w)
    {v' : Value} (k : Int) (hO : OntoK w w1 v' 2 (A 1) (h 1) (c 1) S.nts.length (flatNt S.nts) (cellsNt ⟨k, S.acc.length⟩)) :
    ∃ A' c', v' = .slice A' (S.nts.length + 1) c' ∧ Has w1 ⟨mb, 4, none⟩ (.slice (A 1) S.nts.length (c 1)) ∧ TNow W (w1.setCell ⟨mb, 4, none⟩ v') mb v AA ac ans (noteT S k) F := by
  obtain ⟨⟨A', c', hv⟩, hh⟩ := H.spot hb (i := 1) (by decide) hO.onto
  exact ⟨A', c', hv, hh, TNow.before hb ((H.grow hb).app (i := 1) (by decide) hO.onto (fun j _ => note_nn S k j) (fun j _ => note_xx S k j)) H.more⟩
theorem app_zeros {w : World} {ops : Array Oper} {o : Oper} {rest : List Oper} {a : Act} {Q : Exit → Act → World → Prop} (hgd : o.guard = none) (s x : Operand)
    (ho : o.op = .call { callee := .builtin .append, args := #[s, x], argTypes := #[24, 3] }) {A : Option Addr} {h c n : Nat} {l : List Int} (H : RowK w 1 A h c n (valsI l)) (m : Nat) (h0 : 0 < m) (hm : n + m ≤ 1000000)
    (hs : a.eval s = .slice A n c) (mi : Int) (hx : a.eval x = .int .i64 mi) (hmi : mi = m) (hK : ∀ v' w', Onto w w' v' 1 h c (n + m) (valsI (l ++ List.replicate m 0)) → wpList Try.prog ops Q rest (a.put o.dst v') w') :
    wpList Try.prog ops Q (o :: rest) a w := by
  subst hmi
  refine wpList_plain hgd fun K' hK' => ?_
  obtain ⟨v', w', hrun, hO⟩ := run_app_zeros H m h0 hm o.type
  unfold Oper.wp
  simp [execOp, ho, resolve, invoke, builtin, hs, hx, hrun, Result.andThen]
  exact hK' _ _ (hK v' w' hO)
theorem pad_nn (S : TS) (n : Nat) (hn : S.loc.length < n) (j : Nat) (hj : j < 3) : nn ⟨S.acc, S.nts, padL S.loc n⟩ j = if j = 2 then S.loc.length + (n - S.loc.length) else nn S j := by
  match j, hj with
  | 0, _ => rfl
  | 1, _ => rfl
  | 2, _ =>
    show (padL S.loc n).length = _
    rw [if_pos rfl, pad_len]; omega
theorem TAtD.pad {w1 W : World} {v : Nat → Value} {A : Nat → Option Addr} {h c : Nat → Nat} (H : TAtD W mb v AA ac ans S F A h c) {v' : Value} (n : Nat) (hn : S.loc.length < n)
    (hO : Onto W w1 v' 1 (h 2) (c 2) (S.loc.length + (n - S.loc.length)) (valsI (S.loc ++ List.replicate (n - S.loc.length) 0))) :
    (∃ A' c', v' = .slice A' n c') ∧ Has w1 ⟨mb, 5, none⟩ (.slice (A 2) S.loc.length (c 2)) ∧ TNow W (w1.setCell ⟨mb, 5, none⟩ v') mb v AA ac ans ⟨S.acc, S.nts, padL S.loc n⟩ F := by
  obtain ⟨⟨A', c', hv⟩, hh⟩ := H.spot (Below.refl _ _) (i := 2) (by decide) hO
  rw [show S.loc.length + (n - S.loc.length) = n by omega] at hv
  refine ⟨⟨A', c', hv⟩, hh, H.app (i := 2) (by decide) hO (fun j hj => pad_nn S n hn j hj) (fun j hj => ?_)⟩
  · match j, hj with
    | 0, _ => rfl
    | 1, _ => rfl
    | 2, _ => rfl
set_option maxHeartbeats 4000000 in
theorem setM_is (H : PT w mb 1 AA ac ans S F) (hs : S.loc.length ≤ 32768) (i v : Int) :
    Calls Try.prog 48 #[.pointer (some ⟨mb, 0, none⟩), .int .i64 i, .int .i64 v] w fun e w' => e = .returned (.tuple #[]) ∧ PN w w' mb 1 AA ac ans (setT S i v) F := by
  have HG := Lib.hid (goesOn_is H true rfl)
  by_cases h0 : i < 0
  · have hS : setT S i v = S := by unfold setT setL; rw [if_neg (by omega)]
    have HN := Lib.hid (TNow.of H (Below.refl _ _))
    have HS := Lib.hid hS
    clear hS H
    go_enter Try.func48, Try.ntmps48
    go_wp2_with fail
    refine HG.out.mono ?_; rintro e w' ⟨rfl, rfl⟩
    go_wp2_with fail
    first | go_end0 | refine bodyPost_ret (results_none rfl _ _ _) rfl ?_
    rw [HS.out]
    exact ⟨rfl, HN.out⟩
  · by_cases h1 : 32768 ≤ i
    · have hS : setT S i v = S := by unfold setT setL; rw [if_neg (by omega)]
      have HN := Lib.hid (TNow.of H (Below.refl _ _))
      have HS := Lib.hid hS
      clear hS H
      go_enter Try.func48, Try.ntmps48
      go_wp2_with fail
      refine HG.out.mono ?_; rintro e w' ⟨rfl, rfl⟩
      go_wp2_with fail
      first | go_end0 | refine bodyPost_ret (results_none rfl _ _ _) rfl ?_
      rw [HS.out]
      exact ⟨rfl, HN.out⟩
    · obtain ⟨k, rfl⟩ := Int.eq_ofNat_of_zero_le (show 0 ≤ i by omega)
      have hk : k < 32768 := by omega
      obtain ⟨A, h, c, hD⟩ := H
      have hmb : mb < w.heap.size := hD.rows.p 0 (by decide) |>.lt
      have p5 : w.cell? ⟨mb, 5, none⟩ = some (.slice (A 2) S.loc.length (c 2)) := (hD.rows.p 2 (by decide)).1
      have q5 : w.frozen? ⟨mb, 5, none⟩ = false := (hD.rows.p 2 (by decide)).2
      by_cases hlt : k < S.loc.length
      · have hS : setT S k v = ⟨S.acc, S.nts, S.loc.set k v⟩ := by
          unfold setT setL padL
          rw [if_pos (by omega), show ((k : Int).toNat + 1 - S.loc.length) = 0 by omega]
          simp
        obtain ⟨g5, hh⟩ := hD.place hlt
        rw [p5] at g5
        have hA : A 2 = some ⟨h 2, 0, none⟩ := by simp only [Option.some.injEq, Value.slice.injEq] at g5; exact g5.1
        rw [hA] at p5
        have e1 := hh.1
        have f1 := hh.2
        have hm : (k : Int) + 1 - S.loc.length ≤ 0 := by omega
        have HN := Lib.hid (hD.setI hlt v)
        have HS := Lib.hid hS
        clear hS hD hA g5 hh h0 h1
        go_enter Try.func48, Try.ntmps48
        go_wp2_with fail
        refine HG.out.mono ?_; rintro e w' ⟨rfl, rfl⟩
        go_wp2_with fail
        go_end0
        rw [HS.out]
        exact ⟨rfl, HN.out⟩
      · have hm : 0 < (k : Int) + 1 - S.loc.length := by omega
        have HR := Lib.hid (hD.rows.r 2 (by decide))
        have hcast : (k : Int) + 1 - S.loc.length = ((k + 1 - S.loc.length : Nat) : Int) := by omega
        have HC := Lib.hid hcast
        have HP := Lib.hid (fun (w1 : World) (v' : Value) hO => hD.pad (w1 := w1) (v' := v') (k + 1) (by omega) hO)
        clear hD hcast h0 h1
        go_enter Try.func48, Try.ntmps48
        go_wp2_with fail
        refine HG.out.mono ?_; rintro e w' ⟨rfl, rfl⟩
        go_wp2_with (at_builtin; refine app_zeros rfl _ _ rfl HR.out (k + 1 - S.loc.length) (by omega) (by show S.loc.length + _ ≤ _; omega) rfl _ rfl HC.out ?_)
        intro v' w1 hO
        obtain ⟨⟨A', c', rfl⟩, hh, hN⟩ := HP.out _ _ hO
        have e1 := hh.1
        have f1 := hh.2
        obtain ⟨A2, h2, c2, hE⟩ := hN.at_
        have hpl : (padL S.loc (k + 1)).length = k + 1 := by rw [pad_len]; omega
        have hkl : k < (padL S.loc (k + 1)).length := by omega
        obtain ⟨g5, hh5⟩ := hE.place hkl
        rw [World.cell?_setCell_same _ _ _ e1] at g5
        have hA : A' = some ⟨h2 2, 0, none⟩ := by simp only [Option.some.injEq, Value.slice.injEq] at g5; exact g5.1
        subst hA
        have hN2 := TNow.trans hN (hE.setI hkl v)
        obtain ⟨W2, hW2⟩ : ∃ W2, W2 = w1.setCell ⟨mb, 5, none⟩ (.slice (some ⟨h2 2, 0, none⟩) (k + 1) c') := ⟨_, rfl⟩
        rw [← hW2] at hN2 hh5
        have p5 : W2.cell? ⟨mb, 5, none⟩ = some (.slice (some ⟨h2 2, 0, none⟩) (k + 1) c') := by rw [hW2]; exact World.cell?_setCell_same _ _ _ e1
        obtain ⟨x2, e2, f2⟩ : ∃ x, Has W2 ⟨h2 2, k, none⟩ x := ⟨_, hh5⟩
        have hS : setT S k v = ⟨S.acc, S.nts, (padL S.loc (k + 1)).set k v⟩ := by
          unfold setT setL
          rw [if_pos (by omega)]
          simp
        have HN := Lib.hid hN2
        have HS := Lib.hid hS
        have HW := Lib.hid hW2
        clear hS hN2 hW2 hh5 g5 hE hN hO hpl hkl hh
        go_upto_region 4 with fail
        rw [← HW.out]
        go_wp2_with fail
        go_end0
        rw [HS.out]
        exact ⟨rfl, HN.out⟩
end
end Go.Proofs.Ytjffgppdjdmmgaa
