/- Contracts of stamps' calls that make rows: withDigit, slices.Clone, slices.Grow, slices.Concat, others. Own work. -/
import Derived.Test.YtdkliknnnolngaaDoorStP
import Derived.Laws.BytesArg
namespace Go.Proofs.YtdkliknnnolngaaDoor
open Go.ChangeShapes Go.WideShapes Go.ChangeAt Go.RowKit Cyc

set_option maxHeartbeats 400000 in
theorem withDigit_is (A : Option Addr) (c n a : Nat) (d : Int) (L : List (List Int)) (hn : L.length = n) (h1000 : n ≤ 1000) (ha : ∀ r ∈ L, a < r.length) (w0 w : World) (vs : List Value) (hv : RV w A c vs) (hV : Vals w0 vs L)
    (hb : Below w0.heap.size w0 w) (M : List (List Int)) (hM : withL L a d = M) :
    Calls Tryd.prog 38 #[.slice A n c, .int .i64 a, .int .i64 d] w (GivesV w0 w M) := by
  subst hn
  have R : Hid (RR w A c L) := Lib.hid ⟨vs, hv, hV.below hb⟩
  have RVh := Lib.hid hv
  have VV := Lib.hid hV
  have hlen := hV.1
  have HA := Lib.hid ha; clear ha
  have HM := Lib.hid hM; clear hM
  have HB0 := Lib.hid hb
  clear hv hV hb
  go_enter Tryd.func38, Tryd.ntmps38
  go_wp2_with fail
  go_loopw [7, 12] (fun v i wr => ∃ (j : Nat) (us : List Value), j ≤ L.length ∧ i = .int .i64 j ∧ OwnV wr w.heap.size v us ∧ Hid (Vals w0 us (withL (L.take j) a d)) ∧ Below w.heap.size w wr) (fun _ i _ => L.length - (intOf i).toNat)
  case atStart => exact ⟨0, [], by omega, rfl, OwnV.nil _ _, Lib.hid (by simpa [withL] using Vals.nil w0), Below.refl _ _⟩
  case round =>
    obtain ⟨j, us, hj, rfl, hown, hU, hB⟩ := hrel
    by_cases hlt : j < L.length
    · have hlt' : j < vs.length := by omega
      obtain ⟨A', c', hget, hri0⟩ := VV.out.get hlt
      obtain ⟨ad, e, hc0⟩ := RVh.out.at_ hlt'
      subst e
      rw [List.getElem?_eq_getElem hlt'] at hget
      have hget' : vs[j] = .slice A' L[j].length c' := by simpa using hget
      rw [hget'] at hc0
      have hc : wr.cell? (ad.add j) = some (.slice A' L[j].length c') := (hB.cell (cell_lt hc0)).trans hc0
      have hal : a < L[j].length := HA.out _ (List.getElem_mem hlt)
      have hal' : (a : Int) < L[j].length := by omega
      have hri : RI wr A' c' L[j] := (hri0.below HB0.out).below (by exact hB)
      obtain ⟨ad', rfl, hc'⟩ := hri.at_ hal
      have hm' := hri.max
      unfold maxLen at hm'
      have hT := withL_take (d := d) hlt hal
      have hul : us.length ≤ j := by
        rw [hU.out.1]
        have := withL_len (L.take j) a d
        rw [List.length_take] at this
        omega
      clear hc0 hget hget'
      by_cases hd : L[j][a] = d
      · rw [if_pos hd] at hT
        have hVI : VI w0 (.slice (some ad') L[j].length c') L[j] := VI.of hri0
        have U2 : Hid (Vals w0 (us ++ [.slice (some ad') L[j].length c']) (withL (L.take (j + 1)) a d)) := Lib.hid (by rw [hT]; exact hU.out.snoc hVI)
        have hd1 : (L[j][a] == d) = true := by simp [hd]
        clear hd hT hVI hri hri0
        go_wp2_with (at_builtin; refine app_vals rfl _ _ rfl w.heap.size _ us rfl (hown.alloc _) (some ⟨wr.heap.size, 0, none⟩) 1 1 [.slice (some ad') L[j].length c'] rfl (rv_lit wr _ _ 1 rfl (by decide) _ rfl) rfl ?c1 ?c2 ?c3 ?_)
        case c1 => intro u hu; simp at hu; subst hu; rfl
        case c2 => simp; omega
        case c3 => have := hB.size; simp; omega
        intro v' w1 hown' hB1
        have h2 : Below w.heap.size w w1 := (hB.alloc hB.size _).trans hB1
        clear hB1
        go_wp2
        go_roundw
        case rel => exact ⟨j + 1, _, by omega, by go_num, hown', U2, h2⟩
        case measure => simp [intOf]; omega
      · rw [if_neg hd, List.append_nil] at hT
        have U2 : Hid (Vals w0 us (withL (L.take (j + 1)) a d)) := Lib.hid (by rw [hT]; exact hU.out)
        have hd1 : (L[j][a] == d) = false := by simp [hd]
        clear hd hT hri hri0
        go_wp2_with fail
        go_roundw
        case rel => exact ⟨j + 1, us, by omega, by go_num, hown, U2, hB⟩
        case measure => simp [intOf]; omega
    · obtain rfl : j = L.length := by omega
      have F : Hid (Vals w0 us M) := Lib.hid (by rw [← HM.out]; have := hU.out; rwa [List.take_length] at this)
      clear hU
      go_wp2_with fail
      go_ret
      exact ⟨_, us, rfl, hown, F.out, hB⟩
/-- A row of ints of the call's own. -/
def GivesI (w : World) (l : List Int) (e : Ending) (w' : World) : Prop := ∃ v, e = .returned v ∧ OwnI w' w.heap.size v l ∧ Below w.heap.size w w'
theorem eql_nil_i (w : World) (A : Option Addr) (n c : Nat) : (binOp .eql 31 (.slice A n c) (.slice none 0 0)).run Tryd.prog w = .ok (.bool A.isNone) w :=
  Lib.run_eql_slice_nil w _ _ A n c 0 0 Tryd.underlying31
theorem clone_is (A : Option Addr) (c n : Nat) (l : List Int) (hn : l.length = n) (h1000 : n ≤ 1000) (w : World) (hr : RI w A c l) :
    Calls Tryd.prog 27 #[.slice A n c] w (GivesI w l) := by
  subst hn
  have R := Lib.hid hr; clear hr
  cases A with
  | none =>
    have h0 := R.out.2.2.1 rfl
    have h1 := R.out.1
    obtain rfl : l = [] := List.eq_nil_of_length_eq_zero (by omega)
    subst h0
    have q : ∀ w, (binOp .eql 31 (.slice none 0 0) (.slice none 0 0)).run Tryd.prog w = .ok (.bool true) w := fun w => eql_nil_i w none 0 0
    go_enter Tryd.func27, Tryd.ntmps27
    go_wp2_with fail
    go_ret
    exact ⟨_, rfl, OwnI.nil _ _, Below.refl _ _⟩
  | some ad =>
    have hO : OwnI (w.alloc (.cells #[] 3)) w.heap.size (.slice (some ⟨w.heap.size, 0, none⟩) 0 0) [] := by
      unfold OwnI
      exact World.ownsRow_lit (e := 3) (size := 1) w #[] 0 (Nat.le_refl _) (by decide) (by simp)
    have q : ∀ w, (binOp .eql 31 (.slice (some ad) l.length c) (.slice none 0 0)).run Tryd.prog w = .ok (.bool false) w := fun w => eql_nil_i w (some ad) l.length c
    go_enter Tryd.func27, Tryd.ntmps27
    go_wp2_with (at_builtin; refine app_ints rfl _ _ rfl w.heap.size _ [] rfl hO (some ad) l.length c l rfl (R.out.alloc _) rfl ?c1 ?c2 ?_)
    case c1 => simp; omega
    case c2 => simp
    intro v' w1 hown' hB1
    have h2 : Below w.heap.size w w1 := ((Below.refl w.heap.size w).alloc (Nat.le_refl _) _).trans hB1
    have h3 : OwnI w1 w.heap.size v' l := by simpa using hown'
    clear hB1 hown'
    go_wp2
    go_ret
    exact ⟨_, rfl, h3, h2⟩
/-! Grow, Concat, others -/
theorem run_append_make (w : World) (ty : TypeId) (n : Nat) (h0 : 0 < n) (h1 : n ≤ 1000000) : ∃ C cs, n ≤ C ∧ C ≤ maxLen ∧ cs.size = C * 1 ∧
    (Builtin.append_ #[22, 3] ty #[.slice none 0 0, .int .i64 n]).run Tryd.prog w = .ok (.slice (some ⟨w.heap.size, 0, none⟩) n C) (w.drew.alloc (.cells cs 31)) := by
  obtain ⟨i0, hi, hz0, hz1, hz2⟩ := info_parts infoInts
  have hw : IntKind.i64.wrap (n : Int) = (n : Int) := by rw [IntKind.wrap_i64]; omega
  have n1 : ¬ (n : Int) < 0 := by omega
  have hn : n ≠ 0 := by omega
  have h63' : ¬ (9223372036854775807 < (n : Int)) := by omega
  have h48 : ¬ ((n : Int) * (i0.bytes : Int) > 281474976710656) := by rw [hz2]; omega
  have h48' : ¬ (281474976710656 < Builtin.nextslicecap n 0 * i0.bytes) := by rw [nextslicecap_zero h0, hz2]; omega
  have hge := grownCap_ge w n 0 31
  refine ⟨grownCap w n 0 31, Builtin.zeroCells (Value.slice none 0 0).cells n ++ Builtin.zeroCells (Value.slice none 0 0).cells (grownCap w n 0 31 - n), hge, grownCap_le_maxLen w n 0 31 (by unfold maxLen; omega), ?_, ?_⟩
  · rw [Array.size_append, size_zeroCells, size_zeroCells, show (Value.slice none 0 0).cells.size = 1 from rfl]; omega
  · simp [Builtin.append_, run_underlying Tryd.underlying22, run_underlying Tryd.underlying3, asInt, asIntOf, sizeOf, typeInfo, zeroValue, hi, hz0, hz1, hw, n1, hn, h63', h48, h48', Question.forced, run_firstCells_none, newRow, grownCap]
theorem app_make {w : World} {ops : Array Oper} {rest : List Oper} {o : Oper} {a : Act} {Q : Exit → Act → World → Prop} (hgd : o.guard = none) (s x : Operand)
    (ho : o.op = .call { callee := .builtin .append, args := #[s, x], argTypes := #[22, 3] }) (n : Nat) (h0 : 0 < n) (h1 : n ≤ 1000000)
    (hs : a.eval s = .slice none 0 0) (hx : a.eval x = .int .i64 n)
    (h : ∀ C cs, n ≤ C → C ≤ maxLen → cs.size = C * 1 → wpList Tryd.prog ops Q rest (a.put o.dst (.slice (some ⟨w.heap.size, 0, none⟩) n C)) (w.drew.alloc (.cells cs 31))) : wpList Tryd.prog ops Q (o :: rest) a w := by
  refine wpList_plain hgd fun K hK => ?_
  obtain ⟨C, cs, hC, hCm, hcs, hrun⟩ := run_append_make w o.type n h0 h1
  unfold Oper.wp
  simp only [execOp, ho, resolve, invoke, builtin, Sem.run_bind, Sem.run_pure, Result.andThen_ok, List.map_toArray, List.map_cons, List.map_nil, hs, hx, hrun]
  exact hK _ _ (h C cs hC hCm hcs)
theorem grow_is (n : Nat) (h1 : n ≤ 1000000) (w : World) :
    Calls Tryd.prog 43 #[.slice none 0 0, .int .i64 n] w fun e w' => ∃ v, e = .returned v ∧ OwnV w' w.heap.size v [] ∧ Below w.heap.size w w' := by
  rcases Nat.eq_zero_or_pos n with rfl | h0
  · go_enter Tryd.func43, Tryd.ntmps43
    go_wp2_with fail
    go_ret
    exact ⟨_, rfl, OwnV.nil _ _, Below.refl _ _⟩
  · have s1 := slice_to none 0 0 0 (Nat.le_refl _)
    have h0' : (0 : Int) < n := by omega
    go_enter Tryd.func43, Tryd.ntmps43
    go_wp2_with (at_builtin; refine app_make rfl _ _ rfl n h0 h1 rfl rfl ?_)
    intro C cs hC hCm hcs
    have hO : OwnV (w.drew.alloc (.cells cs 31)) w.heap.size (.slice (some ⟨w.heap.size, 0, none⟩) 0 C) [] :=
      World.ownsRow_made (base := w.heap.size) (e := 31) (size := 1) w.drew cs C (Nat.le_refl _) hCm (by rw [Nat.mul_one]; exact hcs)
    have hB : Below w.heap.size w (w.drew.alloc (.cells cs 31)) := ((Below.refl w.heap.size w).drew).alloc (Nat.le_refl _) _
    have s2 := slice_to (some ⟨w.heap.size, 0, none⟩) n C 0 (Nat.zero_le _)
    clear hC hCm hcs
    go_wp2_with fail
    go_ret
    exact ⟨_, rfl, hO, hB⟩
set_option maxHeartbeats 800000 in
theorem concat_is (ad : Addr) (A1 A2 : Option Addr) (c n1 n2 c1 c2 : Nat) (us vs : List Value) (hn1 : us.length = n1) (hn2 : vs.length = n2) (h1000 : n1 + n2 ≤ 1000) (w : World)
    (hc : RV w (some ad) c [.slice A1 n1 c1, .slice A2 n2 c2]) (hu : RV w A1 c1 us) (hv : RV w A2 c2 vs) (ho1 : ∀ u ∈ us, u.oneCell' = true) (ho2 : ∀ u ∈ vs, u.oneCell' = true) :
    Calls Tryd.prog 40 #[.slice (some ad) 2 c] w fun e w' => ∃ v, e = .returned v ∧ OwnV w' w.heap.size v (us ++ vs) ∧ Below w.heap.size w w' := by
  obtain ⟨ad', e, hc0⟩ := hc.at_ (k := 0) (by simp)
  cases e
  obtain ⟨ad', e, hc1⟩ := hc.at_ (k := 1) (by simp)
  cases e
  have hc00 : w.cell? ad = some (.slice A1 n1 c1) := by simpa [Addr.add] using hc0
  replace hc1 : w.cell? { block := ad.block, off := ad.off + 1 } = some (.slice A2 n2 c2) := by simpa [Addr.add] using hc1
  clear hc0 hc
  have U := Lib.hid hu; have V := Lib.hid hv
  have O1 := Lib.hid ho1; have O2 := Lib.hid ho2
  have N1 := Lib.hid hn1; have N2 := Lib.hid hn2
  clear hu hv ho1 ho2 hn1 hn2
  have e1 : ((0 : Nat) : Int) = 0 := rfl
  go_enter Tryd.func40, Tryd.ntmps40
  go_wp2_with fail
  go_loop [3, 11] (fun s i => (s = .int .i64 0 ∧ i = .int .i64 0) ∨ (s = .int .i64 n1 ∧ i = .int .i64 1) ∨ (s = .int .i64 (n1 + n2 : Nat) ∧ i = .int .i64 2)) (fun _ i => 2 - (intOf i).toNat)
  case atStart => exact .inl ⟨rfl, rfl⟩
  case round =>
    rcases hrel with ⟨rfl, rfl⟩ | ⟨rfl, rfl⟩ | ⟨rfl, rfl⟩
    · go_wp2_with fail
      go_round
      case rel => exact .inr (.inl ⟨by go_num, by go_num⟩)
      case measure => decide
    · go_wp2_with fail
      go_round
      case rel => exact .inr (.inr ⟨by go_num, by go_num⟩)
      case measure => decide
    · go_wp2_with fail
      refine (grow_is (n1 + n2) (by omega) _).mono ?_; rintro e w1 ⟨v0, rfl, hown0, hB0⟩
      go_wp2_with fail
      go_loopw [6, 27] (fun v i wr => Below w.heap.size w wr ∧ ((i = .int .i64 0 ∧ OwnV wr w.heap.size v []) ∨ (i = .int .i64 1 ∧ OwnV wr w.heap.size v us) ∨ (i = .int .i64 2 ∧ OwnV wr w.heap.size v (us ++ vs)))) (fun _ i _ => 2 - (intOf i).toNat)
      case atStart => exact ⟨hB0, .inl ⟨rfl, hown0⟩⟩
      case round =>
        obtain ⟨hB, hrel⟩ := hrel
        have hs := hB.size
        have q0 := (hB.cell (cell_lt hc00)).trans hc00
        have q1 := (hB.cell (cell_lt hc1)).trans hc1
        rcases hrel with ⟨rfl, hown⟩ | ⟨rfl, hown⟩ | ⟨rfl, hown⟩
        · go_wp2_with (at_builtin; refine app_vals rfl _ _ rfl w.heap.size _ _ rfl hown A1 n1 c1 us rfl (U.out.below hB) N1.out O1.out ?c1 hs ?_)
          case c1 => have := N1.out; simp; omega
          intro v' w2 hown' hB1
          have h2 := hB.trans hB1
          have h3 : OwnV w2 w.heap.size v' us := by simpa using hown'
          clear hB1 hown'
          go_wp2
          go_roundw
          case rel => exact ⟨h2, .inr (.inl ⟨by go_num, h3⟩)⟩
          case measure => decide
        · go_wp2_with (at_builtin; refine app_vals rfl _ _ rfl w.heap.size _ _ rfl hown A2 n2 c2 vs rfl (V.out.below hB) N2.out O2.out ?c1 hs ?_)
          case c1 => have := N1.out; have := N2.out; omega
          intro v' w2 hown' hB1
          have h2 := hB.trans hB1
          clear hB1
          go_wp2
          go_roundw
          case rel => exact ⟨h2, .inr (.inr ⟨by go_num, hown'⟩)⟩
          case measure => decide
        · go_wp2_with fail
          go_ret
          exact ⟨_, rfl, hown, hB⟩
end Go.Proofs.YtdkliknnnolngaaDoor
