/- The reference's Take, Same, Last. Own work. -/
import Derived.Test.YtdkliknnnolngaaDoorRefO
import Derived.Maps.AppendAt
namespace Go.Proofs.YtdkliknnnolngaaDoor
open Go.ChangeShapes Go.WideShapes Go.ChangeAt Go.RowKit Cyc

/-! rows that lie beside a row of the call's own -/
def ValsO (o : Option Nat) (w : World) (vs : List Value) (L : List (List Int)) : Prop :=
  vs.length = L.length ∧ ∀ (k : Nat) (l : List Int), L[k]? = some l → ∃ u, vs[k]? = some u ∧ ∃ A c, u = .slice A l.length c ∧ RI w A c l ∧ (0 < l.length → ∀ ad, A = some ad → some ad.block ≠ o)
section
variable {o o' : Option Nat} {w w' : World} {vs : List Value} {L : List (List Int)}
theorem ValsO.nil (o : Option Nat) (w : World) : ValsO o w [] [] := ⟨rfl, fun k l h => by simp at h⟩
theorem ValsO.vals (h : ValsO o w vs L) : Vals w vs L := ⟨h.1, fun k l hl => by
  obtain ⟨u, hu, A, c, e, hr, _⟩ := h.2 k l hl
  exact ⟨u, hu, A, c, e, hr⟩⟩
theorem ValsO.snoc {A : Option Addr} {c : Nat} {l : List Int} (h : ValsO o w vs L) (hr : RI w A c l) (ho : 0 < l.length → ∀ ad, A = some ad → some ad.block ≠ o) : ValsO o w (vs ++ [.slice A l.length c]) (L ++ [l]) := by
  refine ⟨by simp [h.1], fun k m hl => ?_⟩
  rcases Nat.lt_or_ge k L.length with hk | hk
  · rw [List.getElem?_append_left hk] at hl
    rw [List.getElem?_append_left (by rw [h.1]; exact hk)]
    exact h.2 k m hl
  · rw [List.getElem?_append_right hk] at hl
    rw [List.getElem?_append_right (by rw [h.1]; exact hk), h.1]
    cases hj : k - L.length with
    | zero => rw [hj] at hl; simp at hl; subst hl; exact ⟨_, rfl, A, c, rfl, hr, ho⟩
    | succ j => rw [hj] at hl; simp at hl
theorem ValsO.below (h : ValsO o w vs L) (hb : Below w.heap.size w w') : ValsO o w' vs L := ⟨h.1, fun k l hl => by
  obtain ⟨u, hu, A, c, e, hr, ho⟩ := h.2 k l hl
  exact ⟨u, hu, A, c, e, hr.below hb, ho⟩⟩
theorem ValsO.grown (h : ValsO o w vs L) (hg : w.grownBy w' o) : ValsO o w' vs L := ⟨h.1, fun k l hl => by
  obtain ⟨u, hu, A, c, e, hr, ho⟩ := h.2 k l hl
  refine ⟨u, hu, A, c, e, ⟨hr.1, hr.2.1, hr.2.2.1, fun j hj => ?_⟩, ho⟩
  obtain ⟨ad, ea, hc⟩ := hr.2.2.2 j hj
  exact ⟨ad, ea, hg.cell hc (by rw [add_block]; exact ho (by omega) ad ea)⟩⟩
theorem ValsO.other (h : ValsO o w vs L) (hg : w.grownBy w' o) (ho' : o' = o ∨ o' = some w.heap.size) : ValsO o' w' vs L := ⟨h.1, fun k l hl => by
  obtain ⟨u, hu, A, c, e, hr, ho⟩ := (h.grown hg).2 k l hl
  obtain ⟨u', hu', A', c', e', hr', _⟩ := h.2 k l hl
  rw [hu] at hu'; cases hu'; rw [e] at e'; cases e'
  refine ⟨u, hu, A, c, e, hr, fun h0 ad ea => ?_⟩
  rcases ho' with rfl | rfl
  · exact ho h0 ad ea
  · obtain ⟨ad', ea', hc⟩ := hr'.2.2.2 0 h0
    rw [ea] at ea'; cases ea'
    have := cell_lt hc
    rw [add_block] at this
    intro e'; have := Option.some.inj e'; omega⟩
end
theorem own_far {w : World} {B : Nat} {v : Value} {vs : List Value} (h : OwnV w B v vs) {k : Nat} (hk : k < B ∨ w.heap.size ≤ k) : some k ≠ v.ownBlock := fun e => by
  have := World.ownsRow.lt h k e.symm
  omega
theorem app_vals_o {w : World} {ops : Array Oper} {rest : List Oper} {o : Oper} {a : Act} {Q : Exit → Act → World → Prop} (hgd : o.guard = none) (s x : Operand)
    (ho : o.op = .call { callee := .builtin .append, args := #[s, x], argTypes := #[22, 22] })
    (base : Nat) (v : Value) (vs : List Value) (hs : a.eval s = v) (hown : OwnV w base v vs)
    (ad : Addr) (u : Value) (hx : a.eval x = .slice (some ad) 1 1) (hc : w.cell? ad = some u) (h1 : u.oneCell' = true)
    (hlen : vs.length ≤ 1000) (hbase : base ≤ w.heap.size)
    (h : ∀ v' w', OwnV w' base v' (vs ++ [u]) → w.grownBy w' v.ownBlock → (v'.ownBlock = v.ownBlock ∨ v'.ownBlock = some w.heap.size) → wpList Tryd.prog ops Q rest (a.put o.dst v') w') : wpList Tryd.prog ops Q (o :: rest) a w := by
  obtain ⟨i0, hi, hz0, hz1, hz2⟩ := info_parts infoInts
  refine wpList_append_own_at w hgd s x 22 ho base 31 i0 (.slice none 0 0) 1 24 Tryd.underlying22 hi hz0 hz1 hz2 rfl (by decide) v vs.length _ hs hown ad 1 1 [u] hx (by simp) ?_ ?_ (by unfold maxLen; omega) (by omega) hbase ?_
  · intro j y hy
    match j, hy with
    | 0, hy => simp at hy; subst hy; simpa [Addr.add] using hc
  · intro y hy; simp at hy; subst hy; exact h1
  · intro v' w1 hown' hgrow _ hb
    exact h v' w1 (by unfold OwnV; rw [List.length_append]; exact hown') hgrow hb
set_option maxHeartbeats 2000000 in
theorem takeR_is (A : Option Addr) (c n me : Nat) (L : List (List Int)) (hn : L.length = n) (hf : fineB L = true) (hme : me < n) (w : World) (hr : RR w A c L) (M : List (List Int)) (hM : takeL L me = M) :
    Calls Tryd.prog 21 #[.slice A n c, .int .i64 me] w fun e w' => ∃ A c, e = .returned (.slice A n c) ∧ RR w' A c M ∧ Below w.heap.size w w' := by
  have hF := fineB_iff.1 hf
  rw [hn] at hF
  have hmax : n ≤ 8 := hF.2.1
  have R := Lib.hid hr
  have HN := Lib.hid hn
  have RE := Lib.hid (rows_erase hf me)
  have HM := Lib.hid hM
  have HF := Lib.hid hF
  have hmei : (me : Int) < n := by omega
  clear hr hM hf hF
  go_enter Tryd.func21, Tryd.ntmps21
  go_wp2_with fail
  go_loopw [5, 7] (fun v i wr => ∃ (x : Nat) (us : List Value), x ≤ n ∧ i = .int .i64 x ∧ OwnV wr w.heap.size v us ∧ Hid (Vals w us ((L.take x).eraseIdx me)) ∧ Below w.heap.size w wr) (fun _ i _ => n - (intOf i).toNat)
  case atStart => exact ⟨0, [], by omega, rfl, OwnV.nil _ _, Lib.hid (by simpa using Vals.nil w), Below.refl _ _⟩
  case round =>
    obtain ⟨x, us, hx, rfl, hown, hU, hB⟩ := hrel
    by_cases hlt : x < n
    · have hltL : x < L.length := by rw [HN.out]; exact hlt
      obtain ⟨ad, A1, c1, hA, hc0, hr1⟩ := R.out.at_ hltL
      subst hA
      have hc1 := (hB.cell (cell_lt hc0)).trans hc0
      have hul : us.length ≤ x := by
        rw [hU.out.1]
        have := List.length_eraseIdx_le (L.take x) me
        rw [List.length_take] at this; omega
      clear hc0
      by_cases he : x = me
      · have hd1 : ((x : Int) != (me : Int)) = false := by simp [he]
        have U2 : Hid (Vals w us ((L.take (x + 1)).eraseIdx me)) := Lib.hid (by subst he; rw [erase_same hltL]; exact hU.out)
        clear he hr1
        go_wp2_with fail
        go_roundw
        case rel => exact ⟨x + 1, us, by omega, by go_num, hown, U2, hB⟩
        case measure => simp [intOf]; omega
      · have hd1 : ((x : Int) != (me : Int)) = true := by simp; omega
        have hVI : VI w (.slice A1 L[x].length c1) L[x] := VI.of hr1
        have U2 : Hid (Vals w (us ++ [.slice A1 L[x].length c1]) ((L.take (x + 1)).eraseIdx me)) := Lib.hid (by rw [erase_snoc hltL he]; exact hU.out.snoc hVI)
        clear he hr1 hVI
        go_wp2_with (at_builtin; refine app_vals rfl _ _ rfl w.heap.size _ us rfl (hown.alloc _) (some ⟨wr.heap.size, 0, none⟩) 1 1 [.slice A1 L[x].length c1] rfl (rv_lit wr _ _ 1 rfl (by decide) _ rfl) rfl ?c1 ?c2 ?c3 ?_)
        case c1 => intro u hu; simp at hu; subst hu; rfl
        case c2 => simp; omega
        case c3 => have := hB.size; simp; omega
        intro v' w1 hown' hB1
        have h2 : Below w.heap.size w w1 := (hB.alloc hB.size _).trans hB1
        clear hB1
        go_wp2
        go_roundw
        case rel => exact ⟨x + 1, _, by omega, by go_num, hown', U2, h2⟩
        case measure => simp [intOf]; omega
    · obtain rfl : x = n := by omega
      have hU2 : Vals w us (L.eraseIdx me) := by have := hU.out; rwa [List.take_of_length_le (by have := HN.out; omega)] at this
      obtain ⟨A1, c1, rfl, hv1⟩ := hown.reads
      have hrr : Hid (RR wr A1 c1 (L.eraseIdx me)) := Lib.hid ⟨us, hv1, hU2.below hB⟩
      have hen : (L.eraseIdx me).length = x - 1 := by rw [List.length_eraseIdx_of_lt (by have := HN.out; omega), HN.out]
      have hul : us.length = x - 1 := by rw [hU2.1, hen]
      have hs0 := hB.size
      have hx1 : ((x : Int) - 1) = ((x - 1 : Nat) : Int) := by omega
      have RER : Hid (∀ r ∈ L.eraseIdx me, r.length = x - 1 ∧ fineL r = true) := Lib.hid (fun r hr => by
        have := rowsL_iff.1 RE.out r hr; rw [HN.out] at this; exact ⟨by omega, this.2⟩)
      have RC : Hid (∀ w', RR w' A1 c1 (L.eraseIdx me) → Calls Tryd.prog 16 #[.slice A1 (x - 1) c1, .int .i64 ((x : Int) - 1)] w' (GivesI w' (overL (x - 1) (L.eraseIdx me)))) := Lib.hid (fun w' h => by
        rw [hx1]; exact overR_is (x - 1) A1 c1 (x - 1) _ hen (by omega) RER.out (by omega) w' h _ rfl)
      obtain ⟨W1, rfl⟩ : ∃ W1, W1 = wr := ⟨wr, rfl⟩
      have hBw := Lib.hid hB
      rw [hul]
      clear hU hU2 hown hv1 hx1 hB
      go_wp2_with fail
      go_loopw [6, 8] (fun v i w2 => ∃ (y : Nat) (ys : List Value) (v0 : Value), y ≤ x ∧ v0 = v ∧ i = .int .i64 y ∧ OwnV w2 W1.heap.size v0 ys ∧ Hid (ValsO v0.ownBlock w2 ys (M.take y)) ∧ Below W1.heap.size W1 w2) (fun _ i _ => x - (intOf i).toNat)
      case atStart => exact ⟨0, [], _, by omega, rfl, rfl, OwnV.nil _ _, Lib.hid (by simpa using ValsO.nil _ _), Below.refl _ _⟩
      case round =>
        obtain ⟨y, ys, v0, hy, rfl, rfl, hown, hU, hB⟩ := hrel
        have hMl : M.length = x := by rw [← HM.out, takeL_len, HN.out]
        by_cases hlt : y < x
        · have hltL : y < L.length := by rw [HN.out]; exact hlt
          have hltM : y < M.length := by omega
          have hyl : ys.length ≤ 1000 := by rw [hU.out.1, List.length_take]; omega
          have hs2 := hB.size
          have hsn : M.take (y + 1) = M.take y ++ [M[y]] := List.take_succ_eq_append_getElem hltM
          by_cases he : y = me
          · have hd1 : ((y : Int) == (me : Int)) = true := by simp [he]
            have hMy : M[y] = overL (x - 1) (L.eraseIdx me) := by
              have e1 : M[y]? = some (overL (x - 1) (L.eraseIdx me)) := by
                rw [← HM.out, takeL, List.getElem?_set, if_pos he.symm, if_pos (by omega), HN.out]
              rw [List.getElem?_eq_getElem hltM] at e1
              exact Option.some.inj e1
            rw [hMy] at hsn
            have HS := Lib.hid hsn
            clear he hMy hsn
            go_wp2_with fail
            refine (RC.out _ (hrr.out.below hB)).mono ?_; rintro e w3 ⟨v3, rfl, ho3, hb3⟩
            have hh3 := ho3
            obtain ⟨A3, c3, rfl, hri3⟩ := hh3.reads
            have hs3 := hb3.size
            have hoff : 0 < (overL (x - 1) (L.eraseIdx me)).length → ∀ ad, A3 = some ad → some ad.block ≠ v0.ownBlock := fun _ ad e => by
              subst e
              have := (World.ownsRow.lt ho3 _ rfl).1
              exact own_far hown (.inr this)
            have hownW : OwnV w3 W1.heap.size v0 ys := World.ownsRow.kept hown (grown_below hb3 none) (by cases hv : v0.ownBlock <;> simp)
            have hV3 := (hU.out.below hb3).snoc hri3 hoff
            rw [← HS.out] at hV3
            have hB3 : Below W1.heap.size W1 w3 := hB.trans (hb3.mono hs2)
            clear hU hB hb3 ho3 hri3 hoff hown HS
            generalize (overL (x - 1) (L.eraseIdx me)).length = zl at hV3 ⊢
            go_wp2_with (at_builtin; refine app_vals_o rfl _ _ rfl W1.heap.size _ ys rfl (hownW.alloc _) ⟨w3.heap.size, 0, none⟩ (.slice A3 zl c3) rfl ?c0 rfl hyl ?c3 ?_)
            case c0 => rw [(Blk.new w3 _ _).cell]; rfl
            case c3 => simp; omega
            intro v' w4 hown' hg hob
            have hVa := Lib.hid ((hV3.below (below_alloc w3 _)).other hg (by simpa using hob))
            have hB4 : Below W1.heap.size W1 w4 := (hB3.alloc hB3.size _).grown hg (by have := hB3.size; simp; omega) (fun j e => (World.ownsRow.lt hownW j e).1)
            clear hV3 hg hob hownW
            go_wp2
            go_roundw
            case rel => exact ⟨y + 1, _, _, by omega, rfl, by go_num, hown', hVa, hB4⟩
            case measure => simp [intOf]; omega
          · have hd1 : ((y : Int) == (me : Int)) = false := by simp; omega
            have hMy : M[y] = L[y] := by
              have e1 : M[y]? = some L[y] := by
                rw [← HM.out, takeL, List.getElem?_set, if_neg (fun e => he e.symm), List.getElem?_eq_getElem hltL]
              rw [List.getElem?_eq_getElem hltM] at e1
              exact Option.some.inj e1
            rw [hMy] at hsn
            obtain ⟨ad, A1', c1', hA, hc0, hr1⟩ := R.out.at_ hltL
            subst hA
            have hbw2 : Below w.heap.size w _ := hBw.out.trans (hB.mono hs0)
            have hc1 := (hbw2.cell (cell_lt hc0)).trans hc0
            have hoff : 0 < L[y].length → ∀ ad, A1' = some ad → some ad.block ≠ v0.ownBlock := fun h0 ad e => by
              obtain ⟨ad', e', hc⟩ := hr1.at_ h0
              rw [e] at e'; cases e'
              have := cell_lt hc
              rw [add_block] at this
              exact own_far hown (.inl (by omega))
            have hV3 := hU.out.snoc (hr1.below hbw2) hoff
            rw [← hsn] at hV3
            have HV := Lib.hid hV3
            clear hsn hMy hU hV3 hr1 hoff hc0 hbw2 he
            go_wp2_with (at_builtin; refine app_vals_o rfl _ _ rfl W1.heap.size _ ys rfl (hown.alloc _) ⟨_, 0, none⟩ (.slice A1' L[y].length c1') rfl ?c0 rfl hyl ?c3 ?_)
            case c0 => rw [(Blk.new _ _ _).cell]; rfl
            case c3 => simp; omega
            intro v' w4 hown' hg hob
            have hVa := Lib.hid ((HV.out.below (below_alloc _ _)).other hg (by simpa using hob))
            have hB4 : Below W1.heap.size W1 w4 := (hB.alloc hB.size _).grown hg (by have := hB.size; simp; omega) (fun j e => (World.ownsRow.lt hown j e).1)
            clear hg hob hown HV
            go_wp2
            go_roundw
            case rel => exact ⟨y + 1, _, _, by omega, rfl, by go_num, hown', hVa, hB4⟩
            case measure => simp [intOf]; omega
        · obtain rfl : y = x := by omega
          have hU3 := hU.out.vals
          rw [List.take_of_length_le (by omega)] at hU3
          obtain ⟨A4, c4, hv4, hrr4⟩ := hown.shape hU3 hMl
          have hB5 := hBw.out.trans (hB.mono hs0)
          have F := Lib.hid hrr4; have G := Lib.hid hB5
          clear hU hU3 hown hrr4 hB5
          subst hv4
          go_wp2_with fail
          go_ret
          exact ⟨A4, c4, rfl, F.out, G.out⟩
end Go.Proofs.YtdkliknnnolngaaDoor
