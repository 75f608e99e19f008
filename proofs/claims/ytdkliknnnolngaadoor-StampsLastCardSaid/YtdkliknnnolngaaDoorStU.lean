/- Contracts of stamps' Take, Behind, Last. Own work. -/
import Derived.Test.YtdkliknnnolngaaDoorStT
namespace Go.Proofs.YtdkliknnnolngaaDoor
open Go.ChangeShapes Go.WideShapes Go.ChangeAt Go.RowKit Cyc

theorem fineB_iff {b : List (List Int)} : fineB b = true ↔ 1 ≤ b.length ∧ b.length ≤ 8 ∧ ∀ r ∈ b, (r.length : Int) = (b.length : Int) - 1 ∧ fineL r = true := by
  unfold fineB; rw [Bool.and_eq_true, Bool.and_eq_true, decide_eq_true_iff, decide_eq_true_iff, rowsL_iff, and_assoc]
theorem rows_erase {b : List (List Int)} (h : fineB b = true) (me : Nat) : rowsL ((b.length - 1 : Nat) : Int) (b.eraseIdx me) = true := by
  have h' := fineB_iff.1 h
  refine rowsL_iff.2 fun r hr => ?_
  have := h'.2.2 r (List.mem_of_mem_eraseIdx hr)
  exact ⟨by omega, this.2⟩
/-- What Take answers. -/
def TakeAns (w : World) (L : List (List Int)) (me : Int) (e : Ending) (w' : World) : Prop :=
  if fineB L = true then
    if 0 ≤ me ∧ me < (L.length : Int) then ∃ A c, e = .returned (.tuple #[.slice A L.length c, .int .i64 0]) ∧ RR w' A c (takeL L me.toNat) ∧ Below w.heap.size w w'
    else e = .returned (.tuple #[.slice none 0 0, .int .i64 6]) ∧ w = w'
  else e = .returned (.tuple #[.slice none 0 0, .int .i64 1]) ∧ w = w'
theorem takeL_len (L : List (List Int)) (me : Nat) : (takeL L me).length = L.length := by unfold takeL; simp
/-- Rows, and where they lie. -/
def ROff (p : Nat → Prop) (w : World) (A : Option Addr) (c : Nat) (L : List (List Int)) : Prop :=
  ∃ vs, RV w A c vs ∧ (0 < vs.length → ∀ ad, A = some ad → p ad.block) ∧ vs.length = L.length ∧
    ∀ (k : Nat) (l : List Int), L[k]? = some l → ∃ A' c', vs[k]? = some (.slice A' l.length c') ∧ RI w A' c' l ∧ (0 < l.length → ∀ ad, A' = some ad → p ad.block)
section
variable {p q : Nat → Prop} {w w' : World} {A : Option Addr} {c g : Nat} {L : List (List Int)}
theorem ROff.rr (h : ROff p w A c L) : RR w A c L := by
  obtain ⟨vs, h1, _, h2, h3⟩ := h
  exact ⟨vs, h1, h2, fun k l hl => by obtain ⟨A', c', hu, hr, _⟩ := h3 k l hl; exact ⟨_, hu, A', c', rfl, hr⟩⟩
theorem ROff.mono (h : ROff p w A c L) (hp : ∀ b, p b → q b) : ROff q w A c L := by
  obtain ⟨vs, h1, h0, h2, h3⟩ := h
  exact ⟨vs, h1, fun hl ad e => hp _ (h0 hl ad e), h2, fun k l hl => by obtain ⟨A', c', hu, hr, ho⟩ := h3 k l hl; exact ⟨A', c', hu, hr, fun hl ad e => hp _ (ho hl ad e)⟩⟩
theorem ROff.below (h : ROff p w A c L) (hb : Below w.heap.size w w') : ROff p w' A c L := by
  obtain ⟨vs, h1, h0, h2, h3⟩ := h
  exact ⟨vs, h1.below hb, h0, h2, fun k l hl => by obtain ⟨A', c', hu, hr, ho⟩ := h3 k l hl; exact ⟨A', c', hu, hr.below hb, ho⟩⟩
theorem ROff.of_rr (h : RR w A c L) : ROff (· < w.heap.size) w A c L := by
  obtain ⟨vs, h1, h2⟩ := h
  refine ⟨vs, h1, fun h0 ad e => ?_, h2.1, fun k l hl => ?_⟩
  · obtain ⟨ad', e', hc⟩ := h1.at_ h0
    rw [e] at e'; cases e'
    have := cell_lt hc
    rwa [add_block] at this
  · obtain ⟨u, hu, A', c', rfl, hr⟩ := h2.2 k l hl
    refine ⟨A', c', hu, hr, fun h0 ad e => ?_⟩
    obtain ⟨ad', e', hc⟩ := hr.at_ h0
    rw [e] at e'; cases e'
    have := cell_lt hc
    rwa [add_block] at this
theorem ROff.set (h : ROff (· ≠ g) w A c L) (i : Nat) (u : Value) : ROff (· ≠ g) (w.setCell ⟨g, i, none⟩ u) A c L := by
  obtain ⟨vs, h1, h0, h2, h3⟩ := h
  refine ⟨vs, h1.off h0 i u, h0, h2, fun k l hl => ?_⟩
  obtain ⟨A', c', hu, hr, ho⟩ := h3 k l hl
  refine ⟨A', c', hu, ⟨hr.1, hr.2.1, hr.2.2.1, fun j hj => ?_⟩, ho⟩
  obtain ⟨ad, e, hc⟩ := hr.2.2.2 j hj
  exact ⟨ad, e, (cell_off (by rw [add_block]; exact ho (by omega) ad e)).trans hc⟩
end
set_option maxHeartbeats 1000000 in
theorem take_off (A : Option Addr) (c n me : Nat) (L : List (List Int)) (hn : L.length = n) (hf : fineB L = true) (hme : me < n) (w : World) (ht : Ring w) (hr : RR w A c L) (M : List (List Int)) (hM : takeL L me = M) :
    Calls Tryd.prog 12 #[.slice A n c, .int .i64 me] w fun e w' => ∃ A c, e = .returned (.tuple #[.slice A n c, .int .i64 0]) ∧ ROff (w.heap.size ≤ ·) w' A c M ∧ Below w.heap.size w w' := by
  have hF := fineB_iff.1 hf
  rw [hn] at hF
  have hmax : n ≤ 8 := hF.2.1
  have hrun := rows_run n hmax
  have hB0 := below_alloc w (.cells (fillC [] n).toArray 31)
  have hK0 := Blk.new w 31 (fillC [] n).toArray
  have FB := Lib.hid (fineB_is A c n L hn w hr true hf)
  have HS := Lib.hid (has_is A c n me true (by simp; omega) w)
  have R := Lib.hid hr
  have T := Lib.hid ht
  have RE := Lib.hid (rows_erase hf me)
  have HM := Lib.hid hM
  have hmei : (me : Int) < n := by omega
  have hnn : (0 : Int) ≤ n := by omega
  clear hr ht hM hf
  go_enter Tryd.func12, Tryd.ntmps12
  go_wp2_with fail
  refine FB.out.mono ?_; rintro e w1 ⟨rfl, rfl⟩
  go_wp2_with fail
  refine HS.out.mono ?_; rintro e w1 ⟨rfl, rfl⟩
  go_wp2_with fail
  go_loopw [21] (fun i wr => ∃ (j : Nat) (us : List Value), j ≤ n ∧ i = .int .i64 j ∧ us.length = j ∧ Hid (Blk wr w.heap.size 31 (fillC us n).toArray) ∧ Hid (ValsG w.heap.size wr us (L.take j)) ∧ Hid (Below w.heap.size w wr)) (fun i _ => n - (intOf i).toNat)
  case atStart => exact ⟨0, [], by omega, rfl, rfl, Lib.hid hK0, Lib.hid (by simpa using ValsG.nil _ _), Lib.hid hB0⟩
  case round =>
    obtain ⟨j, us, hj, rfl, hul, hK, hV, hB⟩ := hrel
    by_cases hlt : j < n
    · have hg : w.heap.size < wr.heap.size := hK.out.lt
      have hltL : j < L.length := by omega
      obtain ⟨ad, A1, c1, hA, hc, hri⟩ := (R.out.below hB.out).at_ hltL
      have hl8 : L[j].length ≤ 1000 := by have := (hF.2.2 _ (List.getElem_mem hltL)).1; omega
      have Z := Lib.hid (clone_is A1 c1 _ _ rfl hl8 wr hri)
      have hsn : L.take (j + 1) = L.take j ++ [L[j]] := List.take_succ_eq_append_getElem hltL
      subst hA
      clear hri
      go_wp2_with fail
      refine Z.out.mono ?_; rintro e w1 hG
      obtain ⟨A2, c2, rfl, hv, hb⟩ := hG.beside hg
      clear hG
      have hK1 := hK.out.below hb hg
      have hfr := hK1.frozen j
      have hcell := hK1.cell j
      rw [fillC_old hul hlt] at hcell
      have hV1 := ((hV.out.below hb).snoc hv).store j (.slice A2 L[j].length c2)
      have hK2 := hK1.set_ j (.slice A2 L[j].length c2)
      rw [fillC_set hul hlt] at hK2
      have hB2 := (hB.out.trans (hb.mono (Nat.le_of_lt hg))).setCell (p := ⟨w.heap.size, j, none⟩) (Nat.le_refl _) (.slice A2 L[j].length c2)
      rw [← hsn] at hV1
      have K2 := Lib.hid hK2; have V2 := Lib.hid hV1; have B2 := Lib.hid hB2
      clear hK2 hV1 hB2 hv hK1 hb hB hV hc hsn
      go_wp2_with fail
      go_roundw
      case rel => exact ⟨j + 1, _, by omega, by go_num, by simp [hul], K2, V2, B2⟩
      case measure => simp [intOf]; omega
    · obtain rfl : j = n := by omega
      have hg : w.heap.size < wr.heap.size := hK.out.lt
      obtain ⟨vs, hv, hV0⟩ := R.out.below hB.out
      have O := Lib.hid (others_is A c j me L hn (by omega) hme wr vs hv hV0)
      have hen : (L.eraseIdx me).length = j - 1 := by rw [List.length_eraseIdx_of_lt (by omega), hn]
      have hj1 : ((j : Int) - 1) = ((j - 1 : Nat) : Int) := by omega
      clear hv hV0
      go_wp2_with fail
      refine O.out.mono ?_; rintro e w1 ⟨v, us2, rfl, hown, hU, hb1⟩
      obtain ⟨A2, c2, rfl, hv2⟩ := hown.reads
      have hul2 : us2.length = j - 1 := by rw [hU.1, hen]
      have hring : Ring w1 := (T.out.below hB.out).below hb1
      have NS := Lib.hid (newStamp_is A2 c2 (j - 1) (j - 1) (L.eraseIdx me) hen (by omega) (by omega) (by have := RE.out; rwa [hn] at this) w1 hring us2 hv2 (hU.below hb1) _ rfl)
      rw [← hj1] at NS
      clear hj1
      clear hown hU hv2
      rw [hul2]
      go_wp2_with fail
      refine NS.out.mono ?_; rintro e w2 hG
      have hs1 := hb1.size
      obtain ⟨A3, c3, rfl, hv3, hb2⟩ := hG.beside (g := w.heap.size) (by omega)
      clear hG
      have hbb : Below wr.heap.size wr w2 := hb1.trans (hb2.mono hs1)
      have hK1 := hK.out.below hbb hg
      rw [fillC_end hul] at hK1
      have hmu : me < us.length := by omega
      have hfr := hK1.frozen me
      have hcell := hK1.cell me
      rw [List.getElem?_toArray, List.getElem?_eq_getElem hmu] at hcell
      have hV1 := hV.out
      rw [List.take_of_length_le (by omega)] at hV1
      have hV2 := ((hV1.below hbb).put hv3 me).store me (.slice A3 (overL (j - 1) (L.eraseIdx me)).length c3)
      have hK2 := hK1.set_ me (.slice A3 (overL (j - 1) (L.eraseIdx me)).length c3)
      rw [List.setIfInBounds_toArray] at hK2
      have hB2 := (hB.out.trans (hbb.mono (Nat.le_of_lt hg))).setCell (p := ⟨w.heap.size, me, none⟩) (Nat.le_refl _) (.slice A3 (overL (j - 1) (L.eraseIdx me)).length c3)
      have hM2 : L.set me (overL (j - 1) (L.eraseIdx me)) = M := by rw [← HM.out]; unfold takeL; rw [hn]
      rw [hM2] at hV2
      have F := Lib.hid (⟨_, rv_blk hK2 (by rw [List.length_set, hul]) (by unfold maxLen; omega), (fun _ ad e => by cases e; exact Nat.le_refl _), hV2.1, fun k l hl => by
        obtain ⟨u, hu, A', c', e, hr', ho⟩ := hV2.2 k l hl
        exact ⟨A', c', by rw [hu, e], hr', fun h0 ad e => Nat.le_of_lt (ho h0 ad e)⟩⟩ : ROff (w.heap.size ≤ ·) _ (some ⟨w.heap.size, 0, none⟩) j M)
      have B2 := Lib.hid hB2
      clear hK2 hV2 hB2 hv3 hK1 hbb hb1 hb2 hV1 hB hV hK
      generalize us[me] = old at hcell
      go_wp2_with fail
      go_ret2
      exact ⟨_, _, rfl, F.out, B2.out⟩
theorem take_good (A : Option Addr) (c n me : Nat) (L : List (List Int)) (hn : L.length = n) (hf : fineB L = true) (hme : me < n) (w : World) (ht : Ring w) (hr : RR w A c L) (M : List (List Int)) (hM : takeL L me = M) :
    Calls Tryd.prog 12 #[.slice A n c, .int .i64 me] w fun e w' => ∃ A c, e = .returned (.tuple #[.slice A n c, .int .i64 0]) ∧ RR w' A c M ∧ Below w.heap.size w w' :=
  (take_off A c n me L hn hf hme w ht hr M hM).mono fun _ _ ⟨A, c, he, h, hb⟩ => ⟨A, c, he, h.rr, hb⟩
theorem take_is (A : Option Addr) (c n : Nat) (me : Int) (L : List (List Int)) (hn : L.length = n) (w : World) (ht : Ring w) (hr : RR w A c L) :
    Calls Tryd.prog 12 #[.slice A n c, .int .i64 me] w (TakeAns w L me) := by
  cases hf : fineB L
  · have F : Hid (TakeAns w L me (.returned (.tuple #[.slice none 0 0, .int .i64 1])) w) := Lib.hid (by unfold TakeAns; rw [hf, if_neg (by decide)]; exact ⟨rfl, rfl⟩)
    have FB := Lib.hid (fineB_is A c n L hn w hr false hf)
    clear hf hr ht
    go_enter Tryd.func12, Tryd.ntmps12
    go_wp2_with fail
    refine FB.out.mono ?_; rintro e w1 ⟨rfl, rfl⟩
    go_wp2_with fail
    go_ret2
    exact F.out
  · by_cases hm : 0 ≤ me ∧ me < (n : Int)
    · obtain ⟨m, rfl⟩ : ∃ m : Nat, me = (m : Int) := ⟨me.toNat, by omega⟩
      have hmn : m < n := by omega
      refine (take_good A c n m L hn hf hmn w ht hr _ rfl).mono ?_
      intro e w' h
      unfold TakeAns
      rw [hf, if_pos rfl, hn, if_pos hm]
      exact h
    · have F : Hid (TakeAns w L me (.returned (.tuple #[.slice none 0 0, .int .i64 6])) w) := Lib.hid (by unfold TakeAns; rw [hf, if_pos rfl, hn, if_neg hm]; exact ⟨rfl, rfl⟩)
      have FB := Lib.hid (fineB_is A c n L hn w hr true hf)
      have HS := Lib.hid (has_is A c n me false (by rw [Bool.and_eq_false_iff, decide_eq_false_iff_not, decide_eq_false_iff_not]; omega) w)
      clear hf hr ht hm
      go_enter Tryd.func12, Tryd.ntmps12
      go_wp2_with fail
      refine FB.out.mono ?_; rintro e w1 ⟨rfl, rfl⟩
      go_wp2_with fail
      refine HS.out.mono ?_; rintro e w1 ⟨rfl, rfl⟩
      go_wp2_with fail
      go_ret2
      exact F.out
theorem quiet_left {P : Program} {f : FuncId} {args : Array Value} {w : World} {n : Nat} {v : Value}
    (h : Calls P f args (w.drewN n) fun e w' => e = .returned v ∧ w.drewN n = w') : Calls P f args (w.drewN n) fun e w'' => e = .returned v ∧ ∃ m, w'' = w.drewN m :=
  h.mono fun _ _ ⟨he, hm⟩ => ⟨he, n, hm.symm⟩
/-! Behind -/
def hasL (b : List (List Int)) (t : Int) : Bool := decide (0 ≤ t) && decide (t < (b.length : Int))
def behindL (b : List (List Int)) (a c : Int) : Bool := fineB b && (hasL b a && (hasL b c && domL (b.getD a.toNat []) (b.getD c.toNat [])))
theorem behind_is (A : Option Addr) (c n : Nat) (x y : Int) (L : List (List Int)) (hn : L.length = n) (w : World) (ht : Ring w) (hr : RR w A c L) (z : Bool) (hz : behindL L x y = z) :
    Calls Tryd.prog 18 #[.slice A n c, .int .i64 x, .int .i64 y] w fun e w' => e = .returned (.bool z) ∧ ∃ m, w' = w.drewN m := by
  subst hn
  cases hf : fineB L
  · obtain rfl : z = false := by rw [← hz]; unfold behindL; rw [hf]; rfl
    have FB := Lib.hid (fun m => fineB_is A c _ L rfl (w.drewN m) hr false hf)
    clear hf hr ht hz
    go_enter Tryd.func18, Tryd.ntmps18
    go_wp2_with fail
    go_quiet (first | (go_at_call 10; with_reducible exact quiet_left (FB.out _)))
    go_wp2_with fail
    go_ret
    exact ⟨rfl, _, rfl⟩
  · have FB := Lib.hid (fun m => fineB_is A c _ L rfl (w.drewN m) hr true hf)
    cases hx : hasL L x
    · obtain rfl : z = false := by rw [← hz]; unfold behindL; rw [hf, hx]; rfl
      have HX := Lib.hid (fun m => has_is A c L.length x false hx (w.drewN m))
      clear hf hr ht hz hx
      go_enter Tryd.func18, Tryd.ntmps18
      go_wp2_with fail
      go_quiet (first | (go_at_call 10; with_reducible exact quiet_left (FB.out _)) | (go_at_call 26; with_reducible exact quiet_left (HX.out _)))
      go_wp2_with fail
      go_ret
      exact ⟨rfl, _, rfl⟩
    · have HX := Lib.hid (fun m => has_is A c L.length x true hx (w.drewN m))
      cases hy : hasL L y
      · obtain rfl : z = false := by rw [← hz]; unfold behindL; rw [hf, hx, hy]; rfl
        have HY := Lib.hid (fun m => has_is A c L.length y false hy (w.drewN m))
        clear hf hr ht hz hx hy
        go_enter Tryd.func18, Tryd.ntmps18
        go_wp2_with fail
        go_quiet (first | (go_at_call 10; with_reducible exact quiet_left (FB.out _)) | (go_at_call 26; with_reducible exact quiet_left (HX.out _)) | (go_at_call 26; with_reducible exact quiet_left (HY.out _)))
        go_wp2_with fail
        go_ret
        exact ⟨rfl, _, rfl⟩
      · have HY := Lib.hid (fun m => has_is A c L.length y true hy (w.drewN m))
        have hx' := hx; have hy' := hy
        unfold hasL at hx' hy'
        rw [Bool.and_eq_true, decide_eq_true_iff, decide_eq_true_iff] at hx' hy'
        obtain ⟨i, rfl⟩ : ∃ i : Nat, x = (i : Int) := ⟨x.toNat, by omega⟩
        obtain ⟨j, rfl⟩ : ∃ j : Nat, y = (j : Int) := ⟨y.toNat, by omega⟩
        have hi : i < L.length := by omega
        have hj : j < L.length := by omega
        have hi' : (i : Int) < L.length := by omega
        have hj' : (j : Int) < L.length := by omega
        have hd : domL L[i] L[j] = z := by
          rw [← hz]; unfold behindL
          rw [hf, hx, hy]
          simp [List.getD_eq_getElem?_getD, hi, hj]
        obtain ⟨ad, A1, c1, hA1, hc1, hr1⟩ := hr.at_ hi
        obtain ⟨ad', A2, c2, hA2, hc2, hr2⟩ := hr.at_ hj
        subst hA1; cases hA2
        have D := Lib.hid (fun m => dom_is A1 A2 c1 c2 _ _ _ _ rfl rfl (w.drewN m) ht hr1 hr2 z hd)
        clear hf hr ht hz hx hy hd hr1 hr2 hx' hy'
        go_enter Tryd.func18, Tryd.ntmps18
        go_wp2_with fail
        go_quiet (first | (go_at_call 10; with_reducible exact quiet_left (FB.out _)) | (go_at_call 26; with_reducible exact quiet_left (HX.out _)) | (go_at_call 26; with_reducible exact quiet_left (HY.out _)) | (go_at_call 33; with_reducible exact quiet_left (D.out _)))
        go_wp2_with fail
        go_ret
        exact ⟨rfl, _, rfl⟩
/-! Last -/
def lastA (L : List (List Int)) : Int := if fineB L then lastL L else -1
theorem topP_at {b : List (List Int)} {t : Nat} (ht : t < b.length) : topP b t = domAll b[t] (b.eraseIdx t) := by
  unfold topP; rw [List.getD_eq_getElem?_getD, List.getElem?_eq_getElem ht]; rfl
set_option maxHeartbeats 800000 in
theorem last_is (A : Option Addr) (c n : Nat) (L : List (List Int)) (hn : L.length = n) (w : World) (ht : Ring w) (hr : RR w A c L) (z : Int) (hz : lastA L = z) :
    Calls Tryd.prog 17 #[.slice A n c] w fun e w' => e = .returned (.int .i64 z) ∧ Below w.heap.size w w' := by
  subst hn
  cases hf : fineB L
  · obtain rfl : z = -1 := by rw [← hz]; unfold lastA; rw [hf]; rfl
    have FB := Lib.hid (fineB_is A c _ L rfl w hr false hf)
    clear hf hr ht hz
    go_enter Tryd.func17, Tryd.ntmps17
    go_wp2_with fail
    refine FB.out.mono ?_; rintro e w1 ⟨rfl, rfl⟩
    go_wp2_with fail
    go_ret
    exact ⟨rfl, Below.refl _ _⟩
  · have FB := Lib.hid (fineB_is A c _ L rfl w hr true hf)
    have hF := fineB_iff.1 hf
    have hmax : L.length ≤ 8 := hF.2.1
    have Z : Hid (lastF (topP L) 0 (L.length - 0) = z) := Lib.hid (by rw [← hz]; unfold lastA; rw [hf]; rfl)
    have R := Lib.hid hr
    have T := Lib.hid ht
    clear hf hr ht hz hF
    go_enter Tryd.func17, Tryd.ntmps17
    go_wp2_with fail
    refine FB.out.mono ?_; rintro e w1 ⟨rfl, rfl⟩
    go_wp2_with fail
    go_loopw [10] (fun i wr => ∃ j : Nat, j ≤ L.length ∧ i = .int .i64 j ∧ Hid (lastF (topP L) j (L.length - j) = z) ∧ Hid (Below w.heap.size w wr)) (fun i _ => L.length - (intOf i).toNat)
    case atStart => exact ⟨0, by omega, rfl, Z, Lib.hid (Below.refl _ _)⟩
    case round =>
      obtain ⟨j, hj, rfl, hS, hB⟩ := hrel
      by_cases hlt : j < L.length
      · obtain ⟨vs, hv, hV⟩ := R.out.below hB.out
        have O := Lib.hid (others_is A c _ j L rfl (by omega) hlt wr vs hv hV)
        obtain ⟨ad, A1, c1, hA, hc, hri⟩ := (R.out.below hB.out).at_ hlt
        subst hA
        have hring : Ring wr := T.out.below hB.out
        have ST := Lib.hid (lastF_step hlt hS.out)
        have hen : (L.eraseIdx j).length = L.length - 1 := by rw [List.length_eraseIdx_of_lt hlt]
        have hs0 := hB.out.size
        clear hv hV hS
        go_wp2_with fail
        refine O.out.mono ?_; rintro e w1 ⟨v, us2, rfl, hown, hU, hb1⟩
        obtain ⟨A2, c2, rfl, hv2⟩ := hown.reads
        have hul2 : us2.length = L.length - 1 := by rw [hU.1, hen]
        have hB1 := Lib.hid (hB.out.trans (hb1.mono hs0))
        have hrr : RR w1 A2 c2 (L.eraseIdx j) := ⟨us2, hv2, hU.below hb1⟩
        have hring1 := hring.below hb1
        have hri1 := hri.below hb1
        rw [hul2]
        clear hv2 hU hown hB hb1 hri hring
        cases hd : domAll L[j] (L.eraseIdx j)
        · have D := Lib.hid (domAll_is A2 A1 c2 c1 _ _ L[j] (L.eraseIdx j) hen rfl w1 hring1 hrr hri1 false hd)
          have S2 := Lib.hid (ST.out.2 (by rw [topP_at hlt, hd]))
          clear hd
          go_wp2_with fail
          refine D.out.mono ?_; rintro e w2 ⟨rfl, rfl⟩
          go_wp2_with fail
          go_roundw
          case rel => exact ⟨j + 1, by omega, by go_num, S2, hB1⟩
          case measure => simp [intOf]; omega
        · have D := Lib.hid (domAll_is A2 A1 c2 c1 _ _ L[j] (L.eraseIdx j) hen rfl w1 hring1 hrr hri1 true hd)
          have S2 := Lib.hid (ST.out.1 (by rw [topP_at hlt, hd]))
          clear hd
          go_wp2_with fail
          refine D.out.mono ?_; rintro e w2 ⟨rfl, rfl⟩
          go_wp2_with fail
          go_ret
          exact ⟨ret_int S2.out.symm, hB1.out⟩
      · obtain rfl : j = L.length := by omega
        have S2 : Hid (z = -1) := Lib.hid (by have := hS.out; rw [Nat.sub_self] at this; exact this.symm)
        clear hS
        go_wp2_with fail
        go_ret
        exact ⟨ret_int S2.out.symm, hB.out⟩
end Go.Proofs.YtdkliknnnolngaaDoor
