/- Contracts of stamps' calls that make boards: New, Over, Take; Behind. Own work. -/
import Derived.Test.YtdkliknnnolngaaDoorStN
namespace Go.Proofs.YtdkliknnnolngaaDoor
open Go.ChangeShapes Go.WideShapes Go.ChangeAt Go.RowKit Cyc

/-! rows that lie beside a block -/
def VG (g : Nat) (w : World) (v : Value) (l : List Int) : Prop := ∃ A c, v = .slice A l.length c ∧ RI w A c l ∧ (0 < l.length → ∀ ad, A = some ad → g < ad.block)
theorem VG.vi {g : Nat} {w : World} {v : Value} {l : List Int} (h : VG g w v l) : VI w v l := by obtain ⟨A, c, e, hr, _⟩ := h; exact ⟨A, c, e, hr⟩
theorem VG.below {g : Nat} {w w' : World} {v : Value} {l : List Int} (h : VG g w v l) (hb : Below w.heap.size w w') : VG g w' v l := by
  obtain ⟨A, c, e, hr, ho⟩ := h; exact ⟨A, c, e, hr.below hb, ho⟩
theorem VG.set {g i : Nat} {u : Value} {w : World} {v : Value} {l : List Int} (h : VG g w v l) : VG g (w.setCell ⟨g, i, none⟩ u) v l := by
  obtain ⟨A, c, e, hr, ho⟩ := h
  refine ⟨A, c, e, ⟨hr.1, hr.2.1, hr.2.2.1, fun k hk => ?_⟩, ho⟩
  obtain ⟨ad, e, hc⟩ := hr.2.2.2 k hk
  exact ⟨ad, e, (cell_off (by rw [add_block]; exact Nat.ne_of_gt (ho (by omega) ad e))).trans hc⟩
theorem VG.of_own {g B : Nat} {w : World} {v : Value} {l : List Int} (h : OwnI w B v l) (hg : g < B) : VG g w v l := by
  have hh := h
  obtain ⟨A, c, e, hr⟩ := hh.reads
  refine ⟨A, c, e, hr, fun h0 ad ha => ?_⟩
  subst ha
  have := (World.ownsRow.lt h _ (by rw [e]; rfl)).1
  omega
def ValsG (g : Nat) (w : World) (vs : List Value) (L : List (List Int)) : Prop := vs.length = L.length ∧ ∀ (k : Nat) (l : List Int), L[k]? = some l → ∃ u, vs[k]? = some u ∧ VG g w u l
section
variable {g : Nat} {w w' : World} {v : Value} {l : List Int} {vs : List Value} {L : List (List Int)}
theorem ValsG.nil (g : Nat) (w : World) : ValsG g w [] [] := ⟨rfl, fun k l h => by simp at h⟩
theorem ValsG.vals (h : ValsG g w vs L) : Vals w vs L := ⟨h.1, fun k l hl => by
  obtain ⟨u, hu, hv⟩ := h.2 k l hl
  exact ⟨u, hu, hv.vi⟩⟩
theorem ValsG.below (h : ValsG g w vs L) (hb : Below w.heap.size w w') : ValsG g w' vs L := ⟨h.1, fun k l hl => by
  obtain ⟨u, hu, hv⟩ := h.2 k l hl
  exact ⟨u, hu, hv.below hb⟩⟩
theorem ValsG.store (h : ValsG g w vs L) (i : Nat) (u : Value) : ValsG g (w.setCell ⟨g, i, none⟩ u) vs L := ⟨h.1, fun k l hl => by
  obtain ⟨u, hu, hv⟩ := h.2 k l hl
  exact ⟨u, hu, hv.set⟩⟩
theorem ValsG.snoc (h : ValsG g w vs L) (hv : VG g w v l) : ValsG g w (vs ++ [v]) (L ++ [l]) := by
  refine ⟨by simp [h.1], fun k m hl => ?_⟩
  rcases Nat.lt_or_ge k L.length with hk | hk
  · rw [List.getElem?_append_left hk] at hl
    rw [List.getElem?_append_left (by rw [h.1]; exact hk)]
    exact h.2 k m hl
  · rw [List.getElem?_append_right hk] at hl
    rw [List.getElem?_append_right (by rw [h.1]; exact hk), h.1]
    cases hj : k - L.length with
    | zero => rw [hj] at hl; simp at hl; subst hl; exact ⟨v, rfl, hv⟩
    | succ j => rw [hj] at hl; simp at hl
theorem ValsG.put (h : ValsG g w vs L) (hv : VG g w v l) (i : Nat) : ValsG g w (vs.set i v) (L.set i l) := by
  refine ⟨by simp [h.1], fun k m hl => ?_⟩
  rw [List.getElem?_set] at hl ⊢
  by_cases e : i = k
  · rw [if_pos e] at hl ⊢
    rw [h.1]
    split at hl
    · next h1 => cases hl; rw [if_pos h1]; exact ⟨v, rfl, hv⟩
    · cases hl
  · rw [if_neg e] at hl ⊢
    exact h.2 k m hl
end
theorem rv_blk {w : World} {g n : Nat} {t : TypeId} {vs : List Value} (h : Blk w g t vs.toArray) (hn : vs.length = n) (hm : n ≤ maxLen) : RV w (some ⟨g, 0, none⟩) n vs := by
  subst hn
  refine ⟨Nat.le_refl _, hm, fun e => (by cases e), fun k hk => ⟨_, rfl, ?_⟩⟩
  have : (⟨g, 0, none⟩ : Addr).add k = ⟨g, k, none⟩ := by unfold Addr.add; split <;> simp_all
  rw [this, h.cell]; simp [hk]
/-- A block of rows that is being filled. -/
def fillC (vs : List Value) (n : Nat) : List Value := vs ++ List.replicate (n - vs.length) (.slice none 0 0)
theorem fillC_nil (n : Nat) : fillC [] n = List.replicate n (.slice none 0 0) := by simp [fillC]
theorem fillC_end {vs : List Value} {n : Nat} (h : vs.length = n) : fillC vs n = vs := by simp [fillC, h]
theorem fillC_old {vs : List Value} {n j : Nat} (h : vs.length = j) (hj : j < n) : (fillC vs n).toArray[j]? = some (.slice none 0 0) := by
  rw [List.getElem?_toArray, fillC, List.getElem?_append_right (by omega), h, List.getElem?_replicate, if_pos (by omega)]
theorem fillC_set {vs : List Value} {n j : Nat} (h : vs.length = j) (hj : j < n) (v : Value) : (fillC vs n).toArray.setIfInBounds j v = (fillC (vs ++ [v]) n).toArray := by
  obtain ⟨m, hm⟩ : ∃ m, n - j = m + 1 := ⟨n - j - 1, by omega⟩
  have hm2 : n - (j + 1) = m := by omega
  rw [List.setIfInBounds_toArray]
  unfold fillC
  rw [List.length_append, List.length_singleton, h, hm, hm2, List.set_append_right _ _ (by omega), h, Nat.sub_self, List.replicate_succ, List.set_cons_zero, List.append_assoc]; rfl
theorem rows_run (n : Nat) (hn : n ≤ 8) (w : World) : (Instr.makeSlice 22 (.int .i64 n) (.int .i64 n)).run Tryd.prog w = .ok (.slice (some ⟨w.heap.size, 0, none⟩) n n) (w.alloc (.cells (fillC [] n).toArray 31)) := by
  obtain ⟨i0, hi, hz0, hz1, hz2⟩ := info_parts infoInts
  have h := run_make (P := Tryd.prog) w 22 31 i0 (.slice none 0 0) Tryd.underlying22 hi hz0 .i64 .i64 n n (by omega) (by omega) (by rw [hz2]; omega) (by omega)
  have hc : madeCells (Value.slice none 0 0).cells (n * 1) = (fillC [] n).toArray := by
    rw [fillC_nil]
    apply Array.ext
    · simp [madeCells]
    · intro i h1 h2
      simp [madeCells, Value.cells, Nat.mod_one]
  rw [hz1, show ((n : Int)).toNat = n from rfl, hc] at h
  exact h

theorem zeros_gives (n : Int) (k : Nat) (hk : min (max n 0) 8 = (k : Int)) (w : World) : Calls Tryd.prog 23 #[.int .i64 n] w (GivesI w (List.replicate k 0)) :=
  (zeros_is n k hk w).mono fun e w' h => ⟨_, h.1, by rw [h.2]; exact OwnI.of_blk (Blk.new w 3 (zeroCells k)) (Nat.le_refl _) (by simp) (by unfold maxLen; omega), by rw [h.2]; exact below_alloc w _⟩
/-- A row of the call's own beside a block. -/
theorem GivesI.beside {w w' : World} {l : List Int} {e : Ending} {g : Nat} (h : GivesI w l e w') (hg : g < w.heap.size) : ∃ A c, e = .returned (.slice A l.length c) ∧ VG g w' (.slice A l.length c) l ∧ Below w.heap.size w w' := by
  obtain ⟨v, he, ho, hb⟩ := h
  have hv := VG.of_own ho hg
  obtain ⟨A, c, e1, hr, h0⟩ := hv
  exact ⟨A, c, by rw [he, e1], ⟨A, c, rfl, hr, h0⟩, hb⟩
/-! New -/
def newL (n : Nat) : List (List Int) := List.replicate n (List.replicate (n - 1) 0)
/-- What New answers. -/
def NewAns (n : Int) (w : World) (e : Ending) (w' : World) : Prop :=
  if 1 ≤ n ∧ n ≤ 8 then ∃ A c, e = .returned (.tuple #[.slice A n.toNat c, .int .i64 0]) ∧ RR w' A c (newL n.toNat) ∧ Below w.heap.size w w'
  else e = .returned (.tuple #[.slice none 0 0, .int .i64 6]) ∧ w = w'
set_option maxHeartbeats 800000 in
theorem new_is (n : Int) (w : World) : Calls Tryd.prog 7 #[.int .i64 n] w (NewAns n w) := by
  by_cases h1 : 1 ≤ n
  · by_cases h8 : n ≤ 8
    · obtain ⟨m, rfl⟩ : ∃ m : Nat, n = (m : Int) := ⟨n.toNat, by omega⟩
      have hm1 : 1 ≤ m := by omega
      have hm8 : m ≤ 8 := by omega
      have hrun := rows_run m hm8
      have d1 : ¬ (m : Int) < 1 := by omega
      have d2 : ¬ 8 < (m : Int) := by omega
      have hzk : min (max ((m : Int) - 1) 0) 8 = ((m - 1 : Nat) : Int) := by omega
      have hB0 := below_alloc w (.cells (fillC [] m).toArray 31)
      have hK0 := Blk.new w 31 (fillC [] m).toArray
      have P : Hid (∀ e w', (∃ A c, e = .returned (.tuple #[.slice A m c, .int .i64 0]) ∧ RR w' A c (newL m) ∧ Below w.heap.size w w') → NewAns m w e w') := Lib.hid (fun e w' h => by unfold NewAns; rw [if_pos ⟨h1, h8⟩]; exact h)
      go_enter Tryd.func7, Tryd.ntmps7
      go_wp2_with fail
      go_loopw [16] (fun i wr => ∃ (j : Nat) (us : List Value), j ≤ m ∧ i = .int .i64 j ∧ us.length = j ∧ Hid (Blk wr w.heap.size 31 (fillC us m).toArray) ∧ Hid (ValsG w.heap.size wr us (List.replicate j (List.replicate (m - 1) 0))) ∧ Hid (Below w.heap.size w wr)) (fun i _ => m - (intOf i).toNat)
      case atStart => exact ⟨0, [], by omega, rfl, rfl, Lib.hid hK0, Lib.hid (ValsG.nil _ _), Lib.hid hB0⟩
      case round =>
        obtain ⟨j, us, hj, rfl, hul, hK, hV, hB⟩ := hrel
        by_cases hlt : j < m
        · have hg : w.heap.size < wr.heap.size := hK.out.lt
          have Z := Lib.hid (zeros_gives ((m : Int) - 1) (m - 1) hzk wr)
          go_wp2_with fail
          refine Z.out.mono ?_; rintro e w1 hG
          obtain ⟨A1, c1, rfl, hv, hb⟩ := hG.beside hg
          clear hG
          have hK1 := hK.out.below hb hg
          have hfr := hK1.frozen j
          have hcell := hK1.cell j
          rw [fillC_old hul hlt] at hcell
          have hV1 := ((hV.out.below hb).snoc hv).store j (.slice A1 (List.replicate (m - 1) (0 : Int)).length c1)
          have hK2 := hK1.set_ j (.slice A1 (List.replicate (m - 1) (0 : Int)).length c1)
          rw [fillC_set hul hlt] at hK2
          have hB2 := (hB.out.trans (hb.mono (Nat.le_of_lt hg))).setCell (p := ⟨w.heap.size, j, none⟩) (Nat.le_refl _) (.slice A1 (List.replicate (m - 1) (0 : Int)).length c1)
          rw [← List.replicate_succ'] at hV1
          simp only [List.length_replicate] at hK2 hV1 hB2
          have K2 := Lib.hid hK2; have V2 := Lib.hid hV1; have B2 := Lib.hid hB2
          clear hK2 hV1 hB2 hv hK1 hb hB hV
          simp only [List.length_replicate]
          go_wp2_with fail
          go_roundw
          case rel => exact ⟨j + 1, _, by omega, by go_num, by simp [hul], K2, V2, B2⟩
          case measure => simp [intOf]; omega
        · obtain rfl : j = m := by omega
          have hV1 := hV.out
          have hK1 := hK.out
          rw [fillC_end hul] at hK1
          have hR : RR wr (some ⟨w.heap.size, 0, none⟩) j (newL j) := ⟨us, rv_blk hK1 hul (by unfold maxLen; omega), hV1.vals⟩
          have F := Lib.hid (P.out _ wr ⟨_, _, rfl, hR, hB.out⟩)
          clear hV hK hB hV1 hK1 hR P
          go_wp2_with fail
          go_ret2
          exact F.out
    · have d1 : ¬ n < 1 := by omega
      have d2 : 8 < n := by omega
      have F : Hid (NewAns n w (.returned (.tuple #[.slice none 0 0, .int .i64 6])) w) := Lib.hid (by unfold NewAns; rw [if_neg (by omega)]; exact ⟨rfl, rfl⟩)
      clear h1 h8
      go_enter Tryd.func7, Tryd.ntmps7
      go_wp2_with fail
      go_ret2
      exact F.out
  · have d1 : n < 1 := by omega
    have F : Hid (NewAns n w (.returned (.tuple #[.slice none 0 0, .int .i64 6])) w) := Lib.hid (by unfold NewAns; rw [if_neg (by omega)]; exact ⟨rfl, rfl⟩)
    clear h1
    go_enter Tryd.func7, Tryd.ntmps7
    go_wp2_with fail
    go_ret2
    exact F.out

/-! Over -/
def overA (k : Int) (L : List (List Int)) : List Int := if 0 ≤ k ∧ k ≤ 8 ∧ rowsL k L = true then overL k.toNat L else []
theorem over_is (A : Option Addr) (c n : Nat) (k : Int) (L : List (List Int)) (hn : L.length = n) (h1000 : n ≤ 1000) (w : World) (ht : Ring w) (hr : RR w A c L) (t : List Int) (htt : overA k L = t) :
    Calls Tryd.prog 13 #[.slice A n c, .int .i64 k] w (GivesI w t) := by
  have NIL : Hid (GivesI w [] (.returned (.slice none 0 0)) w) := Lib.hid ⟨_, rfl, OwnI.nil _ _, Below.refl _ _⟩
  by_cases h0 : 0 ≤ k
  · by_cases h8 : k ≤ 8
    · have d1 : ¬ k < 0 := by omega
      have d2 : ¬ 8 < k := by omega
      cases hR : rowsL k L
      · obtain rfl : t = [] := by rw [← htt]; unfold overA; rw [if_neg (by simp [hR])]
        have AR := Lib.hid (areRows_is A c n L hn k w hr false hR)
        clear htt hr
        go_enter Tryd.func13, Tryd.ntmps13
        go_wp2_with fail
        refine AR.out.mono ?_; rintro e w1 ⟨rfl, rfl⟩
        go_wp2_with fail
        go_ret
        exact NIL.out
      · obtain ⟨m, rfl⟩ : ∃ m : Nat, k = (m : Int) := ⟨k.toNat, by omega⟩
        have ht2 : overL m L = t := by rw [← htt]; unfold overA; rw [if_pos ⟨h0, h8, hR⟩]; rfl
        have AR := Lib.hid (areRows_is A c n L hn m w hr true hR)
        obtain ⟨vs, hv, hV⟩ := hr
        have NS := Lib.hid (newStamp_is A c n m L hn h1000 (by omega) hR w ht vs hv hV t ht2)
        clear htt ht2 hv hV
        go_enter Tryd.func13, Tryd.ntmps13
        go_wp2_with fail
        refine AR.out.mono ?_; rintro e w1 ⟨rfl, rfl⟩
        go_wp2_with fail
        refine NS.out.mono ?_; rintro e w1 ⟨v, rfl, hO, hB⟩
        go_wp2_with fail
        go_ret
        exact ⟨_, rfl, hO, hB⟩
    · obtain rfl : t = [] := by rw [← htt]; unfold overA; rw [if_neg (by omega)]
      have d1 : ¬ k < 0 := by omega
      have d2 : 8 < k := by omega
      clear htt hr
      go_enter Tryd.func13, Tryd.ntmps13
      go_wp2_with fail
      go_ret
      exact NIL.out
  · obtain rfl : t = [] := by rw [← htt]; unfold overA; rw [if_neg (by omega)]
    have d1 : k < 0 := by omega
    clear htt hr
    go_enter Tryd.func13, Tryd.ntmps13
    go_wp2_with fail
    go_ret
    exact NIL.out
end Go.Proofs.YtdkliknnnolngaaDoor
