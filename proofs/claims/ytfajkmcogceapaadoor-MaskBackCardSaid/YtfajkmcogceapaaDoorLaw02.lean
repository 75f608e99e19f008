/- The laws of layer 2: their walks. Own work. -/
import Derived.Test.YtfajkmcogceapaaDoorGoes
namespace Go.Proofs.YtfajkmcogceapaaDoor
open Go.ChangeShapes Go.WideShapes Go.ChangeAt Go.RowKit Bits

theorem setI_zero : setI 0 = [] := by rw [setI_eq, setL_zero]; rfl
theorem textT_zero : textT 0 = [45] := by unfold textT; rw [setI_zero, if_pos rfl]
theorem textT_pos {s : Nat} (h : s ≠ 0) (hs : s < 18446744073709551616) : textT s = T (setF s) := by
  unfold textT
  rw [if_neg, T_set]
  intro e
  rw [setI_eq, List.map_eq_nil_iff] at e
  exact h (setL_nil hs e)
theorem text_any (s : Nat) (hs : s < 18446744073709551616) (w : World) (hT : Tab w) :
    Calls Tryd.prog 19 #[.int .u64 s] w fun e w' => e = .returned (.string ⟨(textT s).toArray⟩) ∧ Below w.heap.size w w' := by
  by_cases h : s = 0
  · subst h
    rw [textT_zero]
    go_enter Tryd.func19, Tryd.ntmps19
    go_wp2_with fail
    go_ret
    exact ⟨rfl, Below.refl _ _⟩
  · rw [textT_pos h hs]
    exact callsIn_wide.1 (text_in 4 (by decide) s hs h w hT)
theorem each_any (s : Nat) (hs : s < 18446744073709551616) (w : World) (hT : Tab w) :
    Calls Tryd.prog 18 #[.int .u64 s] w fun e W' => ∃ v, e = .returned v ∧ Owns W' w.heap.size v (setI s) ∧ Below w.heap.size w W' :=
  callsIn_wide.1 (eachL_in 4 (by decide) s hs w hT)

/-- The contracts with the answer under a name. -/
theorem text_is (s : Nat) (hs : s < 18446744073709551616) (t : List UInt8) (h : textT s = t) (w : World) (hT : Tab w) :
    Calls Tryd.prog 19 #[.int .u64 s] w fun e w' => e = .returned (.string ⟨t.toArray⟩) ∧ Below w.heap.size w w' := h ▸ text_any s hs w hT
theorem has_is (s : Nat) (hs : s < 18446744073709551616) (t : Int) (b : Bool) (h : hasN s t = b) (w : World) : Calls Tryd.prog 7 #[.int .u64 s, .int .i64 t] w fun e w' => e = .returned (.bool b) ∧ w = w' := h ▸ has_any s hs t w
theorem count_is (s : Nat) (hs : s < 18446744073709551616) (k : Nat) (h : (setL s).length = k) (w : World) : Calls Tryd.prog 13 #[.int .u64 s] w fun e w' => e = .returned (.int .i64 k) ∧ w = w' := h ▸ count_any s hs w
theorem first_is (n : Int) (k : Nat) (h : firstN n = k) (w : World) : Calls Tryd.prog 15 #[.int .i64 n] w fun e w' => e = .returned (.int .u64 k) ∧ w = w' := h ▸ first_any n w

theorem text9 : textT 9 = [48, 43, 51] := by
  have h : setI 9 = [0, 3] := by decide +kernel
  unfold textT
  rw [h, if_neg (by decide)]
  unfold joinT
  rw [show (0 : Int) = ((0 : Nat) : Int) from rfl, show (3 : Int) = ((3 : Nat) : Int) from rfl]
  simp only [List.flatMap_cons, List.flatMap_nil, itoa_nat]
  rw [Lib.decDigits_one (by decide), Lib.decDigits_one (by decide)]
  decide
theorem reads3 (w : World) : Reads (w.alloc (.cells #[.int .i64 3, .int .i64 0, .int .i64 64] 3)) (some ⟨w.heap.size, 0, none⟩) [3, 0, 64] := by
  intro k hk
  refine ⟨_, rfl, ?_⟩
  match k, hk with
  | 0, _ => simp [Addr.add]
  | 1, _ => simp [Addr.add]
  | 2, _ => simp [Addr.add]
theorem below_alloc (w : World) (o : Obj) : Below w.heap.size w (w.alloc o) := (Below.refl _ _).alloc (Nat.le_refl _) _
theorem of_is (A : Option Addr) (cap n : Nat) (l : List Int) (hn : l.length = n) (hl : n ≤ maxLen) (w : World) (hr : Reads w A l) (s : Nat) (h : ofL l = s) :
    Calls Tryd.prog 22 #[.slice A n cap] w fun e w' => e = .returned (.int .u64 s) ∧ w = w' := by
  subst hn; subst h
  exact of_any A cap l hl w hr
theorem alive_any (w : World) (ht : Tab w) : Calls Tryd.prog 6 #[] w fun e w' => e = .returned (.bool true) ∧ Below w.heap.size w w' := by
  have T := Lib.hid ht; clear ht
  go_enter Tryd.func6, Tryd.ntmps6
  go_wp2_with fail
  refine (of_is _ _ 3 [3, 0, 64] rfl (by decide) _ (reads3 w) 9 (by decide +kernel)).mono ?_; rintro e w' ⟨rfl, rfl⟩
  go_wp2_with fail
  refine (text_is 9 (by decide) _ text9 _ (tab_below T.out (tab_lt T.out) (below_alloc _ _))).mono ?_; rintro e w1 ⟨rfl, hb⟩
  have hb1 := (below_alloc w (.cells #[.int .i64 3, .int .i64 0, .int .i64 64] 3)).trans (hb.mono (by simp))
  go_wp2_with fail
  refine (has_is 8 (by decide) 3 true (by decide +kernel) _).mono ?_; rintro e w' ⟨rfl, rfl⟩
  go_wp2_with fail
  refine (has_is 8 (by decide) 64 false (by decide +kernel) _).mono ?_; rintro e w' ⟨rfl, rfl⟩
  go_wp2_with fail
  refine (count_is 9 (by decide) 2 (by decide +kernel) _).mono ?_; rintro e w' ⟨rfl, rfl⟩
  go_wp2_with fail
  refine (first_is 3 7 (by decide +kernel) _).mono ?_; rintro e w' ⟨rfl, rfl⟩
  go_wp2_with fail
  refine (text_is 0 (by decide) _ textT_zero _ (tab_below T.out (tab_lt T.out) hb1)).mono ?_; rintro e w2 ⟨rfl, hb2⟩
  go_wp2_with fail
  go_ret
  exact ⟨rfl, hb1.trans (hb2.mono hb1.size)⟩

theorem below_drewN (B : Nat) (w : World) (n : Nat) : Below B w (w.drewN n) := ⟨rfl, rfl, rfl, Nat.le_refl _, fun _ _ => rfl⟩
theorem beq_self_int (a : Int) : (a == a) = true := by simp
set_option maxHeartbeats 2000000 in
theorem tells_walk (s : Nat) (hs : s < 18446744073709551616) (t : Int) (w : World) (ht : Tab w) :
    Calls Tryd.prog 3 #[.int .u64 s, .int .i64 t] w fun e w' => e = .returned (.bool true) ∧ Below w.heap.size w w' := by
  have T := Lib.hid ht; clear ht
  go_enter Tryd.func3, Tryd.ntmps3
  go_wp2_with fail
  refine (alive_any _ T.out).mono ?_; rintro e w1 ⟨rfl, hb1⟩
  have T1 := Lib.hid (tab_below T.out (tab_lt T.out) hb1)
  go_wp2_with fail
  refine (has_any s hs t _).mono ?_; rintro e w' ⟨rfl, rfl⟩
  go_wp2_with fail
  refine (hasR_any s hs t _).mono ?_; rintro e w' ⟨rfl, rfl⟩
  go_wp2_with fail
  refine (with_any s hs t _).mono ?_; rintro e w' ⟨rfl, rfl⟩
  go_wp2_with fail
  refine (withR_any s hs t _).mono ?_; rintro e w' ⟨rfl, rfl⟩
  go_wp2_with fail
  refine (without_any s hs t _).mono ?_; rintro e w' ⟨rfl, rfl⟩
  go_wp2_with fail
  refine (withoutR_any s hs t _).mono ?_; rintro e w' ⟨rfl, rfl⟩
  go_wp2_with fail
  refine (count_is s hs (setI s).length (by rw [setI_eq, List.length_map]) _).mono ?_; rintro e w' ⟨rfl, rfl⟩
  go_wp2_with fail
  refine (listR_any s hs _).mono ?_; rintro e w2 ⟨v, rfl, hown, hb2⟩
  obtain ⟨A, cap, rfl, _⟩ := hown.reads
  clear hown
  have T2 := Lib.hid (tab_below T1.out (tab_lt T1.out) hb2)
  have hb12 := hb1.trans (hb2.mono hb1.size)
  go_wp2_with fail
  refine (first_any t _).mono ?_; rintro e w' ⟨rfl, rfl⟩
  go_wp2_with fail
  refine (firstR_any t _).mono ?_; rintro e w' ⟨rfl, rfl⟩
  go_wp2_with fail
  refine (each_any s hs _ T2.out).mono ?_; rintro e w3 ⟨v, rfl, hown, hb3⟩
  obtain ⟨A3, cap3, rfl, hr3⟩ := hown.reads
  have R3 := Lib.hid hr3; clear hr3 hown
  have T3 := Lib.hid (tab_below T2.out (tab_lt T2.out) hb3)
  have hb13 := hb12.trans (hb3.mono hb12.size)
  go_wp2_with fail
  refine (listR_any s hs _).mono ?_; rintro e w4 ⟨v, rfl, hown, hb4⟩
  obtain ⟨A4, cap4, rfl, hr4⟩ := hown.reads
  have R4 := Lib.hid hr4; clear hr4 hown
  have T4 := Lib.hid (tab_below T3.out (tab_lt T3.out) hb4)
  have hb14 := hb13.trans (hb4.mono hb13.size)
  go_wp2_with fail
  refine (ints_any A3 A4 _ _ (setI s) (setI_len s) _ (R3.out.below hb4) R4.out).mono ?_; rintro e w' ⟨rfl, n, rfl⟩
  go_wp2_with fail
  refine (text_any s hs _ (show Tab (w4.drewN n) from T4.out)).mono ?_; rintro e w5 ⟨rfl, hb5⟩
  go_wp2_with fail
  refine (textR_any s hs _).mono ?_; rintro e w6 ⟨rfl, hb6⟩
  go_wp2_with fail
  go_ret
  refine ⟨rfl, ?_⟩
  have h5 : Below w4.heap.size w4 w5 := (below_drewN _ _ n).trans hb5
  have hb15 := hb14.trans (h5.mono hb14.size)
  exact hb15.trans (hb6.mono hb15.size)

/-- Is it one of the first k? -/
def memB (l : List Int) (t : Int) (k : Nat) : Bool := decide (t ∈ l.take k)
theorem memB_succ {l : List Int} (t : Int) {k : Nat} (h : k < l.length) : memB l t (k + 1) = (memB l t k || (l[k] == t)) := by
  unfold memB
  rw [List.take_succ_eq_append_getElem h, Bool.eq_iff_iff]
  simp only [List.mem_append, List.mem_singleton, decide_eq_true_eq, Bool.or_eq_true, beq_iff_eq]
  rw [eq_comm (a := t)]
theorem of_walk (A : Option Addr) (cap : Nat) (l : List Int) (hl : l.length ≤ maxLen) (t : Int) (w : World) (ht : Tab w) (hr : Reads w A l) :
    Calls Tryd.prog 5 #[.slice A l.length cap, .int .i64 t] w fun e w' => e = .returned (.bool true) ∧ Below w.heap.size w w' := by
  have T := Lib.hid ht; clear ht
  have R := Lib.hid hr; clear hr
  by_cases h : 100 < l.length
  · have h' : (100 : Int) < l.length := by omega
    go_enter Tryd.func5, Tryd.ntmps5
    go_wp2_with fail
    refine (alive_any _ T.out).mono ?_; rintro e w1 ⟨rfl, hb1⟩
    go_wp2_with fail
    go_ret
    exact ⟨rfl, hb1⟩
  · have h' : (l.length : Int) ≤ 100 := by omega
    go_enter Tryd.func5, Tryd.ntmps5
    go_wp2_with fail
    go_loop [5, 6] (fun b i => ∃ k : Nat, k ≤ l.length ∧ i = .int .i64 k ∧ b = .bool (memB l t k)) (fun _ i => l.length - (intOf i).toNat)
    case atStart => exact ⟨0, by omega, rfl, by simp [memB]⟩
    case round =>
      obtain ⟨k, hk, rfl, rfl⟩ := hrel
      by_cases hlt : k < l.length
      · obtain ⟨ad, rfl, hc⟩ := R.out k hlt
        have hs := memB_succ t hlt
        obtain ⟨b, hb⟩ : ∃ b, memB l t k = b := ⟨_, rfl⟩
        rw [hb] at hs ⊢
        have S := Lib.hid hs; clear hs
        have B := Lib.hid hb; clear hb
        cases b
        · go_wp2_with fail
          go_round
          case rel => exact ⟨k + 1, by omega, by go_num, by rw [S.out]; rfl⟩
          case measure => simp [intOf]; omega
        · go_wp2_with fail
          go_round
          case rel => exact ⟨k + 1, by omega, by go_num, by rw [S.out]; rfl⟩
          case measure => simp [intOf]; omega
      · obtain rfl : k = l.length := by omega
        have hh : hasN (ofL l) t = (memB l t l.length && (decide (0 ≤ t) && decide (t < 64))) := by
          rw [hasN_ofL]; unfold memB; rw [List.take_length]; rw [Bool.eq_iff_iff]; simp
        have hlen := setL_ofL l
        have hcnt : ((setL (ofL l)).length : Int) ≤ l.length := by omega
        obtain ⟨b, hb⟩ : ∃ b, memB l t l.length = b := ⟨_, rfl⟩
        rw [hb] at hh ⊢
        have hlt := ofL_lt l
        have L := Lib.hid hlt; clear hlt hb
        have four : (b = false ∧ hasN (ofL l) t = false) ∨ (b = true ∧ t < 0 ∧ hasN (ofL l) t = false) ∨ (b = true ∧ 0 ≤ t ∧ 64 ≤ t ∧ hasN (ofL l) t = false) ∨ (b = true ∧ 0 ≤ t ∧ t < 64 ∧ hasN (ofL l) t = true) := by
          rw [hh]
          cases b
          · exact .inl ⟨rfl, rfl⟩
          · rcases (show t < 0 ∨ (0 ≤ t ∧ 64 ≤ t) ∨ (0 ≤ t ∧ t < 64) by omega) with h1 | ⟨h1, h2⟩ | ⟨h1, h2⟩
            · exact .inr (.inl ⟨rfl, h1, by simp; omega⟩)
            · exact .inr (.inr (.inl ⟨rfl, h1, h2, by simp; omega⟩))
            · exact .inr (.inr (.inr ⟨rfl, h1, h2, by simp; omega⟩))
        clear hh
        rcases four with ⟨rfl, hh⟩ | ⟨rfl, h1, hh⟩ | ⟨rfl, h1, h2, hh⟩ | ⟨rfl, h1, h2, hh⟩
        all_goals
          have H := Lib.hid hh; clear hh
          go_wp2_with fail
          refine (of_any A cap l hl _ R.out).mono ?_; rintro e w' ⟨rfl, rfl⟩
          go_wp2_with fail
          refine (has_is _ L.out t _ H.out _).mono ?_; rintro e w' ⟨rfl, rfl⟩
          go_wp2_with fail
          refine (count_any _ L.out _).mono ?_; rintro e w' ⟨rfl, rfl⟩
          go_wp2_with fail
          refine (alive_any _ T.out).mono ?_; rintro e w1 ⟨rfl, hb1⟩
          go_wp2_with fail
          go_ret
          first
            | exact ⟨rfl, hb1⟩
            | exact ⟨ret_bool (by simp; omega), hb1⟩
end Go.Proofs.YtfajkmcogceapaaDoor
