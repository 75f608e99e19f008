/- The law's helpers of layer 7: far, ok, alive; New and Take with their answers under names. Own work. -/
import Derived.Test.YtdkliknnnolngaaDoorRefL
import Derived.Deep.RegionHeld3
namespace Go.Proofs.YtdkliknnnolngaaDoor
open Go.ChangeShapes Go.WideShapes Go.ChangeAt Go.RowKit Cyc

def farL (L : List (List Int)) : Bool := (L.any fun r => decide (40 < r.length)) || decide (40 < L.length)
def longs (L : List (List Int)) : Bool := L.any fun r => decide (40 < r.length)
theorem longs_at {L : List (List Int)} {j : Nat} (hj : j < L.length) (h : 40 < L[j].length) : longs L = true := List.any_eq_true.2 ⟨_, List.getElem_mem hj, by simpa using h⟩
theorem longs_next {L : List (List Int)} {j : Nat} (hj : j < L.length) (h : longs (L.take j) = false) (h1 : ¬ 40 < L[j].length) : longs (L.take (j + 1)) = false := by
  unfold longs at *
  rw [List.take_succ_eq_append_getElem hj, List.any_append, h]; simpa using h1
theorem farL_yes {L : List (List Int)} (h : longs L = true) : farL L = true := by unfold farL longs at *; rw [h]; rfl
theorem farL_end {L : List (List Int)} (h : longs (L.take L.length) = false) : farL L = decide (40 < L.length) := by
  rw [List.take_length] at h; unfold farL longs at *; rw [h]; rfl
theorem farL_len {L : List (List Int)} (h : farL L = false) : L.length ≤ 40 := by unfold farL at h; simp at h; omega
set_option maxHeartbeats 400000 in
theorem far_is (A : Option Addr) (c n : Nat) (L : List (List Int)) (hn : L.length = n) (w : World) (hr : RR w A c L) (z : Bool) (hz : farL L = z) :
    Calls Tryd.prog 5 #[.slice A n c] w fun e w' => e = .returned (.bool z) ∧ w = w' := by
  subst hn
  have hm := hr.max
  unfold maxLen at hm
  have R := Lib.hid hr; clear hr
  have Z := Lib.hid hz; clear hz
  go_enter Tryd.func5, Tryd.ntmps5
  go_wp2_with fail
  go_loop [3] (fun i => ∃ j : Nat, j ≤ L.length ∧ i = .int .i64 j ∧ Hid (longs (L.take j) = false)) (fun i => L.length - (intOf i).toNat)
  case atStart => exact ⟨0, by omega, rfl, Lib.hid (by simp [longs])⟩
  case round =>
    obtain ⟨j, hj, rfl, hall⟩ := hrel
    by_cases hlt : j < L.length
    · obtain ⟨ad, A', c', rfl, hc, hr'⟩ := R.out.at_ hlt
      have hm' := hr'.max
      unfold maxLen at hm'
      clear hr'
      by_cases he : 40 < L[j].length
      · have d1 : (40 : Int) < L[j].length := by omega
        have F : Hid (z = true) := Lib.hid (by rw [← Z.out, farL_yes (longs_at hlt he)])
        clear he
        go_wp2_with fail
        go_ret
        exact ⟨ret_bool F.out.symm, rfl⟩
      · have d1 : ¬ (40 : Int) < L[j].length := by omega
        have hall2 := Lib.hid (longs_next hlt hall.out he)
        clear he
        go_wp2_with fail
        go_round
        case rel => exact ⟨j + 1, by omega, by go_num, hall2⟩
        case measure => simp [intOf]; omega
    · obtain rfl : j = L.length := by omega
      have F := Lib.hid (farL_end hall.out)
      by_cases h40 : 40 < L.length
      · have d1 : (40 : Int) < L.length := by omega
        have G : Hid (z = true) := Lib.hid (by rw [← Z.out, F.out, decide_eq_true h40])
        go_wp2_with fail
        go_ret
        exact ⟨ret_bool G.out.symm, rfl⟩
      · have d1 : ¬ (40 : Int) < L.length := by omega
        have G : Hid (z = false) := Lib.hid (by rw [← Z.out, F.out, decide_eq_false h40])
        go_wp2_with fail
        go_ret
        exact ⟨ret_bool G.out.symm, rfl⟩
theorem ok_is (q z : Int) (hz : (if q = 0 then 1 else 0) = z) (w : World) : Calls Tryd.prog 9 #[.int .i64 q] w fun e w' => e = .returned (.int .i64 z) ∧ w = w' := by
  by_cases h : q = 0
  · subst h
    obtain rfl : z = 1 := by rw [← hz]; rfl
    go_enter Tryd.func9, Tryd.ntmps9
    go_wp2_with fail
    go_ret
    exact ⟨rfl, rfl⟩
  · obtain rfl : z = 0 := by rw [← hz, if_neg h]
    have d1 : ((q : Int) == 0) = false := by simp [h]
    clear hz h
    go_enter Tryd.func9, Tryd.ntmps9
    go_wp2_with fail
    go_ret
    exact ⟨rfl, rfl⟩
/-! answers under names -/
def NewF (n : Int) (m : Nat) (q : Int) (N : List (List Int)) : Prop := (1 ≤ n ∧ n ≤ 8 ∧ m = n.toNat ∧ q = 0 ∧ N = newL m) ∨ (¬ (1 ≤ n ∧ n ≤ 8) ∧ m = 0 ∧ q = 6 ∧ N = [])
theorem newL_len (m : Nat) : (newL m).length = m := by simp [newL]
theorem newL_fine {m : Nat} (h1 : 1 ≤ m) (h8 : m ≤ 8) : fineB (newL m) = true := by
  rw [fineB_iff, newL_len]
  refine ⟨h1, h8, fun r hr => ?_⟩
  have := List.eq_of_mem_replicate hr
  rw [this, List.length_replicate]
  exact ⟨by omega, fineL_zeros (by omega)⟩
theorem new_gen (n : Int) (w : World) : Calls Tryd.prog 7 #[.int .i64 n] w fun e w' => ∃ A c m q N, e = .returned (.tuple #[.slice A m c, .int .i64 q]) ∧ Hid (NewF n m q N) ∧ N.length = m ∧ Hid (RR w' A c N) ∧ Below w.heap.size w w' :=
  (new_is n w).mono fun e w' h => by
    unfold NewAns at h
    split at h
    · next hn =>
      obtain ⟨A, c, he, hr, hb⟩ := h
      exact ⟨A, c, n.toNat, 0, _, he, Lib.hid (.inl ⟨hn.1, hn.2, rfl, rfl, rfl⟩), newL_len _, Lib.hid hr, hb⟩
    · next hn =>
      obtain ⟨he, rfl⟩ := h
      exact ⟨none, 0, 0, 6, [], he, Lib.hid (.inr ⟨hn, rfl, rfl, rfl⟩), rfl, Lib.hid (RR.nil _), Below.refl _ _⟩
theorem new_good (m : Nat) (h1 : 1 ≤ m) (h8 : m ≤ 8) (w : World) : Calls Tryd.prog 7 #[.int .i64 m] w fun e w' => ∃ A c, e = .returned (.tuple #[.slice A m c, .int .i64 0]) ∧ RR w' A c (newL m) ∧ Below w.heap.size w w' :=
  (new_is m w).mono fun e w' h => by
    unfold NewAns at h
    rw [if_pos (by omega)] at h
    exact h
theorem new_bad (n : Int) (h : ¬ (1 ≤ n ∧ n ≤ 8)) (w : World) : Calls Tryd.prog 7 #[.int .i64 n] w fun e w' => e = .returned (.tuple #[.slice none 0 0, .int .i64 6]) ∧ w = w' :=
  (new_is n w).mono fun e w' hh => by
    unfold NewAns at hh
    rw [if_neg h] at hh
    exact hh
theorem take_far (A : Option Addr) (c n : Nat) (me : Int) (L : List (List Int)) (hn : L.length = n) (hf : fineB L = true) (hm : ¬ (0 ≤ me ∧ me < (n : Int))) (w : World) (ht : Ring w) (hr : RR w A c L) :
    Calls Tryd.prog 12 #[.slice A n c, .int .i64 me] w fun e w' => e = .returned (.tuple #[.slice none 0 0, .int .i64 6]) ∧ w = w' :=
  (take_is A c n me L hn w ht hr).mono fun e w' h => by
    unfold TakeAns at h
    rw [hf, if_pos rfl, hn, if_neg hm] at h
    exact h
theorem take_bad (A : Option Addr) (c n : Nat) (me : Int) (L : List (List Int)) (hn : L.length = n) (hf : fineB L = false) (w : World) (ht : Ring w) (hr : RR w A c L) :
    Calls Tryd.prog 12 #[.slice A n c, .int .i64 me] w fun e w' => e = .returned (.tuple #[.slice none 0 0, .int .i64 1]) ∧ w = w' :=
  (take_is A c n me L hn w ht hr).mono fun e w' h => by
    unfold TakeAns at h
    rw [hf, if_neg (by decide)] at h
    exact h
def TakeF (L : List (List Int)) (me : Int) (m : Nat) (q : Int) (N : List (List Int)) : Prop :=
  (fineB L = true ∧ (0 ≤ me ∧ me < (L.length : Int)) ∧ m = L.length ∧ q = 0 ∧ N = takeL L me.toNat) ∨ (fineB L = true ∧ ¬ (0 ≤ me ∧ me < (L.length : Int)) ∧ m = 0 ∧ q = 6 ∧ N = []) ∨ (fineB L = false ∧ m = 0 ∧ q = 1 ∧ N = [])
theorem take_gen (A : Option Addr) (c n : Nat) (me : Int) (L : List (List Int)) (hn : L.length = n) (w : World) (ht : Ring w) (hr : RR w A c L) :
    Calls Tryd.prog 12 #[.slice A n c, .int .i64 me] w fun e w' => ∃ A c m q N, e = .returned (.tuple #[.slice A m c, .int .i64 q]) ∧ Hid (TakeF L me m q N) ∧ N.length = m ∧ Hid (RR w' A c N) ∧ Below w.heap.size w w' :=
  (take_is A c n me L hn w ht hr).mono fun e w' h => by
    unfold TakeAns at h
    split at h
    · next hf =>
      split at h
      · next hm =>
        obtain ⟨A, c, he, hr, hb⟩ := h
        exact ⟨A, c, L.length, 0, _, he, Lib.hid (.inl ⟨hf, hm, rfl, rfl, rfl⟩), takeL_len _ _, Lib.hid hr, hb⟩
      · next hm =>
        obtain ⟨he, rfl⟩ := h
        exact ⟨none, 0, 0, 6, [], he, Lib.hid (.inr (.inl ⟨hf, hm, rfl, rfl, rfl⟩)), rfl, Lib.hid (RR.nil _), Below.refl _ _⟩
    · next hf =>
      obtain ⟨he, rfl⟩ := h
      exact ⟨none, 0, 0, 1, [], he, Lib.hid (.inr (.inr ⟨by simpa using hf, rfl, rfl, rfl⟩)), rfl, Lib.hid (RR.nil _), Below.refl _ _⟩
def inR (n : Int) (L : List (List Int)) : Bool := decide (0 ≤ n) && (decide (n ≤ 8) && rowsL n L)
theorem overA_no {n : Int} {L : List (List Int)} (h : inR n L = false) : overA n L = [] := by
  unfold overA; rw [if_neg]
  rintro ⟨h1, h2, h3⟩
  unfold inR at h; rw [decide_eq_true h1, decide_eq_true h2, h3] at h; cases h
theorem inR_iff {n : Int} {L : List (List Int)} : inR n L = true ↔ 0 ≤ n ∧ n ≤ 8 ∧ rowsL n L = true := by
  unfold inR; rw [Bool.and_eq_true, Bool.and_eq_true, decide_eq_true_iff, decide_eq_true_iff]
theorem overA_yes {n : Int} {L : List (List Int)} (h : inR n L = true) : overA n L = overL n.toNat L := by
  unfold overA; rw [if_pos (inR_iff.1 h)]
/-- Two rows of one digit, laid out. -/
theorem lit_two (w : World) (x y : Int) :
    RR (((w.alloc (.cells #[.int .i64 x] 3)).alloc (.cells #[.int .i64 y] 3)).alloc (.cells #[.slice (some ⟨w.heap.size, 0, none⟩) 1 1, .slice (some ⟨w.heap.size + 1, 0, none⟩) 1 1] 31)) (some ⟨w.heap.size + 1 + 1, 0, none⟩) 2 [[x], [y]] := by
  have o1 := own_one w x 0 (Nat.zero_le _)
  have o2 := own_one (w.alloc (.cells #[.int .i64 x] 3)) y 0 (Nat.zero_le _)
  have B2 := below_alloc (w.alloc (.cells #[.int .i64 x] 3)) (.cells #[.int .i64 y] 3)
  have B3 := below_alloc ((w.alloc (.cells #[.int .i64 x] 3)).alloc (.cells #[.int .i64 y] 3)) (.cells #[.slice (some ⟨w.heap.size, 0, none⟩) 1 1, .slice (some ⟨w.heap.size + 1, 0, none⟩) 1 1] 31)
  have r := rv_lit ((w.alloc (.cells #[.int .i64 x] 3)).alloc (.cells #[.int .i64 y] 3)) [.slice (some ⟨w.heap.size, 0, none⟩) 1 1, .slice (some ⟨w.heap.size + 1, 0, none⟩) 1 1] 31 2 rfl (by decide) _ rfl
  simp only [World.size_alloc] at o2 r
  have v1 : VI ((w.alloc (.cells #[.int .i64 x] 3)).alloc (.cells #[.int .i64 y] 3)) (.slice (some ⟨w.heap.size, 0, none⟩) 1 1) [x] := by
    obtain ⟨A, c, e, hr⟩ := (o1.below B2).reads
    exact ⟨A, c, e, hr⟩
  have v2 : VI ((w.alloc (.cells #[.int .i64 x] 3)).alloc (.cells #[.int .i64 y] 3)) (.slice (some ⟨w.heap.size + 1, 0, none⟩) 1 1) [y] := by
    obtain ⟨A, c, e, hr⟩ := o2.reads
    exact ⟨A, c, e, hr⟩
  exact ⟨_, r, ((Vals.single v1).append (Vals.single v2)).below B3⟩
theorem below_of_drew {w w' : World} {q : Nat} (h : w' = w.drewN q) : Below w.heap.size w w' := by subst h; exact below_drewN (Below.refl _ _) q
set_option maxHeartbeats 2000000 in
theorem alive_is (w : World) (ht : Ring w) : Calls Tryd.prog 6 #[] w fun e w' => e = .returned (.bool true) ∧ Below w.heap.size w w' := by
  have T := Lib.hid ht; clear ht
  have NEW : Hid (Calls Tryd.prog 7 #[.int .i64 2] w fun e w' => ∃ A c, e = .returned (.tuple #[.slice A 2 c, .int .i64 0]) ∧ RR w' A c [[0], [0]] ∧ Below w.heap.size w w') := Lib.hid (new_good 2 (by decide) (by decide) w)
  go_enter Tryd.func6, Tryd.ntmps6
  go_wp2_with fail
  refine NEW.out.mono ?_; rintro e w1 ⟨A1, c1, rfl, hr1, hb1⟩
  have T1 := Lib.hid (T.out.below hb1)
  have TK : Hid (Calls Tryd.prog 12 #[.slice A1 2 c1, .int .i64 0] w1 fun e w' => ∃ A c, e = .returned (.tuple #[.slice A 2 c, .int .i64 0]) ∧ RR w' A c [[1], [0]] ∧ Below w1.heap.size w1 w') :=
    Lib.hid (take_good A1 c1 2 0 [[0], [0]] rfl (by decide) (by decide) w1 T1.out hr1 _ (by decide))
  have R1 := Lib.hid hr1; have B1 := Lib.hid hb1
  clear hr1 hb1
  go_wp2_with fail
  refine TK.out.mono ?_; rintro e w2 ⟨A2, c2, rfl, hr2, hb2⟩
  have T2 := Lib.hid (T1.out.below hb2)
  have TK2 : Hid (Calls Tryd.prog 12 #[.slice A2 2 c2, .int .i64 1] w2 fun e w' => ∃ A c, e = .returned (.tuple #[.slice A 2 c, .int .i64 0]) ∧ RR w' A c [[1], [2]] ∧ Below w2.heap.size w2 w') :=
    Lib.hid (take_good A2 c2 2 1 [[1], [0]] rfl (by decide) (by decide) w2 T2.out hr2 _ (by decide))
  have B2 := Lib.hid (B1.out.trans (hb2.mono B1.out.size))
  have R1' := Lib.hid (R1.out.below hb2)
  clear hr2 hb2
  go_wp2_with fail
  refine TK2.out.mono ?_; rintro e w3 ⟨A3, c3, rfl, hr3, hb3⟩
  have T3 := Lib.hid (T2.out.below hb3)
  have TK3 : Hid (Calls Tryd.prog 12 #[.slice A3 2 c3, .int .i64 0] w3 fun e w' => ∃ A c, e = .returned (.tuple #[.slice A 2 c, .int .i64 0]) ∧ RR w' A c [[0], [2]] ∧ Below w3.heap.size w3 w') :=
    Lib.hid (take_good A3 c3 2 0 [[1], [2]] rfl (by decide) (by decide) w3 T3.out hr3 _ (by decide))
  have B3 := Lib.hid (B2.out.trans (hb3.mono B2.out.size))
  have R2' := Lib.hid (R1'.out.below hb3)
  clear hr3 hb3
  go_wp2_with fail
  refine TK3.out.mono ?_; rintro e w4 ⟨A4, c4, rfl, hr4, hb4⟩
  have T4 := Lib.hid (T3.out.below hb4)
  have B4 := Lib.hid (B3.out.trans (hb4.mono B3.out.size))
  have R3' := Lib.hid (R2'.out.below hb4)
  have R4 := Lib.hid hr4
  have TF : Hid (Calls Tryd.prog 12 #[.slice A1 2 c1, .int .i64 2] w4 fun e w' => e = .returned (.tuple #[.slice none 0 0, .int .i64 6]) ∧ w4 = w') :=
    Lib.hid (take_far A1 c1 2 2 [[0], [0]] rfl (by decide) (by decide) w4 T4.out R3'.out)
  have NB := Lib.hid (new_bad 0 (by decide) w4)
  have LT := Lib.hid ((lit_two w4 0 2))
  have S1 := Lib.hid (below_alloc w4 (.cells #[.int .i64 0] 3))
  have S2 := Lib.hid (below_alloc (w4.alloc (.cells #[.int .i64 0] 3)) (.cells #[.int .i64 2] 3))
  have S3 := Lib.hid (below_alloc ((w4.alloc (.cells #[.int .i64 0] 3)).alloc (.cells #[.int .i64 2] 3)) (.cells #[.slice (some ⟨w4.heap.size, 0, none⟩) 1 1, .slice (some ⟨w4.heap.size + 1, 0, none⟩) 1 1] 31))
  have S4 : Hid (Below w4.heap.size w4 (((w4.alloc (.cells #[.int .i64 0] 3)).alloc (.cells #[.int .i64 2] 3)).alloc (.cells #[.slice (some ⟨w4.heap.size, 0, none⟩) 1 1, .slice (some ⟨w4.heap.size + 1, 0, none⟩) 1 1] 31))) :=
    Lib.hid (S1.out.trans ((S2.out.mono S1.out.size).trans (S3.out.mono (Nat.le_trans S1.out.size S2.out.size))))
  clear hr4 hb4
  go_wp2_with fail
  refine TF.out.mono ?_; rintro e w5 ⟨rfl, rfl⟩
  go_wp2_with fail
  refine NB.out.mono ?_; rintro e w5 ⟨rfl, rfl⟩
  go_wp2_with fail
  have B5 := Lib.hid (B4.out.trans (S4.out.mono B4.out.size))
  have R4' := Lib.hid (R4.out.below S4.out)
  have R1'' := Lib.hid (R3'.out.below S4.out)
  have T5 := Lib.hid (T4.out.below S4.out)
  refine (sameR_is A4 _ c4 2 2 2 [[0], [2]] [[0], [2]] rfl rfl _ R4'.out LT.out true (by decide)).mono ?_; rintro e w6 ⟨rfl, q, hq⟩
  have E6 := Lib.hid (below_of_drew hq)
  have B6 := Lib.hid (B5.out.trans (E6.out.mono B5.out.size))
  have R4'' := Lib.hid (R4'.out.below E6.out)
  have Q1 := Lib.hid (R1''.out.below E6.out)
  have T6 := Lib.hid (T5.out.below E6.out)
  clear hq
  go_wp2_with fail
  refine (last_is A4 c4 2 [[0], [2]] rfl _ T6.out R4''.out 0 (by decide)).mono ?_; rintro e w7 ⟨rfl, hb7⟩
  have B7 := Lib.hid (B6.out.trans (hb7.mono B6.out.size))
  have R7 := Lib.hid (R4''.out.below hb7)
  have Q2 := Lib.hid (Q1.out.below hb7)
  have T7 := Lib.hid (T6.out.below hb7)
  clear hb7
  go_wp2_with fail
  refine (behind_is A4 c4 2 0 1 [[0], [2]] rfl _ T7.out R7.out true (by decide)).mono ?_; rintro e w8 ⟨rfl, q2, rfl⟩
  go_wp2_with fail
  refine (last_is A1 c1 2 [[0], [0]] rfl _ (show Ring (w7.drewN q2) from T7.out) (show RR (w7.drewN q2) _ _ _ from Q2.out) (-1) (by decide)).mono ?_; rintro e w9 ⟨rfl, hb9⟩
  have B9 := Lib.hid ((below_drewN B7.out q2).trans (hb9.mono B7.out.size))
  clear hb9
  go_wp2_with fail
  go_ret
  exact ⟨rfl, B9.out⟩
end Go.Proofs.YtdkliknnnolngaaDoor
