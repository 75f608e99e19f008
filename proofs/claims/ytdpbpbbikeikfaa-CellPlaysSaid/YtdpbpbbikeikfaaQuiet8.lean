/- CellQuiet: without overlapping a read tells what was written last. Own work. -/
import Derived.Test.YtdpbpbbikeikfaaAlive8
namespace Go.Proofs.Ytdpbpbbikeikfaa
open Go.ChangeShapes Go.WideShapes Go.ChangeAt Go.RowKit CellM

theorem within_any (n h : Int) (hlh : 0 ≤ h) (w : World) : Calls Try.prog 24 #[.int .i64 n, .int .i64 0, .int .i64 h] w fun e w' => e = .returned (.int .i64 (cap h n)) ∧ w = w' := by
  unfold cap
  go_enter Try.func24, Try.ntmps24
  go_wp2
  all_goals go_ret
  all_goals exact ⟨ret_int (by omega), rfl⟩
theorem clampR_is (n t z : Int) (hz : cap (cap 1099511627776 t) n = z) (w : World) : Calls Try.prog 15 #[.int .i64 n, .int .i64 t] w fun e w' => e = .returned (.int .i64 z) ∧ w = w' := by
  subst hz
  have hc := cap_le 1099511627776 t (by decide)
  go_enter Try.func15, Try.ntmps15
  go_wp2_with fail
  refine (within_any _ _ (by decide) _).mono ?_; rintro e w' ⟨rfl, rfl⟩
  go_wp2_with fail
  refine (within_any _ _ (by omega) _).mono ?_; rintro e w' ⟨rfl, rfl⟩
  go_wp2_with fail
  go_ret
  exact ⟨rfl, rfl⟩
/-- Nothing is under way. -/
def calm (kind top v : Int) : St := ⟨kind, top, v, fun _ => idle⟩
theorem calm_good {kind top v : Int} (h : 0 ≤ top ∧ top ≤ 1099511627776) : CellM.Good (calm kind top v) 0 :=
  ⟨h, fun _ => .inl rfl, fun _ h => absurd rfl h, fun _ _ h => by simp [calm, idle] at h, fun _ => Nat.le_refl _⟩
theorem calm_new {kind top : Int} (h : 0 ≤ top ∧ top ≤ 1099511627776) : new kind top = calm kind top 0 := by unfold new calm; rw [cap_in h.1 h.2]
theorem put_put (S : St) (t : Nat) (a b : CellM.Acc) : put (put S t a) t b = put S t b := by
  unfold put
  simp only [St.mk.injEq, true_and]
  funext i; split <;> rfl
theorem put_calm (kind top v : Int) (t : Nat) : put (calm kind top v) t idle = calm kind top v := put_self (calm kind top v) t
theorem calm_err {kind top v : Int} {t : Int} {k : Int} (ht : isT t = true) (hk : k = 1 ∨ k = 2) : errB (calm kind top v) t k = 0 := by
  unfold errB
  rw [if_neg (by rw [ht]; simp; omega)]
  rfl
theorem meet_calm (kind top v x : Int) (n : Nat) : meet (calm kind top v) x n = calm kind top v := by
  unfold meet calm
  simp only [St.mk.injEq, true_and]
  funext i; simp [idle]
theorem calm_write {kind top v x : Int} {t : Int} (ht : isT t = true) (draw : Int) :
    errE (beg (calm kind top v) t 2 x) t = 0 ∧ finV (beg (calm kind top v) t 2 x) t draw = 0 ∧ fin (beg (calm kind top v) t 2 x) t = calm kind top (cap top x) := by
  have hb : beg (calm kind top v) t 2 x = put (calm kind top v) t.toNat ⟨2, cap top x, false, []⟩ := by
    unfold beg
    rw [calm_err ht (.inr rfl)]
    simp only [ne_eq, not_true_eq_false, if_false]
    rw [if_neg (by decide)]
    unfold begW
    rw [meet_calm]
    rfl
  have hd : (put (calm kind top v) t.toNat ⟨2, cap top x, false, []⟩).d t.toNat = ⟨2, cap top x, false, []⟩ := by rw [put_d, if_pos rfl]
  rw [hb]
  have he : errE (put (calm kind top v) t.toNat ⟨2, cap top x, false, []⟩) t = 0 := by
    unfold errE
    rw [hd, if_neg (by rw [ht]; simp)]
  refine ⟨he, ?_, ?_⟩
  · unfold finV endV; rw [he, hd]; simp
  · unfold fin endS
    rw [he, hd]
    simp only [ne_eq, not_true_eq_false, if_false, if_true]
    rw [put_put, put_calm]
    rfl
theorem overs_calm (kind top v : Int) : ∀ n, overs (calm kind top v) n = read0 (calm kind top v)
  | 0 => rfl
  | n + 1 => by rw [overs_no (by simp [calm, idle])]; exact overs_calm kind top v n
theorem calm_read {kind top v x : Int} {t : Int} (ht : isT t = true) (draw : Int) :
    errE (beg (calm kind top v) t 1 x) t = 0 ∧ finV (beg (calm kind top v) t 1 x) t draw = v ∧ fin (beg (calm kind top v) t 1 x) t = calm kind top v := by
  have hb : beg (calm kind top v) t 1 x = put (calm kind top v) t.toNat (read0 (calm kind top v)) := by
    unfold beg
    rw [calm_err ht (.inl rfl)]
    simp only [ne_eq, not_true_eq_false, if_false, if_true]
    unfold begR
    rw [overs_calm]
  have hd : (put (calm kind top v) t.toNat (read0 (calm kind top v))).d t.toNat = read0 (calm kind top v) := by rw [put_d, if_pos rfl]
  have hk : (read0 (calm kind top v)).k = 1 := rfl
  rw [hb]
  have he : errE (put (calm kind top v) t.toNat (read0 (calm kind top v))) t = 0 := by
    unfold errE
    rw [hd, if_neg (by rw [ht, hk]; simp)]
  refine ⟨he, ?_, ?_⟩
  · unfold finV endV
    rw [he, hd, hk]
    simp only [ne_eq, not_true_eq_false, if_false]
    rw [if_neg (by decide)]
    unfold told
    by_cases h2 : kind = 2
    · subst h2
      have : draw % 1 = 0 := by omega
      simp [put, calm, read0, this]
    · simp [put, calm, read0, h2]
  · unfold fin endS
    rw [he, hd, hk]
    simp only [ne_eq, not_true_eq_false, if_false]
    rw [if_neg (by decide), put_put, put_calm]
theorem busy_calm (kind top v : Int) : ∀ n, busy (calm kind top v) n = 0
  | 0 => rfl
  | n + 1 => by
    show (if ((calm kind top v).d n).k = 0 then _ else _) = 0
    rw [if_pos (show ((calm kind top v).d n).k = 0 from rfl), busy_calm kind top v n]
/-- The slice's places hold the pairs L. -/
def RP (w : World) (A : Option Addr) (c : Nat) (L : List (Int × Int)) : Prop :=
  L.length ≤ c ∧ c ≤ maxLen ∧ ∀ k (h : k < L.length), ∃ ad, A = some ad ∧ w.cell? (ad.add (k * 2)) = some (.int .i64 L[k].1) ∧ w.cell? ⟨(ad.add (k * 2)).block, (ad.add (k * 2)).off + 1, none⟩ = some (.int .i64 L[k].2)
theorem RP.below {w w' : World} {A : Option Addr} {c : Nat} {L : List (Int × Int)} (h : RP w A c L) (hb : Below w.heap.size w w') : RP w' A c L :=
  ⟨h.1, h.2.1, fun k hk => by
    obtain ⟨ad, e, h1, h2⟩ := h.2.2 k hk
    exact ⟨ad, e, (hb.cell (cell_lt h1)).trans h1, (hb.cell (cell_lt h2)).trans h2⟩⟩
/-- What the law's loop has come to: the values written so far, the last of them. -/
def lastN (top : Int) (L : List (Int × Int)) : Nat → Int
  | 0 => 0
  | n + 1 => if (L.getD n (0, 0)).1.tmod 2 = 0 then cap top (L.getD n (0, 0)).2 else lastN top L n
set_option maxHeartbeats 4000000 in
set_option maxRecDepth 20000 in
theorem quiet_is (w : World) (kind top : Int) (hkd : 0 ≤ kind ∧ kind < 256) (htp : 0 ≤ top ∧ top < 65536) (A : Option Addr) (c n : Nat) (L : List (Int × Int)) (hn : L.length = n) (hr : RP w A c L) :
    Calls Try.prog 4 #[.int .u8 kind, .int .u16 top, .slice A n c] w fun e w' => e = .returned (.bool true) ∧ Below w.heap.size w w' := by
  subst hn
  have hmax : L.length ≤ maxLen := Nat.le_trans hr.1 hr.2.1
  unfold maxLen at hmax
  have R := Lib.hid hr; clear hr
  by_cases hl : L.length ≤ 60
  · go_enter Try.func4, Try.ntmps4
    go_wp2_with fail
    refine (new_is w (1 + kind % 3) top).mono ?_; rintro e w1 ⟨rfl, hP, hB⟩
    have htop : 0 ≤ top ∧ top ≤ 1099511627776 := by omega
    rw [calm_new htop] at hP
    have M0 := Lib.hid (show Mine w.heap.size w w1 w.heap.size (calm (1 + kind % 3) top 0) 0 from ⟨hP, calm_good htop, hB, hB.size⟩)
    clear hP hB
    go_wp2_with fail
    go_loopw [8, 9] (fun z i wr => ∃ k : Nat, k ≤ L.length ∧ i = .int .i64 k ∧ z = .int .i64 (lastN top L k) ∧ Hid (Mine w.heap.size w wr w.heap.size (calm (1 + kind % 3) top (lastN top L k)) 0)) (fun _ i _ => L.length - (intOf i).toNat)
    case atStart => exact ⟨0, by omega, rfl, rfl, M0⟩
    case round =>
      obtain ⟨k, hk, rfl, rfl, M⟩ := hrel
      by_cases hlt : k < L.length
      · obtain ⟨ad, rfl, hx1, hx2⟩ := (R.out.below M.out.below).2.2 k hlt
        have ht8 : isT ((k : Int) % 8) = true := by unfold isT; simp; omega
        by_cases hw : L[k].1.tmod 2 = 0
        · have d1 : (L[k].1.tmod 2 == 0) = true := by simp [hw]
          go_wp2_with fail
          refine (M.out.calls_beg (by omega) ((k : Int) % 8) 2 0 L[k].2).mono ?_; rintro e w2 ⟨rfl, h2⟩
          rw [calm_err ht8 (.inr rfl)]
          clear hx1 hx2
          obtain ⟨ad', ea, hx1, hx2⟩ := (R.out.below h2.below).2.2 k hlt
          obtain rfl : ad = ad' := by cases ea; rfl
          clear M ea; have M := Lib.hid h2; clear h2
          go_wp2_with fail
          refine (M.out.calls_end (by omega) ((k : Int) % 8) L[k].1).mono ?_; rintro e w3 ⟨rfl, h2⟩
          obtain ⟨q1, q2, q3⟩ := calm_write (kind := 1 + kind % 3) (top := top) (v := lastN top L k) (x := L[k].2) ht8 L[k].1
          rw [q1, q2]
          rw [q3] at h2
          clear hx1 hx2 q1 q2 q3
          obtain ⟨ad', ea, hx1, hx2⟩ := (R.out.below h2.below).2.2 k hlt
          obtain rfl : ad = ad' := by cases ea; rfl
          clear M ea
          have M := Lib.hid (show Mine w.heap.size w w3 w.heap.size (calm (1 + kind % 3) top (cap top L[k].2)) 0 from ⟨h2.at_, calm_good htop, h2.below, h2.size⟩)
          clear h2
          have hlast : lastN top L (k + 1) = cap top L[k].2 := by
            show (if (L.getD k (0, 0)).1.tmod 2 = 0 then _ else _) = _
            rw [List.getD_eq_getElem?_getD, List.getElem?_eq_getElem hlt]
            exact if_pos hw
          go_wp2_with fail
          refine (clampR_is _ _ (cap top L[k].2) (by rw [cap_in htop.1 htop.2]) _).mono ?_; rintro e w4 ⟨rfl, rfl⟩
          go_wp2_with fail
          refine (value_is _ _ _ _ M.out.at_).mono ?_; rintro e w5 ⟨rfl, rfl⟩
          rw [show (calm (1 + kind % 3) top (cap top L[k].2)).value = cap top L[k].2 from rfl]
          go_wp2_with fail
          refine M.out.calls_busy.mono ?_; rintro e w6 ⟨rfl, h2⟩
          rw [busy_calm]
          clear M; have M := Lib.hid h2; clear h2
          go_wp2_with fail
          go_roundw
          case rel => exact ⟨k + 1, by omega, by go_num, by rw [hlast], by rw [hlast]; exact M⟩
          case measure => simp [intOf]; omega
        · have d1 : (L[k].1.tmod 2 == 0) = false := by simp [hw]
          go_wp2_with fail
          refine (M.out.calls_beg (by omega) ((k : Int) % 8) 1 0 L[k].2).mono ?_; rintro e w2 ⟨rfl, h2⟩
          rw [calm_err ht8 (.inl rfl)]
          clear hx1 hx2
          obtain ⟨ad', ea, hx1, hx2⟩ := (R.out.below h2.below).2.2 k hlt
          obtain rfl : ad = ad' := by cases ea; rfl
          clear M ea; have M := Lib.hid h2; clear h2
          go_wp2_with fail
          refine (M.out.calls_end (by omega) ((k : Int) % 8) L[k].1).mono ?_; rintro e w3 ⟨rfl, h2⟩
          obtain ⟨q1, q2, q3⟩ := calm_read (kind := 1 + kind % 3) (top := top) (v := lastN top L k) (x := L[k].2) ht8 L[k].1
          rw [q1, q2]
          rw [q3] at h2
          clear hx1 hx2 q1 q2 q3
          obtain ⟨ad', ea, hx1, hx2⟩ := (R.out.below h2.below).2.2 k hlt
          obtain rfl : ad = ad' := by cases ea; rfl
          clear M ea
          have M := Lib.hid (show Mine w.heap.size w w3 w.heap.size (calm (1 + kind % 3) top (lastN top L k)) 0 from ⟨h2.at_, calm_good htop, h2.below, h2.size⟩)
          clear h2
          have hlast : lastN top L (k + 1) = lastN top L k := by
            show (if (L.getD k (0, 0)).1.tmod 2 = 0 then _ else _) = _
            rw [List.getD_eq_getElem?_getD, List.getElem?_eq_getElem hlt]
            exact if_neg hw
          go_wp2_with fail
          refine (value_is _ _ _ _ M.out.at_).mono ?_; rintro e w5 ⟨rfl, rfl⟩
          rw [show (calm (1 + kind % 3) top (lastN top L k)).value = lastN top L k from rfl]
          go_wp2_with fail
          refine M.out.calls_busy.mono ?_; rintro e w6 ⟨rfl, h2⟩
          rw [busy_calm]
          clear M; have M := Lib.hid h2; clear h2
          go_wp2_with fail
          go_roundw
          case rel => exact ⟨k + 1, by omega, by go_num, by rw [hlast], by rw [hlast]; exact M⟩
          case measure => simp [intOf]; omega
      · obtain rfl : k = L.length := by omega
        go_wp2_with fail
        refine (alive_is _).mono ?_; rintro e w' ⟨rfl, hB⟩
        have HB := Lib.hid hB; clear hB
        go_wp2_with fail
        go_ret
        exact ⟨rfl, M.out.below.trans (HB.out.mono M.out.size)⟩
  · go_enter Try.func4, Try.ntmps4
    go_wp2_with fail
    refine (alive_is _).mono ?_; rintro e w' ⟨rfl, hB⟩
    have HB := Lib.hid hB; clear hB
    go_wp2_with fail
    go_ret
    exact ⟨rfl, HB.out⟩
end Go.Proofs.Ytdpbpbbikeikfaa
