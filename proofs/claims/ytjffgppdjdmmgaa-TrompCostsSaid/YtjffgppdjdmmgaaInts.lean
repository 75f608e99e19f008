/- The reference's Ints. Own work. -/
import Derived.Test.YtjffgppdjdmmgaaIntsB
namespace Go.Proofs.Ytjffgppdjdmmgaa
open Go.ChangeShapes Go.WideShapes Go.ChangeAt Go.RowKit

theorem ne_self (a : Int) : (a != a) = false := by simp
theorem take_next {l m : List Int} {k : Nat} (h1 : k < l.length) (h2 : k < m.length) (h : l.take k = m.take k) (e : l[k] = m[k]) : l.take (k + 1) = m.take (k + 1) := by
  rw [List.take_succ_eq_append_getElem h1, List.take_succ_eq_append_getElem h2, h, e]
set_option maxHeartbeats 800000 in
/-- Are two rows of ints the same? -/
theorem ints_is (A A' : Option Addr) (c c' n m : Nat) (l l' : List Int) (hn : l.length = n) (hm : l'.length = m) (w : World) (hr : RI w A c l) (hr' : RI w A' c' l') (b : Bool) (hb : decide (l = l') = b) :
    Calls Try.prog 40 #[.slice A n c, .slice A' m c'] w fun e w' => e = .returned (.bool b) ∧ ∃ n, w' = w.drewN n := by
  subst hn; subst hm
  have h1 := hr.max
  have h2 := hr'.max
  unfold maxLen at h1 h2
  have R := Lib.hid hr; clear hr
  have R' := Lib.hid hr'; clear hr'
  have HB := Lib.hid hb; clear hb
  by_cases hl : l.length = l'.length
  · have d1 : ((l.length : Int) != (l'.length : Int)) = false := by simp; omega
    have HL := Lib.hid hl; clear hl
    go_enter Try.func40, Try.ntmps40
    go_wp2_with fail
    go_loopw [5] (fun i wr => ∃ k n : Nat, k ≤ l.length ∧ i = .int .i64 k ∧ Hid (l.take k = l'.take k) ∧ wr = w.drewN n) (fun i _ => l.length - (intOf i).toNat)
    case atStart => exact ⟨0, 0, by omega, rfl, Lib.hid (by simp), rfl⟩
    case round =>
      obtain ⟨k, n, hk, rfl, hT, rfl⟩ := hrel
      by_cases hlt : k < l.length
      · have hlt' : k < l'.length := by have := HL.out; omega
        obtain ⟨ad, rfl, hc⟩ := R.out.at_ hlt
        obtain ⟨ad', rfl, hc'⟩ := R'.out.at_ hlt'
        by_cases he : l[k] = l'[k]
        · have hT2 := Lib.hid (take_next hlt hlt' hT.out he)
          have hne : ((l[k] : Int) != l'[k]) = false := by simp [he]
          clear he
          go_wp2_with fail
          go_quiet (fail)
          go_wp2_with fail
          go_roundw
          case rel => exact ⟨k + 1, _, by omega, by go_num, hT2, rfl⟩
          case measure => simp [intOf]; omega
        · have hF : Hid (b = false) := Lib.hid (by
            rw [← HB.out, decide_eq_false_iff_not]; intro e; apply he; simp only [e])
          have hne : ((l[k] : Int) != l'[k]) = true := by simp [he]
          clear he
          go_wp2_with fail
          go_quiet (fail)
          go_wp2_with fail
          go_ret
          exact ⟨ret_bool hF.out.symm, n + nq, by rw [World.drewN_drewN]⟩
      · obtain rfl : k = l.length := by omega
        have hF : Hid (b = true) := Lib.hid (by
          rw [← HB.out, decide_eq_true_iff]
          have := hT.out
          rwa [List.take_length, HL.out, List.take_length] at this)
        go_wp2_with fail
        go_ret
        exact ⟨ret_bool hF.out.symm, _, rfl⟩
  · have d1 : ((l.length : Int) != (l'.length : Int)) = true := by simp; omega
    have hF : Hid (b = false) := Lib.hid (by
      rw [← HB.out, decide_eq_false_iff_not]; intro e; exact hl (by rw [e]))
    clear hl
    go_enter Try.func40, Try.ntmps40
    go_wp2_with fail
    go_ret
    exact ⟨ret_bool hF.out.symm, 0, rfl⟩
end Go.Proofs.Ytjffgppdjdmmgaa
