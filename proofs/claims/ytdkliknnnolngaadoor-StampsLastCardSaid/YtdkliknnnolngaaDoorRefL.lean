/- The reference's Same, Last. Own work. -/
import Derived.Test.YtdkliknnnolngaaDoorRefT
namespace Go.Proofs.YtdkliknnnolngaaDoor
open Go.ChangeShapes Go.WideShapes Go.ChangeAt Go.RowKit Cyc

theorem take_next_r {l m : List (List Int)} {k : Nat} (h1 : k < l.length) (h2 : k < m.length) (h : l.take k = m.take k) (e : l[k] = m[k]) : l.take (k + 1) = m.take (k + 1) := by
  rw [List.take_succ_eq_append_getElem h1, List.take_succ_eq_append_getElem h2, h, e]
theorem quiet_own {P : Program} {f : FuncId} {args : Array Value} {w : World} {a n : Nat} {v : Value}
    (h : ∀ q, Calls P f args (w.drewN q) fun e w' => e = .returned v ∧ ∃ m, w' = (w.drewN q).drewN m) :
    Calls P f args (w.drewN (a + n)) fun e w'' => e = .returned v ∧ ∃ m, w'' = w.drewN (a + m) :=
  quiet_add (h (a + n))
set_option maxHeartbeats 1000000 in
/-- Are two lists of rows the same? -/
theorem sameR_is (A A' : Option Addr) (c c' n m : Nat) (l l' : List (List Int)) (hn : l.length = n) (hm : l'.length = m) (w : World) (hr : RR w A c l) (hr' : RR w A' c' l') (b : Bool) (hb : decide (l = l') = b) :
    Calls Tryd.prog 20 #[.slice A n c, .slice A' m c'] w fun e w' => e = .returned (.bool b) ∧ ∃ n, w' = w.drewN n := by
  subst hn; subst hm
  have h1 := hr.max
  have h2 := hr'.max
  unfold maxLen at h1 h2
  have R := Lib.hid hr; clear hr
  have R' := Lib.hid hr'; clear hr'
  have HB := Lib.hid hb; clear hb
  by_cases hl : l.length = l'.length
  · have d1 : ((l.length : Int) != (l'.length : Int)) = false := by simp; omega
    have HL := Lib.hid hl; clear hl
    go_enter Tryd.func20, Tryd.ntmps20
    go_wp2_with fail
    go_loopw [5] (fun i wr => ∃ k n : Nat, k ≤ l.length ∧ i = .int .i64 k ∧ Hid (l.take k = l'.take k) ∧ wr = w.drewN n) (fun i _ => l.length - (intOf i).toNat)
    case atStart => exact ⟨0, 0, by omega, rfl, Lib.hid (by simp), rfl⟩
    case round =>
      obtain ⟨k, n, hk, rfl, hT, rfl⟩ := hrel
      by_cases hlt : k < l.length
      · have hlt' : k < l'.length := by have := HL.out; omega
        obtain ⟨ad, A1, c1, rfl, hc, hr1⟩ := R.out.at_ hlt
        obtain ⟨ad', A2, c2, rfl, hc', hr2⟩ := R'.out.at_ hlt'
        by_cases he : l[k] = l'[k]
        · have hT2 := Lib.hid (take_next_r hlt hlt' hT.out he)
          have D := Lib.hid (fun q => ints_is A1 A2 c1 c2 _ _ l[k] l'[k] rfl rfl (w.drewN q) hr1 hr2 true (by simp [he]))
          clear he hr1 hr2
          go_wp2_with fail
          go_quiet ((go_at_call 15; exact quiet_own D.out))
          go_wp2_with fail
          go_roundw
          case rel => exact ⟨k + 1, _, by omega, by go_num, hT2, rfl⟩
          case measure => simp [intOf]; omega
        · have hF : Hid (b = false) := Lib.hid (by
            rw [← HB.out, decide_eq_false_iff_not]; intro e; apply he; simp only [e])
          have D := Lib.hid (fun q => ints_is A1 A2 c1 c2 _ _ l[k] l'[k] rfl rfl (w.drewN q) hr1 hr2 false (by simp [he]))
          clear he hr1 hr2
          go_wp2_with fail
          go_quiet ((go_at_call 15; exact quiet_own D.out))
          go_wp2_with fail
          go_ret
          exact ⟨ret_bool hF.out.symm, _, World.drewN_drewN _ _ _⟩
      · obtain rfl : k = l.length := by omega
        have hF : Hid (b = true) := Lib.hid (by
          rw [← HB.out, decide_eq_true_iff]
          have := hT.out
          rwa [List.take_length, HL.out, List.take_length] at this)
        go_wp2_with fail
        go_ret
        exact ⟨ret_bool hF.out.symm, _, rfl⟩
  · have d1 : ((l.length : Int) != (l'.length : Int)) = true := by simp; omega
    have hF : Hid (b = false) := Lib.hid (by
      rw [← HB.out, decide_eq_false_iff_not]; intro e; exact hl (by rw [e]))
    clear hl
    go_enter Tryd.func20, Tryd.ntmps20
    go_wp2_with fail
    go_ret
    exact ⟨ret_bool hF.out.symm, 0, rfl⟩
/-! Last -/
def overOthers (L : List (List Int)) (t y : Nat) : Bool := (List.range y).all fun c => decide (c = t) || domL (L.getD t []) (L.getD c [])
theorem others_next (L : List (List Int)) (t y : Nat) : overOthers L t (y + 1) = (overOthers L t y && (decide (y = t) || domL (L.getD t []) (L.getD y []))) := by
  unfold overOthers; rw [List.range_succ, List.all_append]; simp
theorem others_end {L : List (List Int)} {t : Nat} (ht : t < L.length) : overOthers L t L.length = topP L t := by
  rw [Bool.eq_iff_iff, topP_iff ht]
  unfold overOthers
  rw [List.all_eq_true]
  constructor
  · intro h c hc
    have := h c (List.mem_range.2 hc)
    simpa [List.getD_eq_getElem?_getD, hc, ht] using this
  · intro h c hc
    have hc' := List.mem_range.1 hc
    have := h c hc'
    simpa [List.getD_eq_getElem?_getD, hc', ht] using this
set_option maxHeartbeats 2000000 in
theorem lastR_is (A : Option Addr) (c n : Nat) (L : List (List Int)) (hn : L.length = n) (w : World) (hr : RR w A c L) (z : Int) (hz : lastL L = z) :
    Calls Tryd.prog 22 #[.slice A n c] w fun e w' => e = .returned (.int .i64 z) ∧ ∃ q, w' = w.drewN q := by
  subst hn
  have hm := hr.max
  unfold maxLen at hm
  have R := Lib.hid hr; clear hr
  have Z : Hid (lastF (topP L) 0 (L.length - 0) = z) := Lib.hid hz
  clear hz
  go_enter Tryd.func22, Tryd.ntmps22
  go_wp2_with fail
  go_loopw [3] (fun i wr => ∃ t q : Nat, t ≤ L.length ∧ i = .int .i64 t ∧ Hid (lastF (topP L) t (L.length - t) = z) ∧ wr = w.drewN q) (fun i _ => L.length - (intOf i).toNat)
  case atStart => exact ⟨0, 0, by omega, rfl, Z, rfl⟩
  case round =>
    obtain ⟨t, q, htl, rfl, hS, rfl⟩ := hrel
    by_cases hlt : t < L.length
    · obtain ⟨ad, A1, c1, rfl, hc, hr1⟩ := R.out.at_ hlt
      have ST := Lib.hid (lastF_step hlt hS.out)
      have OE := Lib.hid (others_end hlt)
      have R1 := Lib.hid hr1
      have GT : Hid (L.getD t [] = L[t]) := Lib.hid (by rw [List.getD_eq_getElem?_getD, List.getElem?_eq_getElem hlt]; rfl)
      clear hr1 hS
      go_wp2_with fail
      go_loopw [4, 5] (fun v i wr => ∃ (y q : Nat) (a : Bool), y ≤ L.length ∧ v = .bool a ∧ i = .int .i64 y ∧ Hid (overOthers L t y = a) ∧ wr = w.drewN q) (fun _ i _ => L.length - (intOf i).toNat)
      case atStart => exact ⟨0, q, true, by omega, rfl, rfl, Lib.hid rfl, rfl⟩
      case round =>
        obtain ⟨y, q2, a, hy, rfl, rfl, hO, rfl⟩ := hrel
        by_cases hlt2 : y < L.length
        · obtain ⟨ad', A2, c2, e, hc2, hr2⟩ := R.out.at_ hlt2
          cases e
          have R2 := Lib.hid hr2; clear hr2
          have GY : Hid (L.getD y [] = L[y]) := Lib.hid (by rw [List.getD_eq_getElem?_getD, List.getElem?_eq_getElem hlt2]; rfl)
          have NX := Lib.hid (others_next L t y)
          cases a
          · have O2 : Hid (overOthers L t (y + 1) = false) := Lib.hid (by rw [NX.out, hO.out]; rfl)
            clear NX GY hO
            go_wp2_with fail
            go_quiet (fail)
            go_wp2_with fail
            go_roundw
            case rel => exact ⟨y + 1, _, false, by omega, rfl, by go_num, O2, rfl⟩
            case measure => simp [intOf]; omega
          · by_cases he : y = t
            · have hd1 : ((y : Int) == (t : Int)) = true := by simp [he]
              have O2 : Hid (overOthers L t (y + 1) = true) := Lib.hid (by rw [NX.out, hO.out, decide_eq_true he]; rfl)
              clear NX GY hO he
              go_wp2_with fail
              go_quiet (fail)
              go_wp2_with fail
              go_roundw
              case rel => exact ⟨y + 1, _, true, by omega, rfl, by go_num, O2, rfl⟩
              case measure => simp [intOf]; omega
            · have hd1 : ((y : Int) == (t : Int)) = false := by simp; omega
              obtain ⟨z2, hz2⟩ : ∃ z2, domL L[t] L[y] = z2 := ⟨_, rfl⟩
              have O2 : Hid (overOthers L t (y + 1) = z2) := Lib.hid (by rw [NX.out, hO.out, decide_eq_false he, GT.out, GY.out, hz2]; rfl)
              have D := Lib.hid (fun q => domR_is L[t] A1 A2 c1 c2 _ _ L[y] rfl rfl (w.drewN q) R1.out R2.out z2 hz2)
              clear NX GY hO he hz2
              go_wp2_with fail
              go_quiet ((go_at_call 19; exact quiet_own D.out))
              go_wp2_with fail
              go_roundw
              case rel => exact ⟨y + 1, _, z2, by omega, rfl, by go_num, O2, rfl⟩
              case measure => simp [intOf]; omega
        · obtain rfl : y = L.length := by omega
          have hO2 := OE.out.symm.trans hO.out
          cases a
          · have S2 := Lib.hid (ST.out.2 hO2)
            clear hO hO2
            go_wp2_with fail
            go_roundw
            case rel => exact ⟨t + 1, _, by omega, by go_num, S2, rfl⟩
            case measure => simp [intOf]; omega
          · have S2 := Lib.hid (ST.out.1 hO2)
            clear hO hO2
            go_wp2_with fail
            go_ret
            exact ⟨ret_int S2.out.symm, _, rfl⟩
    · obtain rfl : t = L.length := by omega
      have S2 : Hid (z = -1) := Lib.hid (by have := hS.out; rw [Nat.sub_self] at this; exact this.symm)
      clear hS
      go_wp2_with fail
      go_ret
      exact ⟨ret_int S2.out.symm, _, rfl⟩
end Go.Proofs.YtdkliknnnolngaaDoor
