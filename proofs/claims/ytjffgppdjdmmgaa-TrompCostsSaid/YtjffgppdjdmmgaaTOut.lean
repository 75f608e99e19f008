/- What is told of an operation: lists without noughts at their end; told. Own work. -/
import Derived.Test.YtjffgppdjdmmgaaTMem
import Derived.Test.YtjffgppdjdmmgaaClone
import Derived.LoopTactic
namespace Go.Proofs.Ytjffgppdjdmmgaa
open Go.ChangeShapes Go.WideShapes Go.ChangeAt Go.RowKit CellM TapeM

theorem RowK.ri {w : World} {A : Option Addr} {h c n : Nat} {l : List Int} (H : RowK w 1 A h c n (valsI l)) : l.length = n ∧ RI w A c l := by
  have hlen : l.length = n := by have := H.len; rw [valsI_len] at this; omega
  refine ⟨hlen, by rw [hlen]; exact H.le, H.max, fun e => ?_, fun k hk => ?_⟩
  · rcases H.addr with ⟨h0, _⟩ | h1
    · exact h0
    · rw [e] at h1; cases h1
  · obtain ⟨hA, _⟩ := H.get (i := k) (by omega)
    refine ⟨_, hA, ?_⟩
    have : (⟨h, 0, none⟩ : Addr).add k = ⟨h, k, none⟩ := by unfold Addr.add; split <;> simp_all
    rw [this]
    exact (H.at_ k _ (valsI_at hk)).1
theorem sh_next {l : List Int} {m : Nat} (hm : m < l.length) : sh l (m + 1) = if l[m] = 0 then sh l m else m + 1 := by
  have : l.getD m 0 = l[m] := by simp [List.getD, hm]
  show (if l.getD m 0 = 0 then sh l m else m + 1) = _
  rw [this]
theorem upTo_is (w : World) (A : Option Addr) (c n : Nat) (l : List Int) (hn : l.length = n) (hr : RI w A c l) (k : Nat) (hk : shN l = k) :
    Calls Try.prog 44 #[.slice A n c] w fun e w' => e = .returned (.slice A k c) ∧ w = w' := by
  subst hn
  have hmax := hr.max
  unfold maxLen at hmax
  have R := Lib.hid hr
  have HK := Lib.hid hk
  clear hr hk
  go_enter Try.func44, Try.ntmps44
  go_wp2_with fail
  go_loop [3] (fun i => ∃ m : Nat, m ≤ l.length ∧ i = .int .i64 m ∧ Hid (sh l m = k)) (fun i => (intOf i).toNat)
  case atStart => exact ⟨l.length, Nat.le_refl _, rfl, HK⟩
  case round =>
    obtain ⟨m, hm, rfl, HM⟩ := hrel
    cases m with
    | zero =>
      have hk0 : k = 0 := HM.out.symm
      subst hk0
      have hcut := (cutToI R.out rfl (Nat.zero_le l.length)).1
      go_wp2_with fail
      go_ret
      exact ⟨rfl, rfl⟩
    | succ m =>
      have hlt : m < l.length := by omega
      have hs := sh_next hlt
      obtain ⟨ad, rfl, hc⟩ := R.out.at_ hlt
      have hm1 : ((m + 1 : Nat) : Int) - 1 = m := by omega
      by_cases h0 : l[m] = 0
      · rw [if_pos h0] at hs
        have H2 : Hid (sh l m = k) := Lib.hid (hs.symm.trans HM.out)
        have d0 : (l[m] == 0) = true := by simp [h0]
        clear hs h0
        go_wp2_with fail
        go_round
        case rel => exact ⟨m, by omega, by go_num, H2⟩
        case measure => simp [intOf]
      · rw [if_neg h0] at hs
        have hk1 : k = m + 1 := HM.out.symm.trans hs
        subst hk1
        have hcut := (cutToI R.out rfl (show m + 1 ≤ l.length by omega)).1
        simp only [Int.natCast_add, Int.natCast_one] at hcut
        have d0 : (l[m] == 0) = false := by simp [h0]
        clear hs h0 HM HK
        go_wp2_with fail
        go_ret
        exact ⟨rfl, rfl⟩
/-- The reference's Short. -/
theorem shortR_is (w : World) (A : Option Addr) (c n : Nat) (l : List Int) (hn : l.length = n) (hr : RI w A c l) (k : Nat) (hk : shN l = k) :
    Calls Try.prog 41 #[.slice A n c] w fun e w' => e = .returned (.slice A k c) ∧ w = w' := by
  subst hn
  have hmax := hr.max
  unfold maxLen at hmax
  have R := Lib.hid hr
  have HK := Lib.hid hk
  clear hr hk
  go_enter Try.func41, Try.ntmps41
  go_wp2_with fail
  go_loop [0] (fun v => ∃ m : Nat, m ≤ l.length ∧ v = .slice A m c ∧ Hid (sh l m = k)) (fun v => match v with | .slice _ m _ => m | _ => 0)
  case atStart => exact ⟨l.length, Nat.le_refl _, rfl, HK⟩
  case round =>
    obtain ⟨m, hm, rfl, HM⟩ := hrel
    cases m with
    | zero =>
      have hk0 : k = 0 := HM.out.symm
      subst hk0
      go_wp2_with fail
      go_ret
      exact ⟨rfl, rfl⟩
    | succ m =>
      have hlt : m < l.length := by omega
      have hs := sh_next hlt
      obtain ⟨ad, rfl, hc⟩ := R.out.at_ hlt
      have hm1 : ((m + 1 : Nat) : Int) - 1 = m := by omega
      by_cases h0 : l[m] = 0
      · rw [if_pos h0] at hs
        have H2 : Hid (sh l m = k) := Lib.hid (hs.symm.trans HM.out)
        have d0 : (l[m] == 0) = true := by simp [h0]
        have hT := R.out.take (m + 1)
        have hcut := (cutToI hT (by rw [List.length_take]; omega) (Nat.le_succ m)).1
        clear hs h0 hT
        go_wp2_with fail
        go_round
        case rel => exact ⟨m, by omega, by go_num, H2⟩
        case measure => simp
      · rw [if_neg h0] at hs
        have hk1 : k = m + 1 := HM.out.symm.trans hs
        subst hk1
        have d0 : (l[m] == 0) = false := by simp [h0]
        clear hs h0 HM HK
        go_wp2_with fail
        go_ret
        exact ⟨rfl, rfl⟩
/-- Short -/
theorem short_is (w : World) (A : Option Addr) (c n : Nat) (l : List Int) (hn : l.length = n) (h1000 : n ≤ 1000) (hr : RI w A c l) :
    Calls Try.prog 24 #[.slice A n c] w (GivesI w (short l)) := by
  have HU := Lib.hid (upTo_is w A c n l hn hr _ rfl)
  have hle : shN l ≤ l.length := sh_le l l.length
  have HC := Lib.hid (clone_is A c (shN l) (short l) (short_len l) (by omega) w (hr.take _))
  go_enter Try.func24, Try.ntmps24
  go_wp2_with fail
  refine HU.out.mono ?_; rintro e w' ⟨rfl, rfl⟩
  go_wp2_with fail
  refine HC.out.mono ?_; rintro e w' ⟨v, rfl, ho, hb⟩
  have HO := Lib.hid (And.intro ho hb)
  clear ho hb
  go_wp2_with fail
  go_ret
  exact ⟨v, rfl, HO.out.1, HO.out.2⟩
end Go.Proofs.Ytjffgppdjdmmgaa
