/- Contracts of mask and of its reference: one thread, one set. Own work. -/
import Derived.Test.YtfajkmcogceapaaDoorRows
import Derived.Test.YtfajkmcogceapaaDoorPop
import Derived.WalkKit
import Derived.ProofKit
import Derived.OpenShut
import Derived.WalkLawsBesides
import Derived.BigQuiet
import Derived.Deep.QuietTactic
import Derived.Shelf.Spec.TrailingZeros
import Derived.Lib.Hide
import Derived.Outline
namespace Go.Proofs.YtfajkmcogceapaaDoor
open Go.ChangeShapes Go.WideShapes Go.ChangeAt Go.RowKit Bits

theorem ret_int {k : IntKind} {a b : Int} (h : a = b) : Ending.returned (.int k a) = .returned (.int k b) := by rw [h]
theorem ret_bool {a b : Bool} (h : a = b) : Ending.returned (.bool a) = .returned (.bool b) := by rw [h]
theorem cast_ne0 (n : Nat) : ((n : Int) != 0) = (n != 0) := by rw [Bool.eq_iff_iff]; simp
theorem cast_odd (n : Nat) : ((n : Int) % 2 == 1) = decide (n % 2 = 1) := by rw [Bool.eq_iff_iff]; simp; omega
theorem two_pow_u64 {k : Nat} (h : k < 64) : IntKind.u64.wrap (2 ^ k) = ((2 ^ k : Nat) : Int) := by
  have : (2 : Nat) ^ k < 2 ^ 64 := Nat.pow_lt_pow_right (by decide) h
  have e : ((2 ^ k : Nat) : Int) = 2 ^ k := by simp
  rw [IntKind.wrap_u64, ← e]
  generalize (2 : Nat) ^ k = p at *
  omega
theorem i64_and127 {m : Nat} (h : m < 9223372036854775808) : bits .and .i64 (wrap64 m) 127 = ((m % 128 : Nat) : Int) := by
  have e : wrap64 (m : Int) = m := by unfold wrap64; omega
  rw [e]
  show IntKind.i64.wrap ((BitVec.ofInt 64 (m : Int) &&& BitVec.ofInt 64 ((127 : Nat) : Int)).toNat : Int) = _
  rw [BitVec.toNat_and, ofInt_u64 m (by omega), ofInt_u64 127 (by decide), nat_mask7, IntKind.wrap_i64]
  omega

theorem bit_any (t : Int) (w : World) : Calls Tryd.prog 23 #[.int .i64 t] w fun e w' => e = .returned (.int .u64 (bitN t)) ∧ w = w' := by
  by_cases h : 0 ≤ t
  · by_cases h2 : t < 64
    · have e : ((bitN t : Nat) : Int) = IntKind.u64.wrap (2 ^ t.toNat) := by rw [two_pow_u64 (by omega)]; unfold bitN; rw [if_pos ⟨h, h2⟩]
      have H := Lib.hid e; clear e
      go_enter Tryd.func23, Tryd.ntmps23
      go_wp2
      go_ret
      exact ⟨ret_int H.out.symm, rfl⟩
    · have e : bitN t = 0 := by unfold bitN; rw [if_neg (by omega)]
      have h3 : 64 ≤ t := by omega
      rw [e]
      go_enter Tryd.func23, Tryd.ntmps23
      go_wp2
      go_ret
      exact ⟨rfl, rfl⟩
  · have e : bitN t = 0 := by unfold bitN; rw [if_neg (by omega)]
    have h3 : t < 0 := by omega
    rw [e]
    go_enter Tryd.func23, Tryd.ntmps23
    go_wp2
    go_ret
    exact ⟨rfl, rfl⟩
theorem ones_any (s : Nat) (hs : s < 18446744073709551616) (w : World) : Calls Tryd.prog 24 #[.int .u64 s] w fun e w' => e = .returned (.int .i64 (setL s).length) ∧ w = w' := by
  obtain ⟨m, h, hl, hm⟩ := ones_eq hs
  go_enter Tryd.func24, Tryd.ntmps24
  go_wp2
  go_ret
  refine ⟨ret_int ?_, rfl⟩
  show bits .and .i64 (wrap64 (o6 (o5 (o4 (o3 (o2 (o1 s))))))) 127 = _
  rw [h, ← hl, i64_and127 hm]
theorem tz_core (x k idx : Nat) (w : World) (hx0 : ((x : Int) == 0) = false)
    (key : IntKind.u64.wrap (bits BinOp.and IntKind.u64 (x : Int) (IntKind.u64.wrap (-(x : Int))) * 285870213051353865) / 288230376151711744 = (idx : Int))
    (hi : idx < 64) (hk : k < 64) (hcell : w.cell? ⟨0, idx, none⟩ = some (.int .u8 k)) :
    Calls Tryd.prog 32 #[.int .u64 x] w fun e w' => e = .returned (.int .i64 k) ∧ w = w' := by
  go_enter Tryd.func32, Tryd.ntmps32
  go_wp2_with (simp only [key])
  go_ret
  exact ⟨rfl, rfl⟩
/-- The table of the library's. -/
abbrev Tab (w : World) : Prop := TabAt 0 Lib.deBruijn64tab w
theorem tz_any (x : Nat) (hx : x < 18446744073709551616) (h0 : x ≠ 0) (w : World) (ht : Tab w) :
    Calls Tryd.prog 32 #[.int .u64 x] w fun e w' => e = .returned (.int .i64 (Lib.ctz 64 x)) ∧ w = w' := by
  obtain ⟨hlow, hk⟩ := Lib.lowest_bit 64 x h0 hx
  obtain ⟨hi, htab⟩ := Lib.deBruijn64_at _ hk
  have hcell := ht _ hi
  rw [htab] at hcell
  exact tz_core x _ _ w (by simp; omega) (tz64_key x _ hx h0 hlow) hi hk hcell

theorem has_any (s : Nat) (hs : s < 18446744073709551616) (t : Int) (w : World) : Calls Tryd.prog 7 #[.int .u64 s, .int .i64 t] w fun e w' => e = .returned (.bool (hasN s t)) ∧ w = w' := by
  have hb := bitN_lt t
  go_enter Tryd.func7, Tryd.ntmps7
  go_wp2_with fail
  refine (bit_any _ _).mono ?_; rintro e w' ⟨rfl, rfl⟩
  go_wp2_with fail
  go_ret
  refine ⟨ret_bool ?_, rfl⟩
  rw [u64_and_nat _ _ hs hb, ← hasN_and]
  exact cast_ne0 _
theorem with_any (s : Nat) (hs : s < 18446744073709551616) (t : Int) (w : World) : Calls Tryd.prog 9 #[.int .u64 s, .int .i64 t] w fun e w' => e = .returned (.int .u64 (withN s t)) ∧ w = w' := by
  have hb := bitN_lt t
  go_enter Tryd.func9, Tryd.ntmps9
  go_wp2_with fail
  refine (bit_any _ _).mono ?_; rintro e w' ⟨rfl, rfl⟩
  go_wp2_with fail
  go_ret
  exact ⟨ret_int (u64_or_nat _ _ hs hb), rfl⟩
theorem without_any (s : Nat) (hs : s < 18446744073709551616) (t : Int) (w : World) : Calls Tryd.prog 11 #[.int .u64 s, .int .i64 t] w fun e w' => e = .returned (.int .u64 (withoutN s t)) ∧ w = w' := by
  have hb := bitN_lt t
  go_enter Tryd.func11, Tryd.ntmps11
  go_wp2_with fail
  refine (bit_any _ _).mono ?_; rintro e w' ⟨rfl, rfl⟩
  go_wp2_with fail
  go_ret
  exact ⟨ret_int (u64_andNot_nat _ _ hs hb), rfl⟩
theorem count_any (s : Nat) (hs : s < 18446744073709551616) (w : World) : Calls Tryd.prog 13 #[.int .u64 s] w fun e w' => e = .returned (.int .i64 (setL s).length) ∧ w = w' := by
  go_enter Tryd.func13, Tryd.ntmps13
  go_wp2_with fail
  refine (ones_any _ hs _).mono ?_; rintro e w' ⟨rfl, rfl⟩
  go_wp2_with fail
  go_ret
  exact ⟨rfl, rfl⟩
theorem first_num {k : Nat} (h : k ≤ 64) : IntKind.u64.wrap (IntKind.u64.wrap (2 ^ k) - 1) = ((2 ^ k - 1 : Nat) : Int) := by
  have h1 : (2 : Nat) ^ k ≤ 2 ^ 64 := Nat.pow_le_pow_right (by decide) h
  have h2 := Nat.two_pow_pos k
  have e : ((2 ^ k : Nat) : Int) = 2 ^ k := by simp
  rw [IntKind.wrap_u64, IntKind.wrap_u64, ← e]
  generalize (2 : Nat) ^ k = p at *
  omega
theorem first_any (n : Int) (w : World) : Calls Tryd.prog 15 #[.int .i64 n] w fun e w' => e = .returned (.int .u64 (firstN n)) ∧ w = w' := by
  by_cases h : n < 0
  · have e : firstN n = 0 := by unfold firstN; rw [show (min (max n 0) 64).toNat = 0 by omega]
    rw [e]
    go_enter Tryd.func15, Tryd.ntmps15
    go_wp2
    go_ret
    exact ⟨rfl, rfl⟩
  · by_cases h2 : 64 < n
    · have e : firstN n = 18446744073709551615 := by unfold firstN; rw [show (min (max n 0) 64).toNat = 64 by omega]
      rw [e]
      have h3 : 0 ≤ n := by omega
      go_enter Tryd.func15, Tryd.ntmps15
      go_wp2
      go_ret
      exact ⟨ret_int (first_num (k := 64) (by decide)), rfl⟩
    · have h3 : 0 ≤ n := by omega
      have h4 : n ≤ 64 := by omega
      have e : firstN n = 2 ^ n.toNat - 1 := by unfold firstN; rw [show (min (max n 0) 64).toNat = n.toNat by omega]
      rw [e]
      go_enter Tryd.func15, Tryd.ntmps15
      go_wp2
      go_ret
      exact ⟨ret_int (first_num (by omega)), rfl⟩

theorem hasR_any (s : Nat) (hs : s < 18446744073709551616) (t : Int) (w : World) : Calls Tryd.prog 8 #[.int .u64 s, .int .i64 t] w fun e w' => e = .returned (.bool (hasN s t)) ∧ w = w' := by
  by_cases h : 0 ≤ t
  · by_cases h2 : t ≤ 63
    · have hh := has_half s h (show t < 64 by omega)
      have H := Lib.hid hh; clear hh
      go_enter Tryd.func8, Tryd.ntmps8
      go_wp2
      go_loop [0, 5] (fun a b => ∃ k : Nat, (k : Int) ≤ t ∧ a = .int .u64 ((s / 2 ^ k : Nat) : Int) ∧ b = .int .i64 k) (fun _ b => (t - intOf b).toNat)
      case atStart => exact ⟨0, by omega, by simp, rfl⟩
      case round =>
        obtain ⟨k, hk, rfl, rfl⟩ := hrel
        obtain ⟨x, hx⟩ : ∃ x, x = s / 2 ^ k := ⟨_, rfl⟩
        have hx2 : x / 2 = s / 2 ^ (k + 1) := by rw [hx, Nat.pow_succ, Nat.div_div_eq_div_mul]
        have hxs : x < 18446744073709551616 := by rw [hx]; exact Nat.lt_of_le_of_lt (Nat.div_le_self _ _) hs
        rw [← hx]
        have X := Lib.hid hx; clear hx
        have X2 := Lib.hid hx2; clear hx2
        by_cases hlt : (k : Int) < t
        · go_wp2
          go_round
          case rel => exact ⟨k + 1, by omega, by rw [← X2.out]; rfl, by go_num⟩
          case measure => simp [intOf]; omega
        · go_wp2
          go_ret
          refine ⟨ret_bool ?_, rfl⟩
          rw [H.out, show t.toNat = k by omega, ← X.out]
          exact cast_odd x
    · rw [has_out s (show ¬ (0 ≤ t ∧ t < 64) by omega)]
      have h3 : 63 < t := by omega
      go_enter Tryd.func8, Tryd.ntmps8
      go_wp2
      go_ret
      exact ⟨rfl, rfl⟩
  · rw [has_out s (show ¬ (0 ≤ t ∧ t < 64) by omega)]
    have h3 : t < 0 := by omega
    go_enter Tryd.func8, Tryd.ntmps8
    go_wp2
    go_ret
    exact ⟨rfl, rfl⟩
theorem hasR_is (s : Nat) (hs : s < 18446744073709551616) (t : Int) (b : Bool) (h : hasN s t = b) (w : World) : Calls Tryd.prog 8 #[.int .u64 s, .int .i64 t] w fun e w' => e = .returned (.bool b) ∧ w = w' := by
  rw [← h]; exact hasR_any s hs t w
def P2 (k : Nat) : Nat := 2 ^ k
theorem P2_lt {k : Nat} (h : k < 64) : P2 k < 18446744073709551616 := by
  have : (2 : Nat) ^ k < 2 ^ 64 := Nat.pow_lt_pow_right (by decide) h
  unfold P2; omega
theorem P2_succ (k : Nat) : 2 * P2 k = P2 (k + 1) := by unfold P2; rw [Nat.pow_succ]; omega
set_option maxHeartbeats 400000 in
theorem withR_any (s : Nat) (hs : s < 18446744073709551616) (t : Int) (w : World) : Calls Tryd.prog 10 #[.int .u64 s, .int .i64 t] w fun e w' => e = .returned (.int .u64 (withN s t)) ∧ w = w' := by
  by_cases hin : 0 ≤ t ∧ t < 64
  · obtain ⟨h, h2⟩ := hin
    cases hh : hasN s t
    · have he := with_add h h2 hh
      have hlt := withN_lt hs t
      have H := Lib.hid he; clear he
      have Hh := Lib.hid hh; clear hh
      have h3 : t ≤ 63 := by omega
      go_enter Tryd.func10, Tryd.ntmps10
      go_wp2_with fail
      refine (hasR_is s hs t false Hh.out _).mono ?_; rintro e w' ⟨rfl, rfl⟩
      go_wp2_with fail
      go_loop [5, 6] (fun a b => ∃ k : Nat, (k : Int) ≤ t ∧ a = .int .u64 (P2 k : Nat) ∧ b = .int .i64 k) (fun _ b => (t - intOf b).toNat)
      case atStart => exact ⟨0, by omega, rfl, rfl⟩
      case round =>
        obtain ⟨k, hk, rfl, rfl⟩ := hrel
        have hp := P2_lt (k := k) (by omega)
        by_cases hlt2 : (k : Int) < t
        · have hp2 := P2_lt (k := k + 1) (by omega)
          rw [← P2_succ] at hp2
          go_wp2
          go_round
          case rel => exact ⟨k + 1, by omega, by rw [← P2_succ]; rfl, by go_num⟩
          case measure => simp [intOf]; omega
        · have e : withN s t = s + P2 k := by rw [H.out, show t.toNat = k by omega]; rfl
          rw [e] at hlt
          have E := Lib.hid e; clear e
          go_wp2
          go_ret
          exact ⟨ret_int (by have := E.out; omega), rfl⟩
    · rw [with_has hh]
      have Hh := Lib.hid hh; clear hh
      have h3 : t ≤ 63 := by omega
      go_enter Tryd.func10, Tryd.ntmps10
      go_wp2_with fail
      refine (hasR_is s hs t true Hh.out _).mono ?_; rintro e w' ⟨rfl, rfl⟩
      go_wp2_with fail
      go_ret
      exact ⟨rfl, rfl⟩
  · rw [with_out s hin]
    rcases (show t < 0 ∨ (0 ≤ t ∧ 63 < t) by omega) with h | ⟨h, h2⟩
    all_goals
      go_enter Tryd.func10, Tryd.ntmps10
      go_wp2_with fail
      go_ret
      exact ⟨rfl, rfl⟩
theorem with_zero {t : Int} (h0 : 0 ≤ t) (h1 : t < 64) : withN 0 t = 2 ^ t.toNat := by
  rw [with_add h0 h1 (by unfold hasN; simp), Nat.zero_add]
theorem withoutR_any (s : Nat) (hs : s < 18446744073709551616) (t : Int) (w : World) : Calls Tryd.prog 12 #[.int .u64 s, .int .i64 t] w fun e w' => e = .returned (.int .u64 (withoutN s t)) ∧ w = w' := by
  cases hh : hasN s t
  · rw [without_out hs hh]
    have Hh := Lib.hid hh; clear hh
    go_enter Tryd.func12, Tryd.ntmps12
    go_wp2_with fail
    refine (hasR_is s hs t false Hh.out _).mono ?_; rintro e w' ⟨rfl, rfl⟩
    go_wp2_with fail
    go_ret
    exact ⟨rfl, rfl⟩
  · have ht : 0 ≤ t ∧ t < 64 := by unfold hasN at hh; simp at hh; omega
    have h1 := without_sub hs hh
    have h2 := with_zero ht.1 ht.2
    have h3 := withN_lt (s := 0) (by decide) t
    have e : (s : Int) - (withN 0 t : Nat) = (withoutN s t : Nat) := by omega
    have h4 : 0 ≤ (s : Int) - (withN 0 t : Nat) := by omega
    have Hh := Lib.hid hh; clear hh
    have E := Lib.hid e; clear e h1 h2 ht
    go_enter Tryd.func12, Tryd.ntmps12
    go_wp2_with fail
    refine (hasR_is s hs t true Hh.out _).mono ?_; rintro e w' ⟨rfl, rfl⟩
    go_wp2_with fail
    refine (withR_any 0 (by decide) t _).mono ?_; rintro e w' ⟨rfl, rfl⟩
    go_wp2_with fail
    go_ret
    exact ⟨ret_int E.out, rfl⟩
def F2 (k : Nat) : Nat := 2 ^ k - 1
theorem F2_lt {k : Nat} (h : k ≤ 64) : F2 k < 18446744073709551616 := by
  have : (2 : Nat) ^ k ≤ 2 ^ 64 := Nat.pow_le_pow_right (by decide) h
  unfold F2; omega
theorem withR_F2 {k : Nat} (h : k < 64) (w : World) : Calls Tryd.prog 10 #[.int .u64 (F2 k : Nat), .int .i64 k] w fun e w' => e = .returned (.int .u64 (F2 (k + 1) : Nat)) ∧ w = w' := by
  have := withR_any (F2 k) (F2_lt (by omega)) k w
  rw [show withN (F2 k) k = F2 (k + 1) from firstN_succ h] at this
  exact this
set_option maxHeartbeats 400000 in
theorem firstR_any (n : Int) (w : World) : Calls Tryd.prog 16 #[.int .i64 n] w fun e w' => e = .returned (.int .u64 (firstN n)) ∧ w = w' := by
  obtain ⟨m, hm⟩ : ∃ m, m = (min (max n 0) 64).toNat := ⟨_, rfl⟩
  have e : firstN n = F2 m := by unfold firstN F2; rw [hm]
  rw [e]
  have h1 : m ≤ 64 := by omega
  have h2 : (m : Int) ≤ max n 0 := by omega
  have h3 : m = 64 ∨ n ≤ (m : Int) := by omega
  clear hm e
  go_enter Tryd.func16, Tryd.ntmps16
  go_wp2_with fail
  go_loop [3, 4] (fun a b => ∃ k : Nat, k ≤ m ∧ a = .int .u64 (F2 k : Nat) ∧ b = .int .i64 k) (fun _ b => m - (intOf b).toNat)
  case atStart => exact ⟨0, by omega, rfl, rfl⟩
  case round =>
    obtain ⟨k, hk, rfl, rfl⟩ := hrel
    by_cases hlt : k < m
    · have a1 : (k : Int) < 64 := by omega
      have a2 : (k : Int) < n := by omega
      go_wp2_with fail
      refine (withR_F2 (by omega) _).mono ?_; rintro e w' ⟨rfl, rfl⟩
      go_wp2_with fail
      go_round
      case rel => exact ⟨k + 1, by omega, rfl, by go_num⟩
      case measure => simp [intOf]; omega
    · obtain rfl : k = m := by omega
      rcases (show (64 ≤ (k : Int)) ∨ ((k : Int) < 64 ∧ n ≤ (k : Int)) by omega) with a | ⟨a, b⟩
      all_goals
        clear h3
        go_wp2_with fail
        go_ret
        exact ⟨rfl, rfl⟩

/-! slices of numbers -/
/-- A slice's places read as the numbers l. -/
def Reads (w : World) (A : Option Addr) (l : List Int) : Prop := ∀ k (h : k < l.length), ∃ ad, A = some ad ∧ w.cell? (ad.add k) = some (.int .i64 l[k])
theorem Reads.keep {w w' : World} {A : Option Addr} {l : List Int} (h : Reads w A l) (hk : ∀ p x, w.cell? p = some x → w'.cell? p = some x) : Reads w' A l :=
  fun k hl => by obtain ⟨ad, e, hc⟩ := h k hl; exact ⟨ad, e, hk _ _ hc⟩
theorem ofL_snoc (l : List Int) {k : Nat} (h : k < l.length) : ofL (l.take (k + 1)) = withN (ofL (l.take k)) l[k] := by
  unfold ofL; rw [List.take_succ_eq_append_getElem h, List.foldl_append]; rfl
theorem with_ofL (l : List Int) {k : Nat} (h : k < l.length) (w : World) : Calls Tryd.prog 9 #[.int .u64 (ofL (l.take k) : Nat), .int .i64 l[k]] w fun e w' => e = .returned (.int .u64 (ofL (l.take (k + 1)) : Nat)) ∧ w = w' := by
  rw [ofL_snoc l h]; exact with_any _ (ofL_lt _) _ _
theorem of_any (A : Option Addr) (cap : Nat) (l : List Int) (hl : l.length ≤ maxLen) (w : World) (hr : Reads w A l) :
    Calls Tryd.prog 22 #[.slice A l.length cap] w fun e w' => e = .returned (.int .u64 (ofL l)) ∧ w = w' := by
  unfold maxLen at hl
  have R := Lib.hid hr; clear hr
  go_enter Tryd.func22, Tryd.ntmps22
  go_wp2_with fail
  go_loop [3, 8] (fun a b => ∃ k : Nat, k ≤ l.length ∧ a = .int .u64 (ofL (l.take k) : Nat) ∧ b = .int .i64 k) (fun _ b => l.length - (intOf b).toNat)
  case atStart => exact ⟨0, by omega, rfl, rfl⟩
  case round =>
    obtain ⟨k, hk, rfl, rfl⟩ := hrel
    by_cases hlt : k < l.length
    · obtain ⟨ad, rfl, hc⟩ := R.out k hlt
      go_wp2_with fail
      refine (with_ofL l hlt _).mono ?_; rintro e w' ⟨rfl, rfl⟩
      go_wp2_with fail
      go_round
      case rel => exact ⟨k + 1, by omega, rfl, by go_num⟩
      case measure => simp [intOf]; omega
    · obtain rfl : k = l.length := by omega
      go_wp2_with fail
      go_ret
      exact ⟨rfl, rfl⟩
end Go.Proofs.YtfajkmcogceapaaDoor
