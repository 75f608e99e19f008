/- The contract of the reference's Digits: the decimal numeral. Own work (XDigits, without nums). -/
import Derived.Test.YtnihnfhophmlhaaDoorRows
import Derived.WalkKit
import Derived.ProofKit
import Derived.OpenShut
import Derived.WalkLawsBesides
import Derived.Lib.Hide
import Derived.Outline
import Derived.Lib.Itoa
import Derived.Lib.ItoaLen
import Derived.LoopTactic
namespace Go.Proofs.YtnihnfhophmlhaaDoor
open Go.ChangeShapes Go.WideShapes Go.ChangeAt Go.RowKit

/-- What the reference has told of u, when v is left. -/
def Dig (u v : Nat) (l : List UInt8) : Prop := (l = [] ∧ v = u) ∨ (l ≠ [] ∧ v = 0 ∧ l = Lib.decDigits u) ∨ (l ≠ [] ∧ 0 < v ∧ Lib.decDigits v ++ l = Lib.decDigits u)
theorem Dig.step {u v : Nat} {l : List UInt8} (h : Dig u v l) (hv : v ≠ 0 ∨ l = []) : Dig u (v / 10) (UInt8.ofNat (48 + v % 10) :: l) := by
  have hd : Lib.decDigits v = if v < 10 then [UInt8.ofNat (48 + v)] else Lib.decDigits (v / 10) ++ [UInt8.ofNat (48 + v % 10)] := by
    rw [Lib.decDigits]; split <;> rfl
  have key : Lib.decDigits v ++ l = Lib.decDigits u := by
    rcases h with ⟨rfl, rfl⟩ | ⟨h1, rfl, h2⟩ | ⟨_, _, h2⟩
    · simp
    · rcases hv with hv | hv
      · exact absurd rfl hv
      · exact absurd hv h1
    · exact h2
  by_cases hlt : v < 10
  · rw [if_pos hlt] at hd
    refine .inr (.inl ⟨by simp, by omega, ?_⟩)
    rw [← key, hd, Nat.mod_eq_of_lt hlt]; rfl
  · rw [if_neg hlt] at hd
    refine .inr (.inr ⟨by simp, by omega, ?_⟩)
    rw [← key, hd]; simp
theorem Dig.len {u v : Nat} {l : List UInt8} (h : Dig u v l) (hu : u ≤ 9223372036854775808) : l.length ≤ 21 := by
  have hl : (Lib.decDigits u).length ≤ 21 := by
    rcases Nat.eq_zero_or_pos u with rfl | hp
    · rw [Lib.decDigits_one (by decide)]; simp
    have := Lib.itoa_length_le (-(u : Int)) (by omega) (by omega)
    rw [Lib.itoa_neg u hp] at this
    simp at this; omega
  rcases h with ⟨rfl, _⟩ | ⟨_, _, rfl⟩ | ⟨_, _, h2⟩
  · simp
  · exact hl
  · rw [← h2] at hl; simp at hl; omega
theorem Dig.done {u : Nat} {l : List UInt8} (h : Dig u 0 l) (hl : l ≠ []) : l = Lib.decDigits u := by
  rcases h with ⟨h1, _⟩ | ⟨_, _, h2⟩ | ⟨_, h1, _⟩
  · exact absurd h1 hl
  · exact h2
  · omega
theorem piece (d : Nat) (hd : d ≤ 9) (l : List UInt8) : (⟨#[48, 49, 50, 51, 52, 53, 54, 55, 56, 57]⟩ : ByteArray).extract d (d + 1) ++ ⟨l.toArray⟩ = ⟨(UInt8.ofNat (48 + d) :: l).toArray⟩ := by
  have e : (⟨#[48, 49, 50, 51, 52, 53, 54, 55, 56, 57]⟩ : ByteArray).extract d (d + 1) = ⟨#[UInt8.ofNat (48 + d)]⟩ := by
    have : ∀ d : Fin 10, (⟨#[48, 49, 50, 51, 52, 53, 54, 55, 56, 57]⟩ : ByteArray).extract d.val (d.val + 1) = ⟨#[UInt8.ofNat (48 + d.val)]⟩ := by decide +kernel
    exact this ⟨d, by omega⟩
  rw [e]; ext1; simp
theorem tmod_down (v : Nat) : (-(v : Int)).tmod 10 = -((v % 10 : Nat) : Int) := by rw [Int.neg_tmod]; congr 1
theorem tdiv_down (v : Nat) : (-(v : Int)).tdiv 10 = -((v / 10 : Nat) : Int) := by rw [Int.neg_tdiv]; congr 1

/-- The numeral of a digit. -/
def dgt (d : Nat) : UInt8 := UInt8.ofNat (48 + d)
theorem slice_run : ∀ (d : Nat), d ≤ 9 → ∀ w : World, Sem.run Tryd.prog (Instr.slice 9 (Value.string ⟨#[48, 49, 50, 51, 52, 53, 54, 55, 56, 57]⟩) (some (.int .i64 (d : Int))) (some (.int .i64 ((d : Int) + 1))) none) w = .ok (.string ⟨#[dgt d]⟩) w
  | 0, _, _ | 1, _, _ | 2, _, _ | 3, _, _ | 4, _, _ | 5, _, _ | 6, _, _ | 7, _, _ | 8, _, _ | 9, _, _ => by kernel_rfl
  | n + 10, h, _ => by omega
theorem cons_str (c : UInt8) (l : List UInt8) : (⟨#[c]⟩ : ByteArray) ++ ⟨l.toArray⟩ = ⟨(c :: l).toArray⟩ := by ext1; simp
theorem nil_str (l : List UInt8) : (⟨#[]⟩ : ByteArray) ++ ⟨l.toArray⟩ = ⟨l.toArray⟩ := by ext1; simp
theorem minus_str (l : List UInt8) : (⟨#[45]⟩ : ByteArray) ++ ⟨l.toArray⟩ = ⟨(45 :: l).toArray⟩ := cons_str _ _
theorem ret_str {a b : ByteArray} (h : a = b) : Ending.returned (.string a) = .returned (.string b) := by rw [h]

/-- The measure: nothing is told yet, or so much is left. -/
def left : Value → Value → Nat
  | a, .string b => if b.size = 0 then 9223372036854775810 else (intOf a).natAbs
  | _, _ => 0
theorem left_cons (v : Nat) (c : UInt8) (l l' : List UInt8) (w : Nat) (h : l ≠ [] → w < v) (hw : w ≤ 9223372036854775808) : left (.int .i64 (-(w : Int))) (.string ⟨(c :: l').toArray⟩) < left (.int .i64 (-(v : Int))) (.string ⟨l.toArray⟩) := by
  cases l with
  | nil => simp [left, intOf, ByteArray.size]; omega
  | cons a r => simp [left, intOf, ByteArray.size]; exact h (by simp)

/-- What a round leaves. -/
theorem round_ok {n v d q : Nat} {l : List UInt8} (hv : v ≤ 9223372036854775808) (hD : Dig n v l) (ho : ¬(v = 0 ∧ l ≠ [])) (hd : d = v % 10) (hq : q = v / 10) :
    (∃ (v' : Nat) (l' : List UInt8), Value.int .i64 (-(q : Int)) = Value.int .i64 (-(v' : Int)) ∧ Value.string (⟨#[dgt d]⟩ ++ ⟨l.toArray⟩) = .string ⟨l'.toArray⟩ ∧ v' ≤ 9223372036854775808 ∧ Dig n v' l') ∧
    left (.int .i64 (-(q : Int))) (.string (⟨#[dgt d]⟩ ++ ⟨l.toArray⟩)) < left (.int .i64 (-(v : Int))) (.string ⟨l.toArray⟩) := by
  have hs := hD.step (by
    rcases Nat.eq_zero_or_pos v with h | h
    · exact .inr (Classical.byContradiction fun h' => ho ⟨h, h'⟩)
    · exact .inl (by omega))
  rw [cons_str]
  subst hd hq
  refine ⟨⟨_, _, rfl, rfl, by omega, hs⟩, left_cons _ _ _ _ _ (fun hl => ?_) (by omega)⟩
  rcases Nat.eq_zero_or_pos v with h | h
  · exact absurd ⟨h, hl⟩ ho
  · omega

theorem digitsR_pos (n : Int) (h1 : n ≤ 9223372036854775807) (hn : 0 ≤ n) (w : World) : Calls Tryd.prog 24 #[.int .i64 n] w fun e w' => e = .returned (.string ⟨(Lib.itoa n).toArray⟩) ∧ w' = w := by
  have hu : n.toNat ≤ 9223372036854775808 := by omega
  go_enter Tryd.func24, Tryd.ntmps24
  go_wp2
  go_loop [0, 4] (fun a s => ∃ (v : Nat) (l : List UInt8), a = .int .i64 (-(v : Int)) ∧ s = .string ⟨l.toArray⟩ ∧ v ≤ 9223372036854775808 ∧ Dig n.toNat v l) (fun a s => left a s)
  case atStart => exact ⟨n.toNat, [], by congr 1; omega, rfl, by omega, .inl ⟨rfl, rfl⟩⟩
  case round =>
    obtain ⟨v, l, rfl, rfl, hv, hD⟩ := hrel
    have hl := hD.len hu
    by_cases hout : v = 0 ∧ l ≠ []
    · obtain ⟨rfl, hl0⟩ := hout
      have hl1 : l.isEmpty = false := by simpa using hl0
      go_wp2
      go_ret
      exact ⟨ret_str (by rw [nil_str, hD.done hl0]; unfold Lib.itoa; rw [if_neg (by omega)]), rfl⟩
    · by_cases hv0 : 0 < v
      · obtain ⟨d, hd⟩ : ∃ d, d = v % 10 := ⟨_, rfl⟩
        obtain ⟨q, hq⟩ : ∃ q, q = v / 10 := ⟨_, rfl⟩
        have hm := tmod_down v
        have ht := tdiv_down v
        rw [← hd] at hm
        rw [← hq] at ht
        have hs := slice_run d (by omega)
        have hd9 : d ≤ 9 := by omega
        have hq9 : q ≤ 9223372036854775807 := by omega
        have H := Lib.hid (round_ok hv hD hout hd hq); clear hd hq hout hD
        go_wp2
        exact H.out
      · obtain rfl : v = 0 := by omega
        obtain rfl : l = [] := Classical.byContradiction fun h => hout ⟨rfl, h⟩
        have H := Lib.hid (round_ok hv hD hout (d := 0) (q := 0) rfl rfl); clear hout hD
        go_wp2
        exact H.out

theorem digitsR_neg (n : Int) (h0 : -9223372036854775808 ≤ n) (hn : n < 0) (w : World) : Calls Tryd.prog 24 #[.int .i64 n] w fun e w' => e = .returned (.string ⟨(Lib.itoa n).toArray⟩) ∧ w' = w := by
  have hu : n.natAbs ≤ 9223372036854775808 := by omega
  go_enter Tryd.func24, Tryd.ntmps24
  go_wp2
  go_loop [0, 4] (fun a s => ∃ (v : Nat) (l : List UInt8), a = .int .i64 (-(v : Int)) ∧ s = .string ⟨l.toArray⟩ ∧ v ≤ 9223372036854775808 ∧ Dig n.natAbs v l) (fun a s => left a s)
  case atStart => exact ⟨n.natAbs, [], by congr 1; omega, rfl, by omega, .inl ⟨rfl, rfl⟩⟩
  case round =>
    obtain ⟨v, l, rfl, rfl, hv, hD⟩ := hrel
    have hl := hD.len hu
    by_cases hout : v = 0 ∧ l ≠ []
    · obtain ⟨rfl, hl0⟩ := hout
      have hl1 : l.isEmpty = false := by simpa using hl0
      go_wp2
      go_ret
      exact ⟨ret_str (by rw [minus_str, hD.done hl0]; unfold Lib.itoa; rw [if_pos (by omega)]), rfl⟩
    · by_cases hv0 : 0 < v
      · obtain ⟨d, hd⟩ : ∃ d, d = v % 10 := ⟨_, rfl⟩
        obtain ⟨q, hq⟩ : ∃ q, q = v / 10 := ⟨_, rfl⟩
        have hm := tmod_down v
        have ht := tdiv_down v
        rw [← hd] at hm
        rw [← hq] at ht
        have hs := slice_run d (by omega)
        have hd9 : d ≤ 9 := by omega
        have hq9 : q ≤ 9223372036854775807 := by omega
        have H := Lib.hid (round_ok hv hD hout hd hq); clear hd hq hout hD
        go_wp2
        exact H.out
      · obtain rfl : v = 0 := by omega
        obtain rfl : l = [] := Classical.byContradiction fun h => hout ⟨rfl, h⟩
        have H := Lib.hid (round_ok hv hD hout (d := 0) (q := 0) rfl rfl); clear hout hD
        go_wp2
        exact H.out

theorem digitsR_any (n : Int) (h0 : -9223372036854775808 ≤ n) (h1 : n ≤ 9223372036854775807) (w : World) : Calls Tryd.prog 24 #[.int .i64 n] w fun e w' => e = .returned (.string ⟨(Lib.itoa n).toArray⟩) ∧ w' = w := by
  by_cases hn : 0 ≤ n
  · exact digitsR_pos n h1 hn w
  · exact digitsR_neg n h0 (by omega) w
end Go.Proofs.YtnihnfhophmlhaaDoor
