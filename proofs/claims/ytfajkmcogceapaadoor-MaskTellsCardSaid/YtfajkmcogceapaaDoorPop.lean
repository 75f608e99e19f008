/- How many bits a number of 64 bits has, as Go's library counts them: plain mathematics. Own work. -/
import Derived.Test.YtfajkmcogceapaaDoorBits
import Derived.WalkKit
import Derived.Laws.BitsAllLaws
import Derived.Laws.Bits64
namespace Go.Proofs.YtfajkmcogceapaaDoor.Bits
open Go.RowKit

/-- A byte's mask, n times. -/
def mask : Nat → Nat → Nat
  | 0, _ => 0
  | n + 1, b => 256 * mask n b + b
/-- Byte by byte. -/
def bytes : Nat → (Nat → Nat) → Nat → Nat
  | 0, _, _ => 0
  | n + 1, g, x => 256 * bytes n g (x / 256) + g (x % 256)
def s1 (b : Nat) : Nat := (b / 2 &&& 0x55) + (b &&& 0x55)
def s2 (b : Nat) : Nat := (b / 4 &&& 0x33) + (b &&& 0x33)
def s3 (b : Nat) : Nat := b / 16 + b % 16

theorem and_bytes {a b c d : Nat} (hb : b < 256) (hd : d < 256) : (256 * a + b) &&& (256 * c + d) = 256 * (a &&& c) + (b &&& d) := by
  apply Nat.eq_of_testBit_eq; intro j
  have hbd : b &&& d < 2 ^ 8 := Nat.and_lt_two_pow _ (by omega)
  rw [Nat.testBit_and, show (256 : Nat) = 2 ^ 8 from rfl, Nat.testBit_two_pow_mul_add a (by omega), Nat.testBit_two_pow_mul_add c (by omega), Nat.testBit_two_pow_mul_add _ hbd]
  split
  · rw [Nat.testBit_and]
  · rw [Nat.testBit_and]
theorem low1 : ∀ (e : Fin 2) (b : Fin 128), (128 * e.val + b.val) &&& 0x55 = b.val &&& 0x55 := by decide +kernel
theorem low2 : ∀ (e : Fin 4) (b : Fin 64), (64 * e.val + b.val) &&& 0x33 = b.val &&& 0x33 := by decide +kernel
theorem step1 : ∀ n x, (x / 2 &&& mask n 0x55) + (x &&& mask n 0x55) = bytes n s1 x
  | 0, x => by simp [mask, bytes]
  | n + 1, x => by
    have ih := step1 n (x / 256)
    have e1 : x / 2 = 256 * (x / 256 / 2) + (128 * (x / 256 % 2) + x % 256 / 2) := by omega
    have e2 : x = 256 * (x / 256) + x % 256 := by omega
    have l := low1 ⟨x / 256 % 2, by omega⟩ ⟨x % 256 / 2, by omega⟩
    simp only at l
    unfold mask bytes
    rw [← ih, e1, and_bytes (by omega) (by decide), l]
    conv => lhs; rhs; rw [e2, and_bytes (by omega) (by decide)]
    unfold s1; omega
theorem step2 : ∀ n x, (x / 4 &&& mask n 0x33) + (x &&& mask n 0x33) = bytes n s2 x
  | 0, x => by simp [mask, bytes]
  | n + 1, x => by
    have ih := step2 n (x / 256)
    have e1 : x / 4 = 256 * (x / 256 / 4) + (64 * (x / 256 % 4) + x % 256 / 4) := by omega
    have e2 : x = 256 * (x / 256) + x % 256 := by omega
    have l := low2 ⟨x / 256 % 4, by omega⟩ ⟨x % 256 / 4, by omega⟩
    simp only at l
    unfold mask bytes
    rw [← ih, e1, and_bytes (by omega) (by decide), l]
    conv => lhs; rhs; rw [e2, and_bytes (by omega) (by decide)]
    unfold s2; omega
def Nib : Nat → Nat → Prop
  | 0, x => x = 0
  | n + 1, x => x % 16 ≤ 4 ∧ x / 16 % 16 ≤ 4 ∧ Nib n (x / 256)
theorem nib_low : ∀ {n x : Nat}, Nib n x → x % 16 ≤ 4
  | 0, x, h => by unfold Nib at h; omega
  | n + 1, x, h => h.1
theorem step3 : ∀ n x, Nib n x → (x / 16 + x) &&& mask n 0x0f = bytes n s3 x
  | 0, x, _ => by simp [mask, bytes]
  | n + 1, x, ⟨h1, h2, h3⟩ => by
    have ih := step3 n (x / 256) h3
    have h4 := nib_low h3
    have e1 : x / 16 + x = 256 * (x / 256 / 16 + x / 256) + (16 * (x / 256 % 16 + x % 256 / 16) + (x % 256 / 16 + x % 256 % 16)) := by omega
    have e3 : x / 16 / 16 = x / 256 := by rw [Nat.div_div_eq_div_mul]
    have h5 : x % 256 / 16 ≤ 4 := by omega
    have h6 : x % 256 % 16 ≤ 4 := by omega
    have h7 : (16 * (x / 256 % 16 + x % 256 / 16) + (x % 256 / 16 + x % 256 % 16)) % 16 = x % 256 / 16 + x % 256 % 16 := by
      generalize x % 256 / 16 = p at *
      generalize x % 256 % 16 = q at *
      generalize x / 256 % 16 = r at *
      omega
    have h8 : 16 * (x / 256 % 16 + x % 256 / 16) + (x % 256 / 16 + x % 256 % 16) < 256 := by
      generalize x % 256 / 16 = p at *
      generalize x % 256 % 16 = q at *
      generalize x / 256 % 16 = r at *
      omega
    have h9 : (16 * (x / 256 % 16 + x % 256 / 16) + (x % 256 / 16 + x % 256 % 16)) &&& 15 = x % 256 / 16 + x % 256 % 16 := by
      rw [show (15 : Nat) = 2 ^ 4 - 1 from rfl, Nat.and_two_pow_sub_one_eq_mod]; exact h7
    unfold mask bytes
    rw [← ih, e1, and_bytes h8 (by decide), h9]
    rfl
theorem bytes_comp {f g : Nat → Nat} (hf : ∀ b, b < 256 → f b < 256) : ∀ n x, bytes n g (bytes n f x) = bytes n (fun b => g (f b)) x
  | 0, x => rfl
  | n + 1, x => by
    have h := hf (x % 256) (by omega)
    have e1 : (256 * bytes n f (x / 256) + f (x % 256)) / 256 = bytes n f (x / 256) := by omega
    have e2 : (256 * bytes n f (x / 256) + f (x % 256)) % 256 = f (x % 256) := by omega
    simp only [bytes]
    rw [e1, e2, bytes_comp hf n]
theorem bytes_le {f : Nat → Nat} {c : Nat} (hf : ∀ b, b < 256 → f b ≤ c) : ∀ n x, bytes n f x ≤ mask n c
  | 0, x => Nat.le_refl _
  | n + 1, x => by
    have h := hf (x % 256) (by omega)
    have := bytes_le hf n (x / 256)
    simp only [bytes, mask]; omega
theorem bytes_nib {f : Nat → Nat} (hf : ∀ b, b < 256 → f b < 256 ∧ f b % 16 ≤ 4 ∧ f b / 16 % 16 ≤ 4) : ∀ n x, Nib n (bytes n f x)
  | 0, x => rfl
  | n + 1, x => by
    have h := hf (x % 256) (by omega)
    have e1 : (256 * bytes n f (x / 256) + f (x % 256)) / 256 = bytes n f (x / 256) := by omega
    simp only [bytes, Nib]
    rw [e1]
    exact ⟨by omega, by omega, bytes_nib hf n _⟩
theorem of_fin {p : Nat → Prop} (h : ∀ b : Fin 256, p b.val) : ∀ b, b < 256 → p b := fun b hb => h ⟨b, hb⟩
theorem s1_le : ∀ b, b < 256 → s1 b ≤ 0xaa := of_fin (by decide +kernel)
theorem s1_lt : ∀ b, b < 256 → s1 b < 256 := of_fin (by decide +kernel)
theorem s21_nib : ∀ b, b < 256 → s2 (s1 b) < 256 ∧ s2 (s1 b) % 16 ≤ 4 ∧ s2 (s1 b) / 16 % 16 ≤ 4 := of_fin (by decide +kernel)
theorem s21_le : ∀ b, b < 256 → s2 (s1 b) ≤ 0x44 := of_fin (by decide +kernel)
def cnt (b : Nat) : Nat := ((List.range 8).filter b.testBit).length
theorem pop_cnt : ∀ b, b < 256 → s3 (s2 (s1 b)) = cnt b := of_fin (by decide +kernel)
theorem cnt_le : ∀ b, b < 256 → cnt b ≤ 8 := of_fin (by decide +kernel)
def sums : Nat → Nat → Nat
  | 0, _ => 0
  | n + 1, x => cnt (x % 256) + sums n (x / 256)
theorem test_byte {x j : Nat} (h : j < 8) : (x % 256).testBit j = x.testBit j := by
  rw [show (256 : Nat) = 2 ^ 8 from rfl, Nat.testBit_mod_two_pow, decide_eq_true h, Bool.true_and]
theorem filter_sums : ∀ n x, ((List.range (8 * n)).filter x.testBit).length = sums n x
  | 0, x => rfl
  | n + 1, x => by
    rw [show 8 * (n + 1) = 8 + 8 * n by omega, List.range_add, List.filter_append, List.length_append]
    unfold sums
    rw [← filter_sums n (x / 256)]
    congr 1
    · unfold cnt
      congr 1
      apply List.filter_congr; intro j hj
      rw [List.mem_range] at hj
      exact (test_byte hj).symm
    · rw [List.filter_map, List.length_map]
      congr 1
      apply List.filter_congr; intro j _
      rw [Function.comp, show (256 : Nat) = 2 ^ 8 from rfl, Nat.testBit_div_two_pow]
      congr 1; omega

/-- What the library computes, step by step. -/
def o1 (x : Int) : Int := IntKind.u64.wrap (bits .and .u64 (x / 2) 6148914691236517205 + bits .and .u64 x 6148914691236517205)
def o2 (x : Int) : Int := IntKind.u64.wrap (bits .and .u64 (x / 4) 3689348814741910323 + bits .and .u64 x 3689348814741910323)
def o3 (x : Int) : Int := bits .and .u64 (IntKind.u64.wrap (x / 16 + x)) 1085102592571150095
def o4 (x : Int) : Int := IntKind.u64.wrap (x + x / 256)
def o5 (x : Int) : Int := IntKind.u64.wrap (x + x / 65536)
def o6 (x : Int) : Int := IntKind.u64.wrap (x + x / 4294967296)
theorem mask55 : mask 8 0x55 = 6148914691236517205 := by decide +kernel
theorem mask33 : mask 8 0x33 = 3689348814741910323 := by decide +kernel
theorem mask0f : mask 8 0x0f = 1085102592571150095 := by decide +kernel
theorem maskaa : mask 8 0xaa = 12297829382473034410 := by decide +kernel
theorem mask44 : mask 8 0x44 = 4919131752989213764 := by decide +kernel
theorem o1_eq {s : Nat} (hs : s < 18446744073709551616) : o1 s = bytes 8 s1 s := by
  have h := step1 8 s
  rw [mask55] at h
  have hb := bytes_le s1_le 8 s
  rw [maskaa] at hb
  unfold o1
  have e : ((s : Int) / 2) = ((s / 2 : Nat) : Int) := rfl
  have c : (6148914691236517205 : Int) = ((6148914691236517205 : Nat) : Int) := rfl
  rw [e, c, u64_and_nat _ _ (by omega) (by decide), u64_and_nat _ _ hs (by decide), IntKind.wrap_u64]
  omega
theorem o2_eq {s : Nat} (hs : s < 18446744073709551616) (hb : bytes 8 s2 s < 18446744073709551616) : o2 s = bytes 8 s2 s := by
  have h := step2 8 s
  rw [mask33] at h
  unfold o2
  have e : ((s : Int) / 4) = ((s / 4 : Nat) : Int) := rfl
  have c : (3689348814741910323 : Int) = ((3689348814741910323 : Nat) : Int) := rfl
  rw [e, c, u64_and_nat _ _ (by omega) (by decide), u64_and_nat _ _ hs (by decide), IntKind.wrap_u64]
  omega
theorem o3_eq {s : Nat} (hs : s ≤ 4919131752989213764) (hn : Nib 8 s) : o3 s = bytes 8 s3 s := by
  have h := step3 8 s hn
  rw [mask0f] at h
  unfold o3
  have e : IntKind.u64.wrap ((s : Int) / 16 + s) = ((s / 16 + s : Nat) : Int) := by rw [IntKind.wrap_u64]; omega
  have c : (1085102592571150095 : Int) = ((1085102592571150095 : Nat) : Int) := rfl
  rw [e, c, u64_and_nat _ _ (by omega) (by decide), h]
theorem bytes_congr {f g : Nat → Nat} (h : ∀ b, b < 256 → f b = g b) : ∀ n x, bytes n f x = bytes n g x
  | 0, _ => rfl
  | n + 1, x => by simp only [bytes]; rw [h _ (by omega), bytes_congr h n]
theorem div_low {a b : Nat} (h : b < 256) : (256 * a + b) / 256 = a := by omega
theorem div_low4 {a b c d e : Nat} (hb : b < 256) (hc : c < 256) (hd : d < 256) (he : e < 256) : (256 * (256 * (256 * (256 * a + b) + c) + d) + e) / 4294967296 = a := by
  generalize hx : 256 * (256 * (256 * (256 * a + b) + c) + d) + e = x
  have h1 : x = 4294967296 * a + (16777216 * b + 65536 * c + 256 * d + e) := by omega
  have h2 : 16777216 * b + 65536 * c + 256 * d + e < 4294967296 := by omega
  generalize 16777216 * b + 65536 * c + 256 * d + e = r at *
  clear hx
  omega
theorem mod_low {a b c d : Nat} (h : b + d < 128) : (256 * a + b + (256 * c + d)) % 128 = b + d := by omega
theorem o4_nat {x : Nat} (h : x + x / 256 < 18446744073709551616) : o4 x = ((x + x / 256 : Nat) : Int) := by
  unfold o4; rw [IntKind.wrap_u64, show ((x : Int) + x / 256) = ((x + x / 256 : Nat) : Int) from rfl]; exact Int.emod_eq_of_lt (by omega) (by omega)
theorem o5_nat {x : Nat} (h : x + x / 65536 < 18446744073709551616) : o5 x = ((x + x / 65536 : Nat) : Int) := by
  unfold o5; rw [IntKind.wrap_u64, show ((x : Int) + x / 65536) = ((x + x / 65536 : Nat) : Int) from rfl]; exact Int.emod_eq_of_lt (by omega) (by omega)
theorem o6_nat {x : Nat} (h : x + x / 4294967296 < 18446744073709551616) : o6 x = ((x + x / 4294967296 : Nat) : Int) := by
  unfold o6; rw [IntKind.wrap_u64, show ((x : Int) + x / 4294967296) = ((x + x / 4294967296 : Nat) : Int) from rfl]; exact Int.emod_eq_of_lt (by omega) (by omega)
theorem id1 (p0 p1 p2 p3 p4 p5 p6 p7 : Nat) : 256 * (256 * (256 * (256 * (256 * (256 * (256 * (256 * 0 + p7) + p6) + p5) + p4) + p3) + p2) + p1) + p0 + (256 * (256 * (256 * (256 * (256 * (256 * p7 + p6) + p5) + p4) + p3) + p2) + p1) = 256 * (256 * (256 * (256 * (256 * (256 * (256 * p7 + (p6 + p7)) + (p5 + p6)) + (p4 + p5)) + (p3 + p4)) + (p2 + p3)) + (p1 + p2)) + (p0 + p1) := by omega
theorem id2 (p0 p1 p2 p3 p4 p5 p6 p7 : Nat) : 256 * (256 * (256 * (256 * (256 * (256 * (256 * p7 + (p6 + p7)) + (p5 + p6)) + (p4 + p5)) + (p3 + p4)) + (p2 + p3)) + (p1 + p2)) + (p0 + p1) + (256 * (256 * (256 * (256 * (256 * p7 + (p6 + p7)) + (p5 + p6)) + (p4 + p5)) + (p3 + p4)) + (p2 + p3)) = 256 * (256 * (256 * (256 * (256 * (256 * (256 * p7 + (p6 + p7)) + (p5 + p6 + p7)) + (p4 + p5 + p6 + p7)) + (p3 + p4 + p5 + p6)) + (p2 + p3 + p4 + p5)) + (p1 + p2 + p3 + p4)) + (p0 + p1 + p2 + p3) := by omega
theorem le1 {p0 p1 p2 p3 p4 p5 p6 p7 : Nat} (b0 : p0 ≤ 8) (b1 : p1 ≤ 8) (b2 : p2 ≤ 8) (b3 : p3 ≤ 8) (b4 : p4 ≤ 8) (b5 : p5 ≤ 8) (b6 : p6 ≤ 8) (b7 : p7 ≤ 8) : 256 * (256 * (256 * (256 * (256 * (256 * (256 * (256 * 0 + p7) + p6) + p5) + p4) + p3) + p2) + p1) + p0 ≤ 578721382704613384 := by omega
theorem le2 {p0 p1 p2 p3 p4 p5 p6 p7 : Nat} (b0 : p0 ≤ 8) (b1 : p1 ≤ 8) (b2 : p2 ≤ 8) (b3 : p3 ≤ 8) (b4 : p4 ≤ 8) (b5 : p5 ≤ 8) (b6 : p6 ≤ 8) (b7 : p7 ≤ 8) : 256 * (256 * (256 * (256 * (256 * (256 * (256 * p7 + (p6 + p7)) + (p5 + p6)) + (p4 + p5)) + (p3 + p4)) + (p2 + p3)) + (p1 + p2)) + (p0 + p1) ≤ 1157442765409226768 := by omega
theorem le3 {p0 p1 p2 p3 p4 p5 p6 p7 : Nat} (b0 : p0 ≤ 8) (b1 : p1 ≤ 8) (b2 : p2 ≤ 8) (b3 : p3 ≤ 8) (b4 : p4 ≤ 8) (b5 : p5 ≤ 8) (b6 : p6 ≤ 8) (b7 : p7 ≤ 8) : 256 * (256 * (256 * (256 * (256 * (256 * (256 * p7 + (p6 + p7)) + (p5 + p6 + p7)) + (p4 + p5 + p6 + p7)) + (p3 + p4 + p5 + p6)) + (p2 + p3 + p4 + p5)) + (p1 + p2 + p3 + p4)) + (p0 + p1 + p2 + p3) ≤ 2314885530818453536 := by omega
theorem add2 {a b : Nat} (ha : a ≤ 8) (hb : b ≤ 8) : a + b < 256 := by omega
theorem add3 {a b c : Nat} (ha : a ≤ 8) (hb : b ≤ 8) (hc : c ≤ 8) : a + b + c < 256 := by omega
theorem add4 {a b c d : Nat} (ha : a ≤ 8) (hb : b ≤ 8) (hc : c ≤ 8) (hd : d ≤ 8) : a + b + c + d < 256 := by omega
theorem add8 {a b c d e f g h : Nat} (ha : a ≤ 8) (hb : b ≤ 8) (hc : c ≤ 8) (hd : d ≤ 8) (he : e ≤ 8) (hf : f ≤ 8) (hg : g ≤ 8) (hh : h ≤ 8) : a + b + c + d + (e + f + g + h) < 128 := by omega
theorem sum8 (a b c d e f g h : Nat) : a + b + c + d + (e + f + g + h) = a + (b + (c + (d + (e + (f + (g + (h + 0))))))) := by omega
theorem ends (x : Nat) : ∃ m : Nat, o6 (o5 (o4 (bytes 8 cnt x))) = m ∧ m % 128 = sums 8 x ∧ m < 9223372036854775808 := by
  simp only [bytes, sums]
  have b0 := cnt_le (x % 256) (by omega)
  have b1 := cnt_le (x / 256 % 256) (by omega)
  have b2 := cnt_le (x / 256 / 256 % 256) (by omega)
  have b3 := cnt_le (x / 256 / 256 / 256 % 256) (by omega)
  have b4 := cnt_le (x / 256 / 256 / 256 / 256 % 256) (by omega)
  have b5 := cnt_le (x / 256 / 256 / 256 / 256 / 256 % 256) (by omega)
  have b6 := cnt_le (x / 256 / 256 / 256 / 256 / 256 / 256 % 256) (by omega)
  have b7 := cnt_le (x / 256 / 256 / 256 / 256 / 256 / 256 / 256 % 256) (by omega)
  generalize cnt (x % 256) = p0 at *
  generalize cnt (x / 256 % 256) = p1 at *
  generalize cnt (x / 256 / 256 % 256) = p2 at *
  generalize cnt (x / 256 / 256 / 256 % 256) = p3 at *
  generalize cnt (x / 256 / 256 / 256 / 256 % 256) = p4 at *
  generalize cnt (x / 256 / 256 / 256 / 256 / 256 % 256) = p5 at *
  generalize cnt (x / 256 / 256 / 256 / 256 / 256 / 256 % 256) = p6 at *
  generalize cnt (x / 256 / 256 / 256 / 256 / 256 / 256 / 256 % 256) = p7 at *

  generalize hy : 256 * (256 * (256 * (256 * (256 * (256 * (256 * (256 * 0 + p7) + p6) + p5) + p4) + p3) + p2) + p1) + p0 = y
  have y1 : y ≤ 578721382704613384 := hy ▸ le1 b0 b1 b2 b3 b4 b5 b6 b7
  have d1 : y / 256 = 256 * (256 * (256 * (256 * (256 * (256 * p7 + p6) + p5) + p4) + p3) + p2) + p1 := by
    rw [← hy]; simp only [Nat.mul_zero, Nat.zero_add]; exact div_low (by clear hy y1; omega)
  rw [o4_nat (by clear d1; omega), d1]
  generalize hz : y + (256 * (256 * (256 * (256 * (256 * (256 * p7 + p6) + p5) + p4) + p3) + p2) + p1) = z
  have z1 : z = 256 * (256 * (256 * (256 * (256 * (256 * (256 * p7 + (p6 + p7)) + (p5 + p6)) + (p4 + p5)) + (p3 + p4)) + (p2 + p3)) + (p1 + p2)) + (p0 + p1) := by rw [← hz, ← hy]; exact id1 p0 p1 p2 p3 p4 p5 p6 p7
  have z2 : z ≤ 1157442765409226768 := z1 ▸ le2 b0 b1 b2 b3 b4 b5 b6 b7
  have d2 : z / 65536 = 256 * (256 * (256 * (256 * (256 * p7 + (p6 + p7)) + (p5 + p6)) + (p4 + p5)) + (p3 + p4)) + (p2 + p3) := by
    rw [z1, show (65536 : Nat) = 256 * 256 from rfl, ← Nat.div_div_eq_div_mul, div_low (add2 b0 b1), div_low (add2 b1 b2)]
  clear hz hy
  rw [o5_nat (by clear d2 z1 d1; omega), d2]
  generalize hv : z + (256 * (256 * (256 * (256 * (256 * p7 + (p6 + p7)) + (p5 + p6)) + (p4 + p5)) + (p3 + p4)) + (p2 + p3)) = v
  have v1 : v = 256 * (256 * (256 * (256 * (256 * (256 * (256 * p7 + (p6 + p7)) + (p5 + p6 + p7)) + (p4 + p5 + p6 + p7)) + (p3 + p4 + p5 + p6)) + (p2 + p3 + p4 + p5)) + (p1 + p2 + p3 + p4)) + (p0 + p1 + p2 + p3) := by rw [← hv, z1]; exact id2 p0 p1 p2 p3 p4 p5 p6 p7
  have v2 : v ≤ 2314885530818453536 := v1 ▸ le3 b0 b1 b2 b3 b4 b5 b6 b7
  have d3 : v / 4294967296 = 256 * (256 * (256 * p7 + (p6 + p7)) + (p5 + p6 + p7)) + (p4 + p5 + p6 + p7) := by
    rw [v1]; exact div_low4 (add4 b3 b4 b5 b6) (add4 b2 b3 b4 b5) (add4 b1 b2 b3 b4) (add4 b0 b1 b2 b3)
  clear hv z1 z2 d1 d2 y1
  have v3 : v + v / 4294967296 < 9223372036854775808 := by clear d3 v1; omega
  rw [o6_nat (Nat.lt_trans v3 (by decide))]
  refine ⟨_, rfl, ?_, v3⟩
  rw [d3]
  rw [v1, mod_low (add8 b0 b1 b2 b3 b4 b5 b6 b7)]
  exact sum8 _ _ _ _ _ _ _ _
theorem ones_eq {s : Nat} (hs : s < 18446744073709551616) : ∃ m : Nat, o6 (o5 (o4 (o3 (o2 (o1 s))))) = m ∧ m % 128 = (setL s).length ∧ m < 9223372036854775808 := by
  have h1 := bytes_le s1_le 8 s
  rw [maskaa] at h1
  have h2 := bytes_le s21_le 8 s
  rw [mask44] at h2
  have c1 : bytes 8 s2 (bytes 8 s1 s) = bytes 8 (fun b => s2 (s1 b)) s := bytes_comp s1_lt 8 s
  rw [o1_eq hs, o2_eq (by omega) (by rw [c1]; omega), c1, o3_eq h2 (bytes_nib s21_nib 8 s), bytes_comp (fun b hb => (s21_nib b hb).1) 8 s, bytes_congr pop_cnt 8 s]
  obtain ⟨m, e, h, hm⟩ := ends s
  exact ⟨m, e, by rw [h, ← filter_sums 8 s]; rfl, hm⟩
end Go.Proofs.YtfajkmcogceapaaDoor.Bits
