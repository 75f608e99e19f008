/- Floats of 64 bits as whole numbers and halves of them: plain mathematics over Ieee. No program. Own work. -/
import Derived.WalkLawsBesides
set_option linter.unusedSimpArgs false
namespace Go.Proofs.Yteppjedgeabmeaa.Fl
open Ieee

/-- Every number is measured in units far below the least one. -/
def sc (e : Int) : Nat := 2 ^ (e + 4000).toNat
theorem sc_pos (e : Int) : 0 < sc e := Nat.two_pow_pos _
theorem sc_up {e : Int} (h : -4000 ≤ e) (k : Nat) : sc (e + k) = 2 ^ k * sc e := by
  unfold sc; rw [← Nat.pow_add]; congr 1; omega
theorem sc_to {e f : Int} (h : -4000 ≤ e) (h2 : e ≤ f) : sc f = 2 ^ (f - e).toNat * sc e := by
  have := sc_up h (f - e).toNat
  rwa [show e + ((f - e).toNat : Int) = f by omega] at this
theorem sc_mul {i j : Int} (hi : -4000 ≤ i) (hj : -4000 ≤ j) (hij : -4000 ≤ i + j) : sc i * sc j = sc (i + j) * sc 0 := by
  unfold sc; rw [← Nat.pow_add, ← Nat.pow_add]; congr 1; omega
theorem sc_def (e : Int) : sc e = 2 ^ (e + 4000).toNat := rfl
attribute [irreducible] sc
/-- A number with its sign, in these units. -/
def val (s : Bool) (m : Nat) (e : Int) : Int := if s then -((m * sc e : Nat) : Int) else ((m * sc e : Nat) : Int)
theorem val_abs (s : Bool) (m : Nat) (e : Int) : (val s m e).natAbs = m * sc e := by
  unfold val; split <;> omega
theorem val_opp (s : Bool) (m : Nat) (e : Int) : val (!s) m e = -val s m e := by
  cases s <;> simp [val]
theorem signed_val (s : Bool) (m : Nat) {i b : Int} (hb : -4000 ≤ b) (h : b ≤ i) : signed s m (i - b).toNat * (sc b : Int) = val s m i := by
  unfold signed val
  rw [Nat.shiftLeft_eq, sc_to hb h]
  split
  · rw [Int.neg_mul]; congr 1; push_cast; rw [Int.mul_assoc]
  · push_cast; rw [Int.mul_assoc]
theorem compare_mul {a b c : Int} (hc : 0 < c) : compare (a * c) (b * c) = compare a b := by
  simp only [compare, compareOfLessAndEq]
  have h1 : a * c < b * c ↔ a < b := Int.mul_lt_mul_right hc
  have h2 : a * c = b * c ↔ a = b := Int.mul_eq_mul_right_iff (by omega)
  simp only [h1, h2]

/-- The word stands for this many units. -/
def Fv (x : Nat) (v : Int) : Prop := ∃ s m e, double.read x = .number s m e ∧ -1074 ≤ e ∧ e ≤ 971 ∧ m < 2 ^ 53 ∧ val s m e = v
/-- As a float may have so many units. -/
def Rep (v : Int) : Prop := ∃ m e, v.natAbs = m * sc e ∧ m < 2 ^ 53 ∧ -1074 ≤ e ∧ e ≤ 971
theorem Fv.rep {x : Nat} {v : Int} : Fv x v → Rep v := by
  rintro ⟨s, m, e, -, h1, h2, h3, rfl⟩
  exact ⟨m, e, val_abs s m e, h3, h1, h2⟩
theorem rep_whole {n : Int} (h : n.natAbs < 2 ^ 53) : Rep (n * sc 0) := ⟨n.natAbs, 0, by rw [Int.natAbs_mul]; rfl, h, by decide, by decide⟩
theorem read_number {x : Nat} {s : Bool} {m : Nat} {e : Int} (h : double.read x = .number s m e) : -1074 ≤ e ∧ e ≤ 971 ∧ m < 2 ^ 53 := by
  unfold Format.read at h
  simp only [show double.binade = 4503599627370496 from rfl, show double.infRung = 9218868437227405312 from rfl, show double.leastPlace = -1074 from rfl, show double.signWeight = 9223372036854775808 from rfl] at h
  split at h
  · cases h; omega
  · split at h
    · cases h; omega
    · split at h <;> cases h
theorem fin_of_read {x : Nat} {s : Bool} {m : Nat} {e : Int} (h : double.read x = .number s m e) : Fv x (val s m e) :=
  ⟨s, m, e, h, (read_number h).1, (read_number h).2.1, (read_number h).2.2, rfl⟩
theorem Fv.uniq {x : Nat} {v u : Int} : Fv x v → Fv x u → v = u := by
  rintro ⟨s, m, e, h, -, -, -, rfl⟩ ⟨s', m', e', h', -, -, -, rfl⟩
  rw [h] at h'; cases h'; rfl

theorem log_eq {a b i j : Nat} (ha : a ≠ 0) (hb : b ≠ 0) (h : a * 2 ^ i = b * 2 ^ j) : a.log2 + i = b.log2 + j := by
  have a1 : 2 ^ (a.log2 + i) ≤ a * 2 ^ i := by
    rw [Nat.pow_add]; exact Nat.mul_le_mul_right _ (Nat.log2_self_le ha)
  have a2 : a * 2 ^ i < 2 ^ (a.log2 + 1 + i) := by
    rw [Nat.pow_add]; exact Nat.mul_lt_mul_of_pos_right Nat.lt_log2_self (Nat.two_pow_pos i)
  have b1 : 2 ^ (b.log2 + j) ≤ b * 2 ^ j := by
    rw [Nat.pow_add]; exact Nat.mul_le_mul_right _ (Nat.log2_self_le hb)
  have b2 : b * 2 ^ j < 2 ^ (b.log2 + 1 + j) := by
    rw [Nat.pow_add]; exact Nat.mul_lt_mul_of_pos_right Nat.lt_log2_self (Nat.two_pow_pos j)
  rw [h] at a1 a2
  have c1 := (Nat.pow_lt_pow_iff_right (a := 2) (by omega)).1 (Nat.lt_of_le_of_lt a1 b2)
  have c2 := (Nat.pow_lt_pow_iff_right (a := 2) (by omega)).1 (Nat.lt_of_le_of_lt b1 a2)
  omega
theorem log_bounds {k n i j : Nat} (hn : n ≠ 0) (h : n * 2 ^ i = k * 2 ^ j) : (n.log2 + i < 53 + j → k < 2 ^ 53) ∧ (n.log2 + i = 52 + j → 2 ^ 52 ≤ k) := by
  constructor
  · intro hl
    have a2 : n * 2 ^ i < 2 ^ (n.log2 + 1 + i) := by
      rw [Nat.pow_add]; exact Nat.mul_lt_mul_of_pos_right Nat.lt_log2_self (Nat.two_pow_pos i)
    have a3 : 2 ^ (n.log2 + 1 + i) ≤ 2 ^ 53 * 2 ^ j := by
      rw [← Nat.pow_add]; exact Nat.pow_le_pow_right (by omega) (by omega)
    rw [h] at a2
    exact Nat.lt_of_mul_lt_mul_right (Nat.lt_of_lt_of_le a2 a3)
  · intro hl
    have a1 : 2 ^ (n.log2 + i) ≤ n * 2 ^ i := by
      rw [Nat.pow_add]; exact Nat.mul_le_mul_right _ (Nat.log2_self_le hn)
    rw [hl, Nat.pow_add, h] at a1
    exact Nat.le_of_mul_le_mul_right a1 (Nat.two_pow_pos j)
/-- Nothing is cut off where nothing stands. -/
theorem cut_whole (neg : Bool) {k : Nat} (hk0 : k ≠ 0) (d : Nat) : Toward.even.cut neg (k * 2 ^ d) d = k := by
  have hp : 0 < 2 ^ d := Nat.two_pow_pos d
  have hmin : min d ((k * 2 ^ d).log2 + 2) = d := by
    have : d ≤ (k * 2 ^ d).log2 := by
      rw [Nat.le_log2 (Nat.mul_ne_zero hk0 (Nat.pos_iff_ne_zero.1 hp))]
      exact Nat.le_mul_of_pos_left _ (Nat.pos_of_ne_zero hk0)
    omega
  unfold Toward.cut
  simp only [hmin, Nat.one_shiftLeft, Nat.mul_mod_left, Nat.mul_div_cancel _ hp]
  have e2 : (2 ^ d == 2 * 0) = false := by rw [beq_eq_false_iff_ne]; omega
  simp [e2]
theorem read_word (neg : Bool) {r : Nat} (hr : r < 9218868437227405312) : double.read (double.word neg r) = if r < 4503599627370496 then .number neg r (-1074) else .number neg (4503599627370496 + r % 4503599627370496) (-1074 + (r / 4503599627370496 - 1 : Nat)) := by
  unfold Format.read Format.word
  simp only [show double.binade = 4503599627370496 from rfl, show double.infRung = 9218868437227405312 from rfl, show double.leastPlace = -1074 from rfl, show double.signWeight = 9223372036854775808 from rfl]
  cases neg
  · have e1 : r / 9223372036854775808 = 0 := by omega
    have e2 : r % 9223372036854775808 = r := by omega
    simp [e1, e2, hr]
  · have e1 : (9223372036854775808 + r) / 9223372036854775808 = 1 := by omega
    have e2 : (9223372036854775808 + r) % 9223372036854775808 = r := by omega
    simp [e1, e2, hr]
theorem rung_ok {b k : Nat} (hb : b ≤ 2045) (hk : k < 2 ^ 53) : min (b * 4503599627370496 + k) 9218868437227405312 = b * 4503599627370496 + k ∧ b * 4503599627370496 + k < 9218868437227405312 := by omega
/-- A rung of a binade above the first. -/
theorem read_rung (neg : Bool) {b k : Nat} {last : Int} (hb : b ≤ 2045) (hk : k < 2 ^ 53) (hl : (b : Int) = last + 1074) (hkl : -1074 < last → 2 ^ 52 ≤ k) : double.read (double.word neg (b * 4503599627370496 + k)) = .number neg k last := by
  rw [read_word neg (rung_ok hb hk).2]
  by_cases hz : b = 0
  · subst hz
    rw [show last = -1074 by omega]
    split
    · simp
    · congr 1 <;> omega
  · have := hkl (by omega)
    rw [if_neg (by omega)]
    congr 1 <;> omega
/-- WHAT IS WRITTEN IS READ, where it fits. -/
theorem read_nearest {neg : Bool} {mag : Nat} {place : Int} (hp : -4000 ≤ place) (hr : Rep (val neg mag place)) :
    ∃ m e, double.read (double.nearest neg mag place) = .number neg m e ∧ m * sc e = mag * sc place := by
  obtain ⟨m', e', h1, h2, h3, h4⟩ := hr
  rw [val_abs] at h1
  by_cases h0 : mag = 0
  · subst h0
    refine ⟨0, -1074, ?_, by simp⟩
    unfold Format.nearest
    rw [if_pos rfl, read_word _ (by decide), if_pos (by decide)]
  have hm' : m' ≠ 0 := by
    intro h
    rw [h, Nat.zero_mul] at h1
    have := Nat.mul_pos (Nat.pos_of_ne_zero h0) (sc_pos place)
    omega
  have h1' := h1
  rw [sc_def, sc_def] at h1'
  have l1 := log_eq h0 hm' h1'
  have l2 : m'.log2 ≤ 52 := by
    have := (Nat.log2_lt hm').2 h2
    omega
  unfold Format.nearest
  rw [if_neg h0]
  simp only [show double.binade = 4503599627370496 from rfl, show double.infRung = 9218868437227405312 from rfl, show double.leastPlace = -1074 from rfl, show double.fractionBits = 52 from rfl]
  generalize hl : max (place + (mag.log2 : Int) - ((52 : Nat) : Int)) (-1074) = last
  have hl1 : last ≤ e' := by omega
  have hl2 : -1074 ≤ last := by omega
  obtain ⟨k, hk⟩ : ∃ k, mag * sc place = k * sc last := ⟨m' * 2 ^ (e' - last).toNat, by rw [h1, sc_to (e := last) (by omega) hl1, Nat.mul_assoc]⟩
  have hk' := hk
  rw [sc_def, sc_def] at hk'
  have hk0 : k ≠ 0 := by
    intro h
    rw [h, Nat.zero_mul] at hk
    have := Nat.mul_pos (Nat.pos_of_ne_zero h0) (sc_pos place)
    omega
  have hn : mag <<< (place - last).toNat = k * 2 ^ (last - place).toNat := by
    rw [Nat.shiftLeft_eq]
    rcases Int.le_total last place with h | h
    · rw [show (last - place).toNat = 0 by omega, Nat.pow_zero, Nat.mul_one]
      rw [sc_to (e := last) (by omega) h, ← Nat.mul_assoc] at hk
      exact Nat.eq_of_mul_eq_mul_right (sc_pos last) hk
    · rw [show (place - last).toNat = 0 by omega, Nat.pow_zero, Nat.mul_one]
      rw [sc_to hp h, ← Nat.mul_assoc] at hk
      exact Nat.eq_of_mul_eq_mul_right (sc_pos place) hk
  rw [hn, cut_whole neg hk0]
  obtain ⟨b1, b2⟩ := log_bounds h0 hk'
  have hkb : k < 2 ^ 53 := b1 (by omega)
  have hkl : -1074 < last → 2 ^ 52 ≤ k := fun h => b2 (by omega)
  generalize hb : (last - -1074).toNat = b
  have hb1 : (b : Int) = last + 1074 := by omega
  have hb2 : b ≤ 2045 := by clear h1 h1' hk hk' hn l1 b1 b2 hkl hl hp h2; omega
  rw [(rung_ok hb2 hkb).1, read_rung neg hb2 hkb hb1 hkl]
  exact ⟨_, _, rfl, hk.symm⟩
theorem fin_nearest {neg : Bool} {mag : Nat} {place : Int} (hp : -4000 ≤ place) (hr : Rep (val neg mag place)) : Fv (double.nearest neg mag place) (val neg mag place) := by
  obtain ⟨m, e, h1, h2⟩ := read_nearest hp hr
  obtain ⟨a, b, c⟩ := read_number h1
  exact ⟨neg, m, e, h1, a, b, c, by unfold val; rw [h2]⟩

/-- HOW TWO STAND TO EACH OTHER. -/
theorem ord_fin {x y : Nat} {v u : Int} : Fv x v → Fv y u → double.order x y = some (compare v u) := by
  rintro ⟨s, m, i, h1, hi, -, -, rfl⟩ ⟨t, n, j, h2, hj, -, -, rfl⟩
  unfold Format.order
  rw [h1, h2]
  show some (compare (signed s m (i - min i j).toNat) (signed t n (j - min i j).toNat)) = _
  rw [← compare_mul (c := (sc (min i j) : Int)) (by have := sc_pos (min i j); omega), signed_val s m (by omega) (by omega), signed_val t n (by omega) (by omega)]
/-- Of the signs that a sum has, the value is the sum. -/
theorem val_total (z : Bool) (t : Int) (b : Int) : val (if t = 0 then z else decide (t < 0)) t.natAbs b = t * sc b := by
  unfold val
  by_cases h0 : t = 0
  · subst h0; simp
  · rw [if_neg h0]
    by_cases hn : t < 0
    · rw [if_pos (by simpa using hn)]
      rw [show (t : Int) = -(t.natAbs : Int) by omega]
      simp [Int.neg_mul]
    · rw [if_neg (by simpa using hn)]
      conv => rhs; rw [show (t : Int) = (t.natAbs : Int) by omega]
      simp
theorem sum_val {s t : Bool} {m n : Nat} {i j : Int} (hi : -4000 ≤ i) (hj : -4000 ≤ j) : ∃ z k, Datum.sum (.number s m i) (.number t n j) = some (.number z k (min i j)) ∧ val z k (min i j) = val s m i + val t n j := by
  refine ⟨_, _, rfl, ?_⟩
  rw [val_total, Int.add_mul, signed_val s m (by omega) (by omega), signed_val t n (by omega) (by omega)]
theorem add_fin {x y : Nat} {v u : Int} (hx : Fv x v) (hy : Fv y u) (hr : Rep (v + u)) : ∃ r, double.add x y = some r ∧ Fv r (v + u) := by
  obtain ⟨s, m, i, h1, hi, -, -, rfl⟩ := hx
  obtain ⟨t, n, j, h2, hj, -, -, rfl⟩ := hy
  obtain ⟨z, k, e1, e2⟩ := sum_val (s := s) (t := t) (m := m) (n := n) (i := i) (j := j) (by omega) (by omega)
  refine ⟨double.nearest z k (min i j), ?_, ?_⟩
  · unfold Format.add; rw [h1, h2, e1]; rfl
  · rw [← e2] at hr ⊢
    exact fin_nearest (by omega) hr
theorem sub_fin {x y : Nat} {v u : Int} (hx : Fv x v) (hy : Fv y u) (hr : Rep (v - u)) : ∃ r, double.sub x y = some r ∧ Fv r (v - u) := by
  obtain ⟨s, m, i, h1, hi, -, -, rfl⟩ := hx
  obtain ⟨t, n, j, h2, hj, -, -, rfl⟩ := hy
  obtain ⟨z, k, e1, e2⟩ := sum_val (s := s) (t := !t) (m := m) (n := n) (i := i) (j := j) (by omega) (by omega)
  refine ⟨double.nearest z k (min i j), ?_, ?_⟩
  · unfold Format.sub; rw [h1, h2]; show (Datum.sum _ (.number (!t) n j)).map _ = _; rw [e1]; rfl
  · rw [val_opp, ← Int.sub_eq_add_neg] at e2
    rw [← e2] at hr ⊢
    exact fin_nearest (by omega) hr
theorem val_mul {s t : Bool} {m n : Nat} {i j : Int} (hi : -1074 ≤ i) (hj : -1074 ≤ j) : val (s ^^ t) (m * n) (i + j) * (sc 0 : Int) = val s m i * val t n j := by
  have h := sc_mul (i := i) (j := j) (by omega) (by omega) (by omega)
  have e : ((m * n * sc (i + j) : Nat) : Int) * (sc 0 : Int) = ((m * sc i : Nat) : Int) * ((n * sc j : Nat) : Int) := by
    have : m * n * sc (i + j) * sc 0 = m * sc i * (n * sc j) := by
      rw [Nat.mul_assoc (m * n), ← h]; ac_rfl
    exact_mod_cast this
  unfold val
  cases s <;> cases t <;> simp only [Bool.xor_false, Bool.xor_true, Bool.not_false, Bool.not_true, Bool.false_xor, Bool.true_xor, if_true, if_false, Bool.false_eq_true] <;> simp only [Int.neg_mul, Int.mul_neg, e, Int.neg_neg]
theorem mul_fin {x y : Nat} {v u q : Int} (hx : Fv x v) (hy : Fv y u) (hq : q * sc 0 = v * u) (hr : Rep q) : ∃ r, double.mul x y = some r ∧ Fv r q := by
  obtain ⟨s, m, i, h1, hi, -, -, rfl⟩ := hx
  obtain ⟨t, n, j, h2, hj, -, -, rfl⟩ := hy
  have e2 : val (s ^^ t) (m * n) (i + j) = q := by
    have h := val_mul (s := s) (t := t) (m := m) (n := n) hi hj
    rw [← hq] at h
    exact Int.eq_of_mul_eq_mul_right (by have := sc_pos 0; omega) h
  refine ⟨double.nearest (s ^^ t) (m * n) (i + j), ?_, ?_⟩
  · unfold Format.mul; rw [h1, h2]; rfl
  · rw [← e2] at hr ⊢
    exact fin_nearest (by omega) hr

/-- A whole number. -/
def Whole (x : Nat) (n : Int) : Prop := Fv x (n * sc 0)
theorem whole_ofInt {n : Int} (h : n.natAbs < 2 ^ 53) : Whole (floatOfInt .f64 n) n := by
  unfold Whole
  have e : val (decide (n < 0)) n.natAbs 0 = n * sc 0 := by
    have := val_total false n 0
    rw [← this]
    by_cases h0 : n = 0
    · subst h0; rfl
    · rw [if_neg h0]
  rw [← e]
  exact fin_nearest (by decide) (by rw [e]; exact rep_whole h)
theorem add_whole {x y : Nat} {n k : Int} (hx : Whole x n) (hy : Whole y k) (h : (n + k).natAbs < 2 ^ 53) : ∃ r, double.add x y = some r ∧ Whole r (n + k) := by
  have := add_fin hx hy (by rw [← Int.add_mul]; exact rep_whole h)
  rwa [← Int.add_mul] at this
theorem sub_whole {x y : Nat} {n k : Int} (hx : Whole x n) (hy : Whole y k) (h : (n - k).natAbs < 2 ^ 53) : ∃ r, double.sub x y = some r ∧ Whole r (n - k) := by
  have := sub_fin hx hy (by rw [← Int.sub_mul]; exact rep_whole h)
  rwa [← Int.sub_mul] at this
theorem mul_whole {x y : Nat} {n k : Int} (hx : Whole x n) (hy : Whole y k) (h : (n * k).natAbs < 2 ^ 53) : ∃ r, double.mul x y = some r ∧ Whole r (n * k) :=
  mul_fin hx hy (by ac_rfl) (rep_whole h)
theorem ord_whole {x y : Nat} {n k : Int} (hx : Whole x n) (hy : Whole y k) : double.order x y = some (compare n k) := by
  rw [ord_fin hx hy, compare_mul (by have := sc_pos 0; omega)]
theorem Whole.uniq {x : Nat} {n k : Int} (h1 : Whole x n) (h2 : Whole x k) : n = k :=
  Int.eq_of_mul_eq_mul_right (by have := sc_pos 0; omega) (Fv.uniq h1 h2)

/-- A part of a point. -/
def isPart (n : Int) : Bool := decide (-1048576 ≤ n ∧ n ≤ 1048576)
/-- These units as a part. -/
def partV (v : Int) : Option Int := if v / sc 0 * sc 0 = v ∧ isPart (v / sc 0) = true then some (v / sc 0) else none
def partO (x : Nat) : Option Int := match double.read x with
  | .number s m e => partV (val s m e)
  | _ => none
theorem partV_mul (n : Int) : partV (n * sc 0) = if isPart n = true then some n else none := by
  unfold partV
  have e : n * (sc 0 : Int) / sc 0 = n := Int.mul_ediv_cancel _ (by have := sc_pos 0; omega)
  rw [e]; simp
theorem partO_fin {x : Nat} {v : Int} (h : Fv x v) : partO x = partV v := by
  obtain ⟨s, m, e, h, -, -, -, rfl⟩ := h
  unfold partO; rw [h]
theorem partO_whole {x : Nat} {n : Int} (h : Whole x n) : partO x = if isPart n = true then some n else none := (partO_fin h).trans (partV_mul n)
theorem partO_some {x : Nat} {n : Int} (h : partO x = some n) : Whole x n ∧ isPart n = true := by
  unfold partO at h
  split at h
  · rename_i s m e hr
    unfold partV at h
    split at h
    · rename_i hp
      cases h
      refine ⟨?_, hp.2⟩
      unfold Whole
      rw [hp.1]; exact fin_of_read hr
    · cases h
  · cases h
theorem partV_neg (v : Int) : partV (-v) = (partV v).map (fun n => -n) := by
  have hs := sc_pos 0
  by_cases h : ∃ n, v = n * sc 0
  · obtain ⟨n, rfl⟩ := h
    rw [← Int.neg_mul, partV_mul, partV_mul]
    have : isPart (-n) = isPart n := by unfold isPart; congr 1; apply propext; omega
    rw [this]; split <;> rfl
  · have h1 : partV v = none := by unfold partV; rw [if_neg]; rintro ⟨h', -⟩; exact h ⟨_, h'.symm⟩
    have h2 : partV (-v) = none := by
      unfold partV; rw [if_neg]; rintro ⟨h', -⟩
      exact h ⟨-(-v / sc 0), by rw [Int.neg_mul, h']; omega⟩
    rw [h1, h2]; rfl
/-- What is no finite number. -/
def Odd (x : Nat) : Prop := ∀ v, ¬ Fv x v
theorem odd_part {x : Nat} (h : Odd x) : partO x = none := by
  cases hp : partO x with
  | none => rfl
  | some n => exact (h _ (partO_some hp).1).elim
theorem fin_or_odd (x : Nat) : (∃ v, Fv x v) ∨ Odd x := by
  cases h : double.read x with
  | number s m e => exact .inl ⟨_, fin_of_read h⟩
  | infinity s => exact .inr fun v ⟨_, _, _, h', _⟩ => by rw [h] at h'; cases h'
  | nan s f => exact .inr fun v ⟨_, _, _, h', _⟩ => by rw [h] at h'; cases h'

theorem order_lo : floatOfInt .f64 (-1048576) = 13920626448202203136 := by decide +kernel
theorem order_hi : floatOfInt .f64 1048576 = 4697254411347427328 := by decide +kernel
theorem fi_zero : floatOfInt .f64 0 = 0 := by decide +kernel
theorem fi_one : floatOfInt .f64 1 = 4607182418800017408 := by decide +kernel
theorem fi_neg : floatOfInt .f64 (-1) = 13830554455654793216 := by decide +kernel
theorem whole_lo : Whole 13920626448202203136 (-1048576) := by rw [← order_lo]; exact whole_ofInt (by decide)
theorem whole_hi : Whole 4697254411347427328 1048576 := by rw [← order_hi]; exact whole_ofInt (by decide)
theorem whole_zero : Whole 0 0 := by have := whole_ofInt (n := 0) (by decide); rwa [fi_zero] at this
theorem whole_one : Whole 4607182418800017408 1 := by rw [← fi_one]; exact whole_ofInt (by decide)
theorem whole_neg : Whole 13830554455654793216 (-1) := by rw [← fi_neg]; exact whole_ofInt (by decide)
theorem quo_zero : floatBits .quo .f64 4607182418800017408 0 = some 9218868437227405312 := by decide +kernel
theorem ord_inf_zero : double.order 9218868437227405312 0 = some .gt := by decide +kernel

/-- A NaN: whatever is done with it is none, too. -/
def Nan (x : Nat) : Prop := ∃ s f, double.read x = .nan s f
theorem Nan.odd {x : Nat} : Nan x → Odd x := by
  rintro ⟨s, f, h⟩ v ⟨_, _, _, h', _⟩
  rw [h] at h'; cases h'
theorem nan_cut (x y t : Nat) : Nan (Question.cut (.nanBits .f64 x y) t) := by
  unfold Nan Format.read
  simp only [show double.binade = 4503599627370496 from rfl, show double.infRung = 9218868437227405312 from rfl, show double.leastPlace = -1074 from rfl, show double.signWeight = 9223372036854775808 from rfl]
  have e : Question.cut (.nanBits .f64 x y) t = (t % 2) * 9223372036854775808 + 9218868437227405312 + 1 + (t / 2) % 4503599627370495 := rfl
  rw [e]
  have hj : (t / 2) % 4503599627370495 < 4503599627370495 := Nat.mod_lt _ (by decide)
  have hb : t % 2 < 2 := Nat.mod_lt _ (by decide)
  generalize (t / 2) % 4503599627370495 = j at hj ⊢
  generalize t % 2 = b at hb ⊢
  have hr : (b * 9223372036854775808 + 9218868437227405312 + 1 + j) % 9223372036854775808 = 9218868437227405313 + j := by omega
  rw [hr, if_neg (by omega), if_neg (by omega), if_neg (by omega)]
  exact ⟨_, _, rfl⟩
theorem mul_zero_odd {x : Nat} (h : Odd x) : double.mul x 0 = none := by
  unfold Format.mul
  rw [show double.read 0 = .number false 0 (-1074) from rfl]
  cases hr : double.read x with
  | number s m e => exact (h _ (fin_of_read hr)).elim
  | infinity s => rfl
  | nan s f => rfl
section
variable {P : Program}
/-- What an operation gives: the number, or a NaN of the tape's. -/
def Got (op : BinOp) (x y r : Nat) : Prop := floatBits op .f64 x y = some r ∨ (floatBits op .f64 x y = none ∧ Nan r)
theorem run_arith_any {op : BinOp} (hop : op = .add ∨ op = .sub ∨ op = .mul) (x y : Nat) (w : World) : ∃ r n, (Op.Complex.arith op .f64 x y).run P w = .ok r (w.drewN n) ∧ Got op x y r := by
  cases h : floatBits op .f64 x y with
  | some r => exact ⟨r, 0, run_carith w h, .inl h⟩
  | none =>
    refine ⟨Question.cut (.nanBits .f64 x y) (w.tape w.drawn (.nanBits .f64 x y)), 1, ?_, .inr ⟨h, nan_cut x y _⟩⟩
    unfold floatBits at h
    rcases hop with rfl | rfl | rfl <;> simp only at h <;> simp [Op.Complex.arith, Op.floatArith, h, Question.forced] <;> rfl
theorem run_arith_any' {op : BinOp} (hop : op = .add ∨ op = .sub ∨ op = .mul) (x y : Nat) (w : World) : ∃ r w', (Op.Complex.arith op .f64 x y).run P w = .ok r w' ∧ (∃ n, w' = w.drewN n) ∧ Got op x y r := by
  obtain ⟨r, n, h1, h2⟩ := run_arith_any (P := P) hop x y w
  exact ⟨r, _, h1, ⟨n, rfl⟩, h2⟩
theorem got_fv {op : BinOp} {x y r : Nat} {v : Int} (h : Got op x y r) {r' : Nat} (h1 : floatBits op .f64 x y = some r') (h2 : Fv r' v) : Fv r v := by
  rcases h with h | ⟨h, -⟩ <;> rw [h1] at h
  · cases h; exact h2
  · cases h
theorem got_nan {op : BinOp} {x y r : Nat} (h : Got op x y r) (h1 : floatBits op .f64 x y = none) : Nan r := by
  rcases h with h | ⟨_, h⟩
  · rw [h1] at h; cases h
  · exact h
theorem sub_nan {x y : Nat} (h : Nan x) : double.sub x y = none := by
  obtain ⟨s, f, h⟩ := h
  unfold Format.sub; rw [h]; rfl
theorem add_nan {x y : Nat} (h : Nan y) : double.add x y = none := by
  obtain ⟨s, f, h⟩ := h
  unfold Format.add; rw [h]; cases double.read x <;> rfl
/-- A POINT OF TWO PARTS. -/
structure Pt where
  x : Int
  y : Int
  ok : Bool
def ptOf (a b : Nat) : Pt := match partO a, partO b with
  | some x, some y => ⟨x, y, true⟩
  | _, _ => ⟨0, 0, false⟩
def rot (p : Pt) : Pt := ⟨-p.y, p.x, p.ok⟩
theorem ptOf_none {a b : Nat} (h : partO a = none ∨ partO b = none) : ptOf a b = ⟨0, 0, false⟩ := by
  unfold ptOf
  rcases h with h | h <;> rw [h]
  split <;> simp_all
/-- TIMES i. -/
theorem run_mul_i (t : TypeId) (a b : Nat) (w : World) : ∃ a' b' n, (binOp .mul t (.complex .f64 a b) (.complex .f64 0 4607182418800017408)).run P w = .ok (.complex .f64 a' b') (w.drewN n) ∧ ptOf a' b' = rot (ptOf a b) := by
  obtain ⟨ac, w1, r1, ⟨n1, hw1⟩, g1⟩ := run_arith_any' (P := P) (op := .mul) (.inr (.inr rfl)) a 0 w
  obtain ⟨bd, w2, r2, ⟨n2, hw2⟩, g2⟩ := run_arith_any' (P := P) (op := .mul) (.inr (.inr rfl)) b 4607182418800017408 w1
  obtain ⟨re, w3, r3, ⟨n3, hw3⟩, g3⟩ := run_arith_any' (P := P) (op := .sub) (.inr (.inl rfl)) ac bd w2
  obtain ⟨ad, w4, r4, ⟨n4, hw4⟩, g4⟩ := run_arith_any' (P := P) (op := .mul) (.inr (.inr rfl)) a 4607182418800017408 w3
  obtain ⟨bc, w5, r5, ⟨n5, hw5⟩, g5⟩ := run_arith_any' (P := P) (op := .mul) (.inr (.inr rfl)) b 0 w4
  obtain ⟨im, w6, r6, ⟨n6, hw6⟩, g6⟩ := run_arith_any' (P := P) (op := .add) (.inl rfl) ad bc w5
  refine ⟨re, im, n1 + n2 + n3 + n4 + n5 + n6, ?_, ?_⟩
  · have hw : w6 = w.drewN (n1 + n2 + n3 + n4 + n5 + n6) := by
      rw [hw6, hw5, hw4, hw3, hw2, hw1]; simp only [World.drewN, Nat.add_assoc]
    rw [← hw]
    clear hw hw1 hw2 hw3 hw4 hw5 hw6
    simp [binOp, Op.complexOp, Op.Complex.conv, Op.Complex.product, Op.Complex.mul, Op.Complex.sub, Op.Complex.add, r1, r2, r3, r4, r5, r6]
  · rcases fin_or_odd a with ⟨va, ha⟩ | ha
    · rcases fin_or_odd b with ⟨vb, hb⟩ | hb
      · obtain ⟨_, e1, f1⟩ := mul_fin (q := 0 * sc 0) ha whole_zero (by simp) (rep_whole (by decide))
        obtain ⟨_, e2, f2⟩ := mul_fin (q := vb) hb whole_one (by simp) hb.rep
        obtain ⟨_, e4, f4⟩ := mul_fin (q := va) ha whole_one (by simp) ha.rep
        obtain ⟨_, e5, f5⟩ := mul_fin (q := 0 * sc 0) hb whole_zero (by simp) (rep_whole (by decide))
        have h1 := got_fv g1 e1 f1
        have h2 := got_fv g2 e2 f2
        have h4 := got_fv g4 e4 f4
        have h5 := got_fv g5 e5 f5
        have hneg : Rep (0 * sc 0 - vb) := by
          obtain ⟨m, e, q1, q2, q3, q4⟩ := hb.rep
          exact ⟨m, e, by rw [← q1]; simp, q2, q3, q4⟩
        obtain ⟨_, e3, f3⟩ := sub_fin h1 h2 hneg
        obtain ⟨_, e6, f6⟩ := add_fin h4 h5 (by simpa using ha.rep)
        have h3 := partO_fin (got_fv g3 e3 f3)
        have h6 := partO_fin (got_fv g6 e6 f6)
        rw [show 0 * (sc 0 : Int) - vb = -vb by simp, partV_neg, ← partO_fin hb] at h3
        rw [show va + 0 * (sc 0 : Int) = va by simp, ← partO_fin ha] at h6
        unfold ptOf rot
        rw [h3, h6]
        cases partO a <;> cases partO b <;> rfl
      · have h5 := got_nan g5 (mul_zero_odd hb)
        have h6 := got_nan g6 (add_nan h5)
        rw [ptOf_none (.inr (odd_part h6.odd)), ptOf_none (.inr (odd_part hb))]; rfl
    · have h1 := got_nan g1 (mul_zero_odd ha)
      have h3 := got_nan g3 (sub_nan h1)
      rw [ptOf_none (.inl (odd_part h3.odd)), ptOf_none (.inl (odd_part ha))]; rfl
end

/-- CUT TOWARDS NOUGHT. -/
theorem cut_zero (neg : Bool) (n d : Nat) : Toward.zero.cut neg n d = n / 2 ^ d := by
  unfold Toward.cut
  simp only [Nat.one_shiftLeft, Bool.toNat_false, Nat.add_zero]
  rcases Nat.le_total d (n.log2 + 2) with h | h
  · rw [Nat.min_eq_left h]
  · rw [Nat.min_eq_right h]
    have h1 : n < 2 ^ (n.log2 + 2) := Nat.lt_trans Nat.lt_log2_self (Nat.pow_lt_pow_right (by decide) (by omega))
    rw [Nat.div_eq_of_lt h1, Nat.div_eq_of_lt (Nat.lt_of_lt_of_le h1 (Nat.pow_le_pow_right (by decide) h))]
theorem cut_sc (neg : Bool) (m : Nat) {e : Int} (he : -4000 ≤ e) : Toward.zero.cut neg (m <<< e.toNat) (-e).toNat = m * sc e / sc 0 := by
  rw [cut_zero, Nat.shiftLeft_eq]
  rcases Int.le_total 0 e with h | h
  · have := sc_to (e := 0) (f := e) (by decide) h
    rw [this, show (-e).toNat = 0 by omega, Nat.pow_zero, Nat.div_one, Int.sub_zero, ← Nat.mul_assoc, Nat.mul_div_cancel _ (sc_pos 0)]
  · have := sc_to (e := e) (f := 0) he h
    rw [this, show e.toNat = 0 by omega, Nat.pow_zero, Nat.mul_one, Int.zero_sub, Nat.mul_div_mul_right _ _ (sc_pos e)]
theorem if_bound {q : Nat} (h : q ≤ 1048576) (s : Bool) : -1048576 ≤ (if s then -(q : Int) else (q : Int)) ∧ (if s then -(q : Int) else (q : Int)) ≤ 1048576 := by
  cases s
  · rw [if_neg (by decide)]; omega
  · rw [if_pos rfl]; omega
theorem to_int {a : Nat} {v : Int} (h : Fv a v) (h1 : -1048576 * (sc 0 : Int) ≤ v) (h2 : v ≤ 1048576 * (sc 0 : Int)) : ∃ n, floatToIntVal .f64 a .i64 = some n ∧ -1048576 ≤ n ∧ n ≤ 1048576 ∧ (∀ k, v = k * sc 0 → n = k) := by
  obtain ⟨s, m, e, hr, he, -, -, rfl⟩ := h
  have hs := sc_pos 0
  have hq : m * sc e / sc 0 ≤ 1048576 := by
    apply Nat.div_le_of_le_mul
    have h3 : (val s m e).natAbs ≤ sc 0 * 1048576 := by omega
    rwa [val_abs] at h3
  have ht : (FloatKind.f64.decode a).toInt .zero = some (signed s (m * sc e / sc 0) 0) := by
    show (double.read a).toInt .zero = _
    rw [hr]
    show some (signed s (Toward.zero.cut s (m <<< e.toNat) (-e).toNat) 0) = _
    rw [cut_sc s m (by omega)]
  have hn : signed s (m * sc e / sc 0) 0 = if s then -((m * sc e / sc 0 : Nat) : Int) else ((m * sc e / sc 0 : Nat) : Int) := by
    unfold signed; simp
  have hb : -1048576 ≤ signed s (m * sc e / sc 0) 0 ∧ signed s (m * sc e / sc 0) 0 ≤ 1048576 := by
    rw [hn]; exact if_bound hq s
  refine ⟨signed s (m * sc e / sc 0) 0, ?_, hb.1, hb.2, ?_⟩
  · unfold floatToIntVal
    rw [ht]
    have : IntKind.i64.min ≤ signed s (m * sc e / sc 0) 0 ∧ signed s (m * sc e / sc 0) 0 ≤ IntKind.i64.max := by
      have e1 : IntKind.i64.min = -9223372036854775808 := by decide
      have e2 : IntKind.i64.max = 9223372036854775807 := by decide
      rw [e1, e2]; omega
    show (if IntKind.i64.min ≤ _ ∧ _ then some _ else none) = some _
    rw [if_pos this]
  · intro k hk
    rw [hn]
    unfold val at hk
    have hd : ((m * sc e / sc 0 : Nat) : Int) = ((m * sc e : Nat) : Int) / (sc 0 : Int) := Int.natCast_ediv _ _
    cases s
    · simp only [Bool.false_eq_true, if_false] at hk ⊢
      rw [hd, hk, Int.mul_ediv_cancel _ (by omega)]
    · simp only [if_true] at hk ⊢
      have : ((m * sc e : Nat) : Int) = -k * (sc 0 : Int) := by rw [Int.neg_mul]; omega
      rw [hd, this, Int.mul_ediv_cancel _ (by omega)]; omega
theorem cmp_lt {a b : Int} (h : a < b) : compare a b = .lt := by simp only [compare, compareOfLessAndEq]; rw [if_pos h]
theorem cmp_eq (a : Int) : compare a a = .eq := by simp [compare, compareOfLessAndEq]
theorem cmp_gt {a b : Int} (h : b < a) : compare a b = .gt := by simp only [compare, compareOfLessAndEq]; rw [if_neg (by omega), if_neg (by omega)]
theorem odd_cases {x : Nat} (h : Odd x) : Nan x ∨ ∃ s, double.read x = .infinity s := by
  cases hr : double.read x with
  | number s m e => exact (h _ (fin_of_read hr)).elim
  | infinity s => exact .inr ⟨s, rfl⟩
  | nan s f => exact .inl ⟨s, f, hr⟩
theorem ord_nan {x y : Nat} (h : Nan x) : double.order x y = none := by
  obtain ⟨s, f, h⟩ := h
  unfold Format.order; rw [h]; rfl
theorem ord_inf {x y : Nat} {s : Bool} {v : Int} (h : double.read x = .infinity s) (hy : Fv y v) : double.order x y = some (if s then .lt else .gt) := by
  obtain ⟨t, n, j, h2, -⟩ := hy
  unfold Format.order; rw [h, h2]; rfl
theorem ord_inf_self {x : Nat} {s : Bool} (h : double.read x = .infinity s) : double.order x x = some .eq := by
  unfold Format.order; rw [h]; cases s <;> rfl
theorem out_part {a : Nat} {v : Int} (h : Fv a v) (ho : v < -1048576 * (sc 0 : Int) ∨ 1048576 * (sc 0 : Int) < v) : partO a = none := by
  cases hp : partO a with
  | none => rfl
  | some n =>
    obtain ⟨h1, h2⟩ := partO_some hp
    have := Fv.uniq h h1
    subst this
    simp only [isPart, decide_eq_true_eq] at h2
    have hs := sc_pos 0
    exfalso
    rcases ho with ho | ho
    · have := Int.lt_of_mul_lt_mul_right ho (by omega); omega
    · have := Int.lt_of_mul_lt_mul_right ho (by omega); omega
/-- THE PROGRAM's TESTS OF A PART. -/
theorem whole_tests (a : Nat) :
    ((FloatKind.f64.format.order a 13920626448202203136 == some .gt || FloatKind.f64.format.order a 13920626448202203136 == some .eq) = false ∧ partO a = none) ∨
    ((FloatKind.f64.format.order a 13920626448202203136 == some .gt || FloatKind.f64.format.order a 13920626448202203136 == some .eq) = true ∧ (FloatKind.f64.format.order a 4697254411347427328 == some .lt || FloatKind.f64.format.order a 4697254411347427328 == some .eq) = false ∧ partO a = none) ∨
    ((FloatKind.f64.format.order a 13920626448202203136 == some .gt || FloatKind.f64.format.order a 13920626448202203136 == some .eq) = true ∧ (FloatKind.f64.format.order a 4697254411347427328 == some .lt || FloatKind.f64.format.order a 4697254411347427328 == some .eq) = true ∧
      ∃ v, Fv a v ∧ -1048576 * (sc 0 : Int) ≤ v ∧ v ≤ 1048576 * (sc 0 : Int)) := by
  rw [show FloatKind.f64.format = double from rfl]
  rcases fin_or_odd a with ⟨v, hv⟩ | ho
  · rw [ord_fin hv whole_lo, ord_fin hv whole_hi]
    rcases Int.lt_trichotomy v (-1048576 * (sc 0 : Int)) with h | h | h
    · left; rw [cmp_lt h]; exact ⟨rfl, out_part hv (.inl h)⟩
    · right; right
      have h2 : v < 1048576 * (sc 0 : Int) := by have := sc_pos 0; omega
      rw [cmp_lt h2, h, cmp_eq]
      exact ⟨rfl, rfl, v, hv, by omega, by omega⟩
    · right
      rw [cmp_gt h]
      rcases Int.lt_trichotomy v (1048576 * (sc 0 : Int)) with g | g | g
      · right; rw [cmp_lt g]; exact ⟨rfl, rfl, v, hv, by omega, by omega⟩
      · right; rw [g, cmp_eq]; exact ⟨rfl, rfl, v, hv, by omega, by omega⟩
      · left; rw [cmp_gt g]; exact ⟨rfl, rfl, out_part hv (.inr g)⟩
  · have hp := odd_part ho
    rcases odd_cases ho with hn | ⟨s, hs⟩
    · left; rw [ord_nan hn]; exact ⟨rfl, hp⟩
    · rw [ord_inf hs whole_lo, ord_inf hs whole_hi]
      cases s
      · right; left; exact ⟨rfl, rfl, hp⟩
      · left; exact ⟨rfl, hp⟩
/-- THE REFERENCE's. -/
theorem part_tests (a : Nat) :
    ((FloatKind.f64.format.order a a != some .eq) = true ∧ partO a = none) ∨
    ((FloatKind.f64.format.order a a != some .eq) = false ∧ (FloatKind.f64.format.order a 13920626448202203136 == some .lt) = true ∧ partO a = none) ∨
    ((FloatKind.f64.format.order a a != some .eq) = false ∧ (FloatKind.f64.format.order a 13920626448202203136 == some .lt) = false ∧ (FloatKind.f64.format.order a 4697254411347427328 == some .gt) = true ∧ partO a = none) ∨
    ((FloatKind.f64.format.order a a != some .eq) = false ∧ (FloatKind.f64.format.order a 13920626448202203136 == some .lt) = false ∧ (FloatKind.f64.format.order a 4697254411347427328 == some .gt) = false ∧
      ∃ v, Fv a v ∧ -1048576 * (sc 0 : Int) ≤ v ∧ v ≤ 1048576 * (sc 0 : Int)) := by
  rw [show FloatKind.f64.format = double from rfl]
  rcases fin_or_odd a with ⟨v, hv⟩ | ho
  · rw [ord_fin hv hv, ord_fin hv whole_lo, ord_fin hv whole_hi, cmp_eq]
    right
    rcases Int.lt_trichotomy v (-1048576 * (sc 0 : Int)) with h | h | h
    · left; rw [cmp_lt h]; exact ⟨rfl, rfl, out_part hv (.inl h)⟩
    · right; right
      have h2 : v < 1048576 * (sc 0 : Int) := by have := sc_pos 0; omega
      rw [cmp_lt h2, h, cmp_eq]
      exact ⟨rfl, rfl, rfl, v, hv, by omega, by omega⟩
    · right
      rw [cmp_gt h]
      rcases Int.lt_trichotomy v (1048576 * (sc 0 : Int)) with g | g | g
      · right; rw [cmp_lt g]; exact ⟨rfl, rfl, rfl, v, hv, by omega, by omega⟩
      · right; rw [g, cmp_eq]; exact ⟨rfl, rfl, rfl, v, hv, by omega, by omega⟩
      · left; rw [cmp_gt g]; exact ⟨rfl, rfl, rfl, out_part hv (.inr g)⟩
  · have hp := odd_part ho
    rcases odd_cases ho with hn | ⟨s, hs⟩
    · left; rw [ord_nan hn]; exact ⟨rfl, hp⟩
    · right
      rw [ord_inf_self hs, ord_inf hs whole_lo, ord_inf hs whole_hi]
      cases s
      · right; left; exact ⟨rfl, rfl, rfl, hp⟩
      · left; exact ⟨rfl, rfl, hp⟩
/-- A number within against a whole one. -/
theorem eql_test {a : Nat} {v n : Int} (hv : Fv a v) (hn : n.natAbs < 2 ^ 53) : (FloatKind.f64.format.order (floatOfInt .f64 n) a == some .eq) = decide (n * sc 0 = v) := by
  rw [show FloatKind.f64.format = double from rfl, ord_fin (whole_ofInt hn) hv]
  rcases Int.lt_trichotomy (n * (sc 0 : Int)) v with h | h | h
  · rw [cmp_lt h, decide_eq_false (by omega)]; rfl
  · rw [h, cmp_eq, decide_eq_true rfl]; rfl
  · rw [cmp_gt h, decide_eq_false (by omega)]; rfl
theorem leq_test {a : Nat} {v n : Int} (hv : Fv a v) (hn : n.natAbs < 2 ^ 53) : (FloatKind.f64.format.order (floatOfInt .f64 n) a == some .lt || FloatKind.f64.format.order (floatOfInt .f64 n) a == some .eq) = decide (n * sc 0 ≤ v) := by
  rw [show FloatKind.f64.format = double from rfl, ord_fin (whole_ofInt hn) hv]
  rcases Int.lt_trichotomy (n * (sc 0 : Int)) v with h | h | h
  · rw [cmp_lt h, decide_eq_true (by omega)]; rfl
  · rw [h, cmp_eq, decide_eq_true (by omega)]; rfl
  · rw [cmp_gt h, decide_eq_false (by omega)]; rfl
/-- Two whole ones. -/
theorem eq_whole {n k : Int} {x y : Nat} (hx : Whole x n) (hy : Whole y k) : (FloatKind.f64.format.order x y == some .eq) = decide (n = k) := by
  rw [show FloatKind.f64.format = double from rfl, ord_whole hx hy]
  rcases Int.lt_trichotomy n k with h | h | h
  · rw [cmp_lt h, decide_eq_false (by omega)]; rfl
  · rw [h, cmp_eq, decide_eq_true rfl]; rfl
  · rw [cmp_gt h, decide_eq_false (by omega)]; rfl
theorem neq_whole {n k : Int} {x y : Nat} (hx : Whole x n) (hy : Whole y k) : (FloatKind.f64.format.order x y != some .eq) = decide (n ≠ k) := by
  have := eq_whole hx hy
  unfold bne; rw [this]; simp
/-- What a number within tells of a part. -/
theorem part_of_test {a : Nat} {v n : Int} (hv : Fv a v) (hn : ∀ k, v = k * sc 0 → n = k) (hb : -1048576 ≤ n ∧ n ≤ 1048576) : partO a = if decide (n * sc 0 = v) = true then some n else none := by
  by_cases h : n * sc 0 = v
  · rw [decide_eq_true h, if_pos rfl]
    rw [← h] at hv
    rw [partO_whole hv, if_pos (by simpa [isPart] using hb)]
  · rw [decide_eq_false h, if_neg (by decide)]
    cases hp : partO a with
    | none => rfl
    | some k =>
      obtain ⟨h1, h2⟩ := partO_some hp
      have hk := Fv.uniq hv h1
      have := hn k hk
      subst this
      exact (h hk.symm).elim
/-- COMPLEX SUMS AND PRODUCTS OF WHOLE PARTS. -/
theorem cadd_whole {a b c d : Nat} {x y u v : Int} (ha : Whole a x) (hb : Whole b y) (hc : Whole c u) (hd : Whole d v) (h1 : (x + u).natAbs < 2 ^ 53) (h2 : (y + v).natAbs < 2 ^ 53) :
    ∃ re im, cSumBits .add .f64 a b c d = some (re, im) ∧ Whole re (x + u) ∧ Whole im (y + v) := by
  obtain ⟨re, e1, w1⟩ := add_whole ha hc h1
  obtain ⟨im, e2, w2⟩ := add_whole hb hd h2
  refine ⟨re, im, ?_, w1, w2⟩
  have e1' : floatBits .add .f64 a c = some re := e1
  have e2' : floatBits .add .f64 b d = some im := e2
  simp [cSumBits, e1', e2']
theorem csub_whole {a b c d : Nat} {x y u v : Int} (ha : Whole a x) (hb : Whole b y) (hc : Whole c u) (hd : Whole d v) (h1 : (x - u).natAbs < 2 ^ 53) (h2 : (y - v).natAbs < 2 ^ 53) :
    ∃ re im, cSumBits .sub .f64 a b c d = some (re, im) ∧ Whole re (x - u) ∧ Whole im (y - v) := by
  obtain ⟨re, e1, w1⟩ := sub_whole ha hc h1
  obtain ⟨im, e2, w2⟩ := sub_whole hb hd h2
  refine ⟨re, im, ?_, w1, w2⟩
  have e1' : floatBits .sub .f64 a c = some re := e1
  have e2' : floatBits .sub .f64 b d = some im := e2
  simp [cSumBits, e1', e2']
theorem cmul_whole {a b c d : Nat} {x y u v : Int} (ha : Whole a x) (hb : Whole b y) (hc : Whole c u) (hd : Whole d v)
    (h1 : (x * u).natAbs < 2 ^ 53) (h2 : (y * v).natAbs < 2 ^ 53) (h3 : (x * v).natAbs < 2 ^ 53) (h4 : (y * u).natAbs < 2 ^ 53) (h5 : (x * u - y * v).natAbs < 2 ^ 53) (h6 : (x * v + y * u).natAbs < 2 ^ 53) :
    ∃ re im, cMulBits a b c d = some (re, im) ∧ Whole re (x * u - y * v) ∧ Whole im (x * v + y * u) := by
  obtain ⟨ac, e1, w1⟩ := mul_whole ha hc h1
  obtain ⟨bd, e2, w2⟩ := mul_whole hb hd h2
  obtain ⟨re, e3, w3⟩ := sub_whole w1 w2 h5
  obtain ⟨ad, e4, w4⟩ := mul_whole ha hd h3
  obtain ⟨bc, e5, w5⟩ := mul_whole hb hc h4
  obtain ⟨im, e6, w6⟩ := add_whole w4 w5 h6
  refine ⟨re, im, ?_, w3, w6⟩
  have e1' : floatBits .mul .f64 a c = some ac := e1
  have e2' : floatBits .mul .f64 b d = some bd := e2
  have e3' : floatBits .sub .f64 ac bd = some re := e3
  have e4' : floatBits .mul .f64 a d = some ad := e4
  have e5' : floatBits .mul .f64 b c = some bc := e5
  have e6' : floatBits .add .f64 ad bc = some im := e6
  simp [cMulBits, e1', e2', e3', e4', e5', e6']
/-- The point of two whole parts. -/
def mk (x y : Int) : Pt := if isPart x && isPart y then ⟨x, y, true⟩ else ⟨0, 0, false⟩
theorem ptOf_whole {a b : Nat} {x y : Int} (ha : Whole a x) (hb : Whole b y) : ptOf a b = mk x y := by
  unfold ptOf mk
  rw [partO_whole ha, partO_whole hb]
  cases isPart x <;> cases isPart y <;> rfl
/-- A point's parts, within. -/
structure Pt.In (p : Pt) : Prop where
  x0 : -1048576 ≤ p.x
  x1 : p.x ≤ 1048576
  y0 : -1048576 ≤ p.y
  y1 : p.y ≤ 1048576
theorem ptOf_in (a b : Nat) : (ptOf a b).In := by
  unfold ptOf
  split
  · rename_i x y h1 h2
    have := (partO_some h1).2
    have := (partO_some h2).2
    simp only [isPart, decide_eq_true_eq] at *
    constructor <;> simp only <;> omega
  · constructor <;> decide
theorem ptOf_some {a b : Nat} (h : (ptOf a b).ok = true) : Whole a (ptOf a b).x ∧ Whole b (ptOf a b).y := by
  unfold ptOf at h ⊢
  split at h
  · rename_i x y h1 h2
    exact ⟨(partO_some h1).1, (partO_some h2).1⟩
  · cases h
theorem fi_two : floatOfInt .f64 2 = 4611686018427387904 := by decide +kernel
theorem whole_two : Whole 4611686018427387904 2 := by rw [← fi_two]; exact whole_ofInt (by decide)
/-- A word of a whole number, within. -/
structure Pw (a b : Nat) (x y : Int) : Prop where
  wx : Whole a x
  wy : Whole b y
  x0 : -1048576 ≤ x
  x1 : x ≤ 1048576
  y0 : -1048576 ≤ y
  y1 : y ≤ 1048576
theorem Pw.pt {a b : Nat} {x y : Int} (h : Pw a b x y) : ptOf a b = ⟨x, y, true⟩ := by
  rw [ptOf_whole h.wx h.wy]
  unfold Fl.mk isPart
  rw [decide_eq_true ⟨h.x0, h.x1⟩, decide_eq_true ⟨h.y0, h.y1⟩]; rfl
theorem pw_fi {x y : Int} (x0 : -1048576 ≤ x) (x1 : x ≤ 1048576) (y0 : -1048576 ≤ y) (y1 : y ≤ 1048576) : Pw (floatOfInt .f64 x) (floatOfInt .f64 y) x y :=
  ⟨whole_ofInt (by omega), whole_ofInt (by omega), x0, x1, y0, y1⟩
theorem ptOf_fi {p : Pt} (hp : p.In) (h : p.ok = true) : ptOf (floatOfInt .f64 p.x) (floatOfInt .f64 p.y) = p := by
  rw [(pw_fi hp.x0 hp.x1 hp.y0 hp.y1).pt]
  obtain ⟨x, y, ok⟩ := p
  simp only at h
  rw [h]
end Go.Proofs.Yteppjedgeabmeaa.Fl
