/- Numbers as bytes, and read again: plain mathematics, no program. Own work. -/
namespace Go.Proofs.Ytgbbbokfdoeniaa.Wire

/-- The number that counts. -/
def clampN (n : Int) : Nat := (min (max n 0) 1073741823).toNat
theorem clampN_le (n : Int) : clampN n ≤ 1073741823 := by unfold clampN; omega
/-- A number's bytes. -/
def putN (x : Nat) : List UInt8 := if x < 128 then [UInt8.ofNat x] else UInt8.ofNat (128 + x % 128) :: putN (x / 128)
termination_by x
decreasing_by omega
theorem putN_low {x : Nat} (h : x < 128) : putN x = [UInt8.ofNat x] := by rw [putN, if_pos h]
theorem putN_high {x : Nat} (h : 128 ≤ x) : putN x = UInt8.ofNat (128 + x % 128) :: putN (x / 128) := by rw [putN, if_neg (by omega)]
theorem putN_len : ∀ (k x : Nat), x < 128 ^ (k + 1) → (putN x).length ≤ k + 1
  | 0, x, h => by rw [putN_low (by omega)]; simp
  | k + 1, x, h => by
    by_cases h1 : x < 128
    · rw [putN_low h1]; simp
    · rw [putN_high (by omega), List.length_cons]
      have := putN_len k (x / 128) (by rw [Nat.pow_succ] at h; omega)
      omega
theorem putN_len5 {x : Nat} (h : x < 34359738368) : (putN x).length ≤ 5 := putN_len 4 x (by omega)
theorem putN_pos (x : Nat) : 1 ≤ (putN x).length := by
  rw [putN]; split <;> simp
/-- The bytes of numbers, behind others. -/
def allN (b : List UInt8) (l : List Int) : List UInt8 := b ++ l.flatMap fun n => putN (clampN n)
theorem allN_snoc (b : List UInt8) (l : List Int) {k : Nat} (h : k < l.length) : allN b (l.take (k + 1)) = allN b (l.take k) ++ putN (clampN l[k]) := by
  unfold allN; rw [List.take_succ_eq_append_getElem h, List.flatMap_append]; simp
theorem allN_len (b : List UInt8) (l : List Int) : (allN b l).length ≤ b.length + 5 * l.length := by
  unfold allN
  rw [List.length_append]
  have : (l.flatMap fun n => putN (clampN n)).length ≤ 5 * l.length := by
    induction l with
    | nil => simp
    | cons a r ih =>
      have := putN_len5 (x := clampN a) (by have := clampN_le a; omega)
      simp only [List.flatMap_cons, List.length_append, List.length_cons] at *; omega
  omega

/-- What stands at the front of bytes, behind i bytes that gave n: the number, how many bytes it has, the error. -/
def frontL : Nat → Nat → List UInt8 → Nat × Nat × Int
  | _, _, [] => (0, 0, 4)
  | i, n, c :: r =>
    if i = 5 then (0, 0, 3)
    else if 128 ≤ c.toNat then frontL (i + 1) (n + (c.toNat - 128) * 128 ^ i) r
    else if c.toNat = 0 ∧ 0 < i then (0, 0, 3)
    else (n + c.toNat * 128 ^ i, i + 1, 0)
theorem front_nil (i n : Nat) : frontL i n [] = (0, 0, 4) := rfl
theorem front_five (n : Nat) (c : UInt8) (r : List UInt8) : frontL 5 n (c :: r) = (0, 0, 3) := by simp [frontL]
theorem front_more {i n : Nat} {c : UInt8} {r : List UInt8} (h : i ≠ 5) (hc : 128 ≤ c.toNat) : frontL i n (c :: r) = frontL (i + 1) (n + (c.toNat - 128) * 128 ^ i) r := by simp [frontL, h, hc]
theorem front_zero {i n : Nat} {c : UInt8} {r : List UInt8} (h : i ≠ 5) (hc : c.toNat = 0) (h0 : 0 < i) : frontL i n (c :: r) = (0, 0, 3) := by simp [frontL, h, hc, h0]
theorem front_last {i n : Nat} {c : UInt8} {r : List UInt8} (h : i ≠ 5) (hc : c.toNat < 128) (h0 : ¬ (c.toNat = 0 ∧ 0 < i)) : frontL i n (c :: r) = (n + c.toNat * 128 ^ i, i + 1, 0) := by
  unfold frontL; rw [if_neg h, if_neg (by omega), if_neg h0]
theorem drop_cons (L : List UInt8) {k : Nat} (h : k < L.length) : L.drop k = L[k] :: L.drop (k + 1) := List.drop_eq_getElem_cons h
/-- What is put is read, whatever stands behind it. -/
theorem front_put : ∀ (j i n x : Nat) (rest : List UInt8), (putN x).length = j → i + j ≤ 5 → (0 < x ∨ i = 0) → frontL i n (putN x ++ rest) = (n + x * 128 ^ i, i + j, 0)
  | 0, i, n, x, rest, hj, _, _ => by have := putN_pos x; omega
  | j + 1, i, n, x, rest, hj, hi, h0 => by
    by_cases hx : x < 128
    · rw [putN_low hx] at hj ⊢
      have e : (UInt8.ofNat x).toNat = x := by simp; omega
      rw [List.singleton_append, front_last (by omega) (by omega) (by omega), e]
      simp at hj; subst hj; rfl
    · rw [putN_high (by omega)] at hj ⊢
      have e : (UInt8.ofNat (128 + x % 128)).toNat = 128 + x % 128 := by simp; omega
      simp only [List.length_cons] at hj
      rw [List.cons_append, front_more (by omega) (by omega), e, front_put j (i + 1) _ (x / 128) rest (by omega) (by omega) (by omega)]
      have h1 : 128 + x % 128 - 128 = x % 128 := by omega
      have h2 : x * 128 ^ i = (x % 128) * 128 ^ i + x / 128 * 128 ^ (i + 1) := by
        have h3 := Nat.div_add_mod x 128
        calc x * 128 ^ i = (128 * (x / 128) + x % 128) * 128 ^ i := by rw [h3]
          _ = _ := by rw [Nat.add_mul, Nat.pow_succ, Nat.mul_comm 128 (x / 128), Nat.mul_assoc, Nat.mul_comm 128 (128 ^ i), Nat.add_comm]
      rw [h1, h2]
      simp only [Prod.mk.injEq, and_true]
      omega
theorem front_put0 {x : Nat} (h : x < 34359738368) (rest : List UInt8) : frontL 0 0 (putN x ++ rest) = (x, (putN x).length, 0) := by
  rw [front_put (putN x).length 0 0 x rest rfl (by have := putN_len5 h; omega) (Or.inr rfl)]; simp
/-- What is read is put as it stood. -/
theorem front_back : ∀ (L : List UInt8) (i n v sz : Nat), i ≤ 5 → frontL i n L = (v, sz, 0) → ∃ x j, v = n + x * 128 ^ i ∧ sz = i + j ∧ 0 < j ∧ i + j ≤ 5 ∧ j ≤ L.length ∧ putN x = L.take j ∧ (0 < x ∨ i = 0)
  | [], i, n, v, sz, _, h => by rw [front_nil] at h; simp at h
  | c :: r, i, n, v, sz, hi, h => by
    have hc := c.toNat_lt
    by_cases h5 : i = 5
    · subst h5; rw [front_five] at h; simp at h
    by_cases hm : 128 ≤ c.toNat
    · rw [front_more h5 hm] at h
      obtain ⟨x, j, hv, hs, hj, hij, hl, hp, h0⟩ := front_back r _ _ _ _ (by omega) h
      have h6 : 0 < x := by omega
      refine ⟨(c.toNat - 128) + 128 * x, j + 1, ?_, by omega, by omega, by omega, by simp; omega, ?_, Or.inl (by omega)⟩
      · rw [hv, Nat.add_mul, Nat.pow_succ, Nat.mul_comm 128 x, Nat.mul_assoc, Nat.mul_comm 128 (128 ^ i)]; omega
      · rw [putN_high (by omega), show (c.toNat - 128 + 128 * x) / 128 = x by omega, hp, show 128 + (c.toNat - 128 + 128 * x) % 128 = c.toNat by omega, List.take_succ_cons]; simp
    · by_cases h0 : c.toNat = 0 ∧ 0 < i
      · rw [front_zero h5 h0.1 h0.2] at h; simp at h
      · rw [front_last h5 (by omega) h0] at h
        simp only [Prod.mk.injEq, and_true] at h
        refine ⟨c.toNat, 1, by omega, by omega, by omega, by omega, by simp, ?_, by omega⟩
        rw [putN_low (by omega)]; simp
theorem front_back0 {L : List UInt8} {v sz : Nat} (h : frontL 0 0 L = (v, sz, 0)) : sz ≤ L.length ∧ 0 < sz ∧ sz ≤ 5 ∧ putN v = L.take sz := by
  obtain ⟨x, j, hv, hs, hj, hij, hl, hp, -⟩ := front_back L 0 0 v sz (by omega) h
  have e : v = x := by simpa using hv
  have e2 : sz = j := by omega
  subst e2; subst e
  exact ⟨hl, hj, by omega, hp⟩
theorem pow_le {k : Nat} (h : k ≤ 5) : 128 ^ k ≤ 34359738368 := Nat.pow_le_pow_right (n := 128) (by decide) h
theorem front_lt : ∀ (L : List UInt8) (i n v sz : Nat) (e : Int), i ≤ 5 → n < 128 ^ i → frontL i n L = (v, sz, e) → v < 34359738368
  | [], i, n, v, sz, e, _, _, h => by rw [front_nil] at h; simp at h; omega
  | c :: r, i, n, v, sz, e, hi, hn, h => by
    have hc := c.toNat_lt
    by_cases h5 : i = 5
    · subst h5; rw [front_five] at h; simp at h; omega
    have hp := pow_le (k := i + 1) (by omega)
    have hs : 128 ^ (i + 1) = 128 ^ i * 128 := Nat.pow_succ _ _
    by_cases hm : 128 ≤ c.toNat
    · rw [front_more h5 hm] at h
      refine front_lt r _ _ _ _ _ (by omega) ?_ h
      have : (c.toNat - 128) * 128 ^ i ≤ 127 * 128 ^ i := Nat.mul_le_mul_right _ (by omega)
      omega
    · by_cases h0 : c.toNat = 0 ∧ 0 < i
      · rw [front_zero h5 h0.1 h0.2] at h; simp at h; omega
      · rw [front_last h5 (by omega) h0] at h
        simp only [Prod.mk.injEq] at h
        have : c.toNat * 128 ^ i ≤ 127 * 128 ^ i := Nat.mul_le_mul_right _ (by omega)
        omega

/-- A Reader's step: what is left, its error, the limit; the number, what is left then, its error. -/
def numS (s : List UInt8) (e : Int) (most : Int) : Nat × List UInt8 × Int :=
  if e ≠ 0 then (0, [], e)
  else if (frontL 0 0 s).2.2 ≠ 0 then (0, [], (frontL 0 0 s).2.2)
  else if min most 1073741823 < (frontL 0 0 s).1 then (0, [], 6)
  else ((frontL 0 0 s).1, s.drop (frontL 0 0 s).2.1, 0)
/-- A Reader that fails. -/
def failS (s : List UInt8) (e e' : Int) : List UInt8 × Int := if e' = 0 then (s, e) else if e = 0 then ([], e') else ([], e)
theorem numS_err {s : List UInt8} {e most : Int} (h : e ≠ 0) : numS s e most = (0, [], e) := by unfold numS; rw [if_pos h]
theorem numS_bad {s : List UInt8} {most : Int} {v sz : Nat} {er : Int} (h : frontL 0 0 s = (v, sz, er)) (h0 : er ≠ 0) : numS s 0 most = (0, [], er) := by
  unfold numS; rw [h, if_neg (by simp), if_pos h0]
theorem numS_range {s : List UInt8} {most : Int} {v sz : Nat} (h : frontL 0 0 s = (v, sz, 0)) (h0 : min most 1073741823 < v) : numS s 0 most = (0, [], 6) := by
  unfold numS; rw [h, if_neg (by simp), if_neg (by simp), if_pos h0]
theorem numS_ok {s : List UInt8} {most : Int} {v sz : Nat} (h : frontL 0 0 s = (v, sz, 0)) (h0 : ¬ min most 1073741823 < v) : numS s 0 most = (v, s.drop sz, 0) := by
  unfold numS; rw [h, if_neg (by simp), if_neg (by simp), if_neg h0]
theorem numS_inv (s : List UInt8) (e most : Int) : (numS s e most).2.2 ≠ 0 → (numS s e most).2.1 = [] := by
  unfold numS
  repeat' split
  all_goals simp
theorem front_err (s : List UInt8) : ∀ i n, (frontL i n s).2.2 = 0 ∨ (frontL i n s).2.2 = 3 ∨ (frontL i n s).2.2 = 4 := by
  induction s with
  | nil => intro i n; right; right; rfl
  | cons c r ih =>
    intro i n
    unfold frontL
    repeat' split
    all_goals first | exact ih _ _ | simp
end Go.Proofs.Ytgbbbokfdoeniaa.Wire
