/- Sets of up to 64 threads as numbers, plain mathematics: no program. Own work. -/
import Derived.Lib.TrailingZeros
import Derived.Lib.Itoa
import Derived.Laws.BitsAllLaws
namespace Go.Proofs.YtfajkmcogceapaaDoor.Bits

/-- The set of one thread. -/
def bitN (t : Int) : Nat := if 0 ≤ t ∧ t < 64 then 2 ^ t.toNat else 0
def withN (s : Nat) (t : Int) : Nat := s ||| bitN t
def withoutN (s : Nat) (t : Int) : Nat := s &&& (18446744073709551615 - bitN t)
def hasN (s : Nat) (t : Int) : Bool := decide (0 ≤ t ∧ t < 64) && s.testBit t.toNat
def setL (s : Nat) : List Nat := (List.range 64).filter s.testBit
def ofL (l : List Int) : Nat := l.foldl withN 0
def firstN (n : Int) : Nat := 2 ^ (min (max n 0) 64).toNat - 1

theorem bitN_lt (t : Int) : bitN t < 18446744073709551616 := by
  unfold bitN; split
  · rename_i h
    have : 2 ^ t.toNat < 2 ^ 64 := Nat.pow_lt_pow_right (by decide) (by omega)
    omega
  · decide
theorem withN_lt {s : Nat} (h : s < 18446744073709551616) (t : Int) : withN s t < 18446744073709551616 :=
  Nat.or_lt_two_pow (n := 64) (by omega) (by have := bitN_lt t; omega)
theorem withoutN_lt {s : Nat} (h : s < 18446744073709551616) (t : Int) : withoutN s t < 18446744073709551616 :=
  Nat.lt_of_le_of_lt Nat.and_le_left h
theorem ofL_lt (l : List Int) : ofL l < 18446744073709551616 := by
  have : ∀ (l : List Int) (s : Nat), s < 18446744073709551616 → l.foldl withN s < 18446744073709551616 := by
    intro l
    induction l with
    | nil => intro s h; exact h
    | cons a r ih => intro s h; exact ih _ (withN_lt h a)
  exact this l 0 (by decide)
theorem firstN_lt (n : Int) : firstN n < 18446744073709551616 := by
  unfold firstN
  have : 2 ^ (min (max n 0) 64).toNat ≤ 2 ^ 64 := Nat.pow_le_pow_right (by decide) (by omega)
  omega

theorem test_bitN (t : Int) (i : Nat) : (bitN t).testBit i = decide (t = i ∧ i < 64) := by
  unfold bitN
  split
  · rename_i h
    rw [Nat.testBit_two_pow]
    exact decide_eq_decide.2 (by omega)
  · rename_i h
    rw [Nat.zero_testBit]
    exact (decide_eq_false (by omega)).symm
theorem test_withN (s : Nat) (t : Int) (i : Nat) : (withN s t).testBit i = (s.testBit i || decide (t = i ∧ i < 64)) := by
  unfold withN; rw [Nat.testBit_or, test_bitN]
theorem hasN_and (s : Nat) (t : Int) : ((s &&& bitN t : Nat) != 0) = hasN s t := by
  unfold hasN bitN
  by_cases h : 0 ≤ t ∧ t < 64
  · rw [if_pos h, decide_eq_true h, Bool.true_and]
    cases hb : s.testBit t.toNat
    · have : s &&& 2 ^ t.toNat = 0 := by
        apply Nat.eq_of_testBit_eq; intro i
        rw [Nat.testBit_and, Nat.testBit_two_pow, Nat.zero_testBit]
        by_cases e : t.toNat = i
        · subst e; rw [hb]; rfl
        · simp [e]
      rw [this]; rfl
    · have : (s &&& 2 ^ t.toNat).testBit t.toNat = true := by
        rw [Nat.testBit_and, hb, Nat.testBit_two_pow_self]; rfl
      have h0 : s &&& 2 ^ t.toNat ≠ 0 := fun e => by rw [e, Nat.zero_testBit] at this; cases this
      simpa using h0
  · rw [if_neg h, decide_eq_false h, Nat.and_zero]; rfl
theorem has_half (s : Nat) {t : Int} (h0 : 0 ≤ t) (h1 : t < 64) : hasN s t = decide (s / 2 ^ t.toNat % 2 = 1) := by
  unfold hasN
  rw [decide_eq_true ⟨h0, h1⟩, Bool.true_and, Nat.testBit_eq_decide_div_mod_eq]
theorem has_out (s : Nat) {t : Int} (h : ¬ (0 ≤ t ∧ t < 64)) : hasN s t = false := by
  unfold hasN; rw [decide_eq_false h]; rfl

theorem with_has {s : Nat} {t : Int} (h : hasN s t = true) : withN s t = s := by
  apply Nat.eq_of_testBit_eq; intro i
  rw [test_withN]
  by_cases e : t = i ∧ i < 64
  · obtain ⟨rfl, hi⟩ := e
    unfold hasN at h
    simp at h
    rw [h.2]; rfl
  · rw [decide_eq_false e, Bool.or_false]
theorem with_out (s : Nat) {t : Int} (h : ¬ (0 ≤ t ∧ t < 64)) : withN s t = s := by
  unfold withN bitN; rw [if_neg h, Nat.or_zero]
theorem with_add {s : Nat} {t : Int} (h0 : 0 ≤ t) (h1 : t < 64) (h : hasN s t = false) : withN s t = s + 2 ^ t.toNat := by
  unfold withN bitN
  rw [if_pos ⟨h0, h1⟩]
  have hb : s.testBit t.toNat = false := by unfold hasN at h; rw [decide_eq_true ⟨h0, h1⟩] at h; simpa using h
  generalize t.toNat = k at hb
  rw [Nat.testBit_eq_decide_div_mod_eq] at hb
  have h1 : s / 2 ^ k % 2 = 0 := by have := of_decide_eq_false hb; omega
  have h2 := Nat.mod_pow_succ (x := s) (b := 2) (k := k)
  rw [h1, Nat.mul_zero, Nat.add_zero] at h2
  have h3 : s % 2 ^ (k + 1) < 2 ^ k := by rw [h2]; exact Nat.mod_lt _ (Nat.two_pow_pos k)
  have h4 : s % 2 ^ (k + 1) + 2 ^ k < 2 ^ (k + 1) := by rw [Nat.pow_succ] at *; omega
  have h5 := Nat.div_add_mod s (2 ^ (k + 1))
  have h6 : 2 ^ k ||| s % 2 ^ (k + 1) = 2 ^ k + s % 2 ^ (k + 1) := nat_join k _ _ (Nat.mod_self _) h3
  have h7 := nat_join (k + 1) (2 ^ (k + 1) * (s / 2 ^ (k + 1))) (s % 2 ^ (k + 1)) (Nat.mul_mod_right _ _) (Nat.mod_lt _ (Nat.two_pow_pos _))
  have h8 := nat_join (k + 1) (2 ^ (k + 1) * (s / 2 ^ (k + 1))) (2 ^ k + s % 2 ^ (k + 1)) (Nat.mul_mod_right _ _) (by omega)
  have h9 : s ||| 2 ^ k = 2 ^ (k + 1) * (s / 2 ^ (k + 1)) ||| (2 ^ k ||| s % 2 ^ (k + 1)) := by
    conv => lhs; rw [← h5, ← h7]
    rw [Nat.or_assoc, Nat.or_comm (s % 2 ^ (k + 1))]
  rw [h9, h6, h8]; omega
theorem without_out {s : Nat} (hs : s < 18446744073709551616) {t : Int} (h : hasN s t = false) : withoutN s t = s := by
  apply Nat.eq_of_testBit_eq; intro i
  unfold withoutN
  have hb := bitN_lt t
  rw [Nat.testBit_and, show 18446744073709551615 - bitN t = 2 ^ 64 - (bitN t + 1) by omega, Nat.testBit_two_pow_sub_succ (by omega), test_bitN]
  by_cases hi : i < 64
  · rw [decide_eq_true hi, Bool.true_and]
    by_cases e : t = i
    · subst e
      unfold hasN at h
      rw [decide_eq_true ⟨by omega, by omega⟩] at h
      have h' : s.testBit i = false := by simpa using h
      rw [h']; rfl
    · rw [decide_eq_false (fun h => e h.1)]; simp
  · have : s.testBit i = false := Nat.testBit_lt_two_pow (Nat.lt_of_lt_of_le hs (by
      have : 2 ^ 64 ≤ 2 ^ i := Nat.pow_le_pow_right (by decide) (by omega)
      omega))
    rw [this]; rfl
theorem without_sub {s : Nat} (hs : s < 18446744073709551616) {t : Int} (h : hasN s t = true) : withoutN s t + 2 ^ t.toNat = s := by
  have ht : 0 ≤ t ∧ t < 64 := by unfold hasN at h; simp at h; omega
  have h2 : hasN (withoutN s t) t = false := by
    unfold hasN withoutN
    have hb := bitN_lt t
    rw [Nat.testBit_and, show 18446744073709551615 - bitN t = 2 ^ 64 - (bitN t + 1) by omega, Nat.testBit_two_pow_sub_succ (by omega), test_bitN]
    have : decide (t = (t.toNat : Int) ∧ t.toNat < 64) = true := decide_eq_true (by omega)
    rw [this]; simp
  have h3 := with_add ht.1 ht.2 h2
  rw [← h3]
  apply Nat.eq_of_testBit_eq; intro i
  rw [test_withN]
  unfold withoutN
  have hb := bitN_lt t
  rw [Nat.testBit_and, show 18446744073709551615 - bitN t = 2 ^ 64 - (bitN t + 1) by omega, Nat.testBit_two_pow_sub_succ (by omega), test_bitN]
  by_cases hi : i < 64
  · by_cases e : t = i
    · subst e
      have hx : s.testBit i = true := by unfold hasN at h; simp at h; exact h.2
      simp [hx, hi]
    · simp [e, hi]
  · have : s.testBit i = false := Nat.testBit_lt_two_pow (Nat.lt_of_lt_of_le hs (by
      have : 2 ^ 64 ≤ 2 ^ i := Nat.pow_le_pow_right (by decide) (by omega)
      omega))
    rw [this]; simp [hi]

theorem firstN_succ {k : Nat} (h : k < 64) : withN (2 ^ k - 1) k = 2 ^ (k + 1) - 1 := by
  have hh : hasN (2 ^ k - 1) k = false := by
    unfold hasN; rw [show ((k : Int).toNat) = k from rfl, Nat.testBit_two_pow_sub_one]; simp
  rw [with_add (by omega) (by omega) hh]
  have := Nat.two_pow_pos k
  rw [show ((k : Int).toNat) = k from rfl, Nat.pow_succ]; omega

/-! the least one, and what is left -/
theorem range_split {c : Nat} (h : c < 64) : List.range 64 = List.range c ++ c :: (List.range (63 - c)).map (fun j => c + 1 + j) := by
  have e : 64 = c + (63 - c + 1) := by omega
  conv => lhs; rw [e, List.range_add, List.range_succ_eq_map]
  simp only [List.map_cons, List.map_map, Nat.add_zero]
  congr 2
  apply List.map_congr_left; intro j _; simp; omega
theorem lowest {x : Nat} (h0 : x ≠ 0) (h : x < 18446744073709551616) : ∃ m, x = 2 ^ (Lib.ctz 64 x + 1) * m + 2 ^ Lib.ctz 64 x ∧ Lib.ctz 64 x < 64 := by
  obtain ⟨m, hm, hk⟩ := Lib.ctzFrom_spec 64 x (by omega) (by omega)
  have e : Lib.ctz 64 x = Lib.ctzFrom 64 x := by unfold Lib.ctz; rw [if_neg h0]
  rw [e]
  refine ⟨m, ?_, hk⟩
  conv => lhs; rw [hm]
  rw [Nat.mul_add, Nat.pow_succ, Nat.mul_one, ← Nat.mul_assoc]
theorem test_high (c m j : Nat) : (2 ^ (c + 1) * m + 2 ^ c).testBit j = if j < c + 1 then decide (c = j) else m.testBit (j - (c + 1)) := by
  rw [Nat.testBit_two_pow_mul_add m (Nat.pow_lt_pow_right (by decide) (by omega)), Nat.testBit_two_pow]
theorem test_low (c m j : Nat) : (2 ^ (c + 1) * m).testBit j = if j < c + 1 then false else m.testBit (j - (c + 1)) := by
  have := Nat.testBit_two_pow_mul_add m (Nat.two_pow_pos (c + 1)) j
  rw [Nat.add_zero] at this
  rw [this, Nat.zero_testBit]
theorem drop_low (c m : Nat) : (2 ^ (c + 1) * m + 2 ^ c) &&& (2 ^ (c + 1) * m + 2 ^ c - 1) = 2 ^ (c + 1) * m := by
  apply Nat.eq_of_testBit_eq; intro j
  have hp := Nat.two_pow_pos c
  have hlt : 2 ^ c - 1 < 2 ^ (c + 1) := by rw [Nat.pow_succ]; omega
  rw [Nat.testBit_and, test_high, test_low, show 2 ^ (c + 1) * m + 2 ^ c - 1 = 2 ^ (c + 1) * m + (2 ^ c - 1) by omega,
    Nat.testBit_two_pow_mul_add m hlt, Nat.testBit_two_pow_sub_one]
  by_cases h : j < c + 1
  · rw [if_pos h, if_pos h, if_pos h]
    by_cases e : c = j
    · subst e; simp
    · simp [e]
  · rw [if_neg h, if_neg h, if_neg h, Bool.and_self]
/-- The set's threads are its least one, and those of what is left. -/
theorem setL_step {x : Nat} (h0 : x ≠ 0) (h : x < 18446744073709551616) : setL x = Lib.ctz 64 x :: setL (x &&& (x - 1)) ∧ (x &&& (x - 1)) < x := by
  obtain ⟨m, hm, hc⟩ := lowest h0 h
  generalize Lib.ctz 64 x = c at *
  have hd : x &&& (x - 1) = 2 ^ (c + 1) * m := by
    conv => lhs; rw [hm]
    exact drop_low c m
  rw [hd]
  refine ⟨?_, by have := Nat.two_pow_pos c; omega⟩
  unfold setL
  rw [range_split hc, List.filter_append, List.filter_append, List.filter_cons, List.filter_cons, hm]
  have a1 : (List.range c).filter (2 ^ (c + 1) * m + 2 ^ c).testBit = [] := by
    rw [List.filter_eq_nil_iff]; intro j hj; rw [List.mem_range] at hj
    rw [test_high, if_pos (by omega)]; simp; omega
  have a2 : (List.range c).filter (2 ^ (c + 1) * m).testBit = [] := by
    rw [List.filter_eq_nil_iff]; intro j hj; rw [List.mem_range] at hj
    rw [test_low, if_pos (by omega)]; simp
  have a3 : (2 ^ (c + 1) * m + 2 ^ c).testBit c = true := by rw [test_high, if_pos (by omega)]; simp
  have a4 : (2 ^ (c + 1) * m).testBit c = false := by rw [test_low, if_pos (by omega)]
  rw [a1, a2, a3, a4, if_pos rfl, if_neg (by simp)]
  simp only [List.nil_append]
  congr 1
  apply List.filter_congr; intro j hj
  rw [List.mem_map] at hj
  obtain ⟨i, _, rfl⟩ := hj
  rw [test_high, test_low, if_neg (by omega), if_neg (by omega)]
theorem setL_zero : setL 0 = [] := by
  unfold setL; rw [List.filter_eq_nil_iff]; intro j _; simp
theorem setL_len (s : Nat) : (setL s).length ≤ 64 := by
  unfold setL; have := List.length_filter_le s.testBit (List.range 64); simpa using this
theorem mem_setL (s t : Nat) : t ∈ setL s ↔ t < 64 ∧ s.testBit t = true := by
  unfold setL; rw [List.mem_filter, List.mem_range]
theorem setL_nil {s : Nat} (hs : s < 18446744073709551616) (h : setL s = []) : s = 0 := by
  apply Classical.byContradiction; intro h0
  rw [(setL_step h0 hs).1] at h; cases h
theorem setL_inj {a b : Nat} (ha : a < 18446744073709551616) (hb : b < 18446744073709551616) (h : setL a = setL b) : a = b := by
  apply Nat.eq_of_testBit_eq; intro i
  by_cases hi : i < 64
  · have h1 := mem_setL a i
    have h2 := mem_setL b i
    rw [h] at h1
    have : (i < 64 ∧ a.testBit i = true) ↔ (i < 64 ∧ b.testBit i = true) := h1.symm.trans h2
    cases hx : a.testBit i <;> cases hy : b.testBit i <;> simp_all
  · have hp : (18446744073709551616 : Nat) ≤ 2 ^ i := by
      have : 2 ^ 64 ≤ 2 ^ i := Nat.pow_le_pow_right (by decide) (by omega)
      omega
    rw [Nat.testBit_lt_two_pow (Nat.lt_of_lt_of_le ha hp), Nat.testBit_lt_two_pow (Nat.lt_of_lt_of_le hb hp)]

theorem test_foldl : ∀ (l : List Int) (s i : Nat), (l.foldl withN s).testBit i = (s.testBit i || decide ((i : Int) ∈ l ∧ i < 64))
  | [], s, i => by simp
  | a :: r, s, i => by
    rw [List.foldl_cons, test_foldl r, test_withN, Bool.or_assoc]
    congr 1
    rw [← Bool.decide_or]
    exact decide_eq_decide.2 (by rw [List.mem_cons, or_and_right, eq_comm (a := a)])
theorem test_ofL (l : List Int) (i : Nat) : (ofL l).testBit i = decide ((i : Int) ∈ l ∧ i < 64) := by
  unfold ofL; rw [test_foldl]; simp
theorem hasN_ofL (l : List Int) (t : Int) : hasN (ofL l) t = decide (t ∈ l ∧ 0 ≤ t ∧ t < 64) := by
  unfold hasN
  rw [test_ofL, ← Bool.decide_and]
  refine decide_eq_decide.2 ?_
  constructor
  · rintro ⟨⟨h0, h1⟩, h2, _⟩
    rw [Int.toNat_of_nonneg h0] at h2
    exact ⟨h2, h0, h1⟩
  · rintro ⟨h2, h0, h1⟩
    rw [Int.toNat_of_nonneg h0]
    exact ⟨⟨h0, h1⟩, h2, by omega⟩
theorem ofL_setL {s : Nat} (hs : s < 18446744073709551616) : ofL ((setL s).map fun (t : Nat) => (t : Int)) = s := by
  apply Nat.eq_of_testBit_eq; intro i
  rw [test_ofL]
  by_cases hi : i < 64
  · have : ((i : Int) ∈ (setL s).map fun (t : Nat) => (t : Int)) ↔ i ∈ setL s := by
      rw [List.mem_map]
      constructor
      · rintro ⟨a, ha, e⟩
        have : a = i := by omega
        rwa [← this]
      · exact fun h => ⟨i, h, rfl⟩
    cases hx : s.testBit i
    · exact decide_eq_false (fun h => by have := ((mem_setL s i).1 (this.1 h.1)).2; rw [hx] at this; cases this)
    · exact decide_eq_true ⟨this.2 ((mem_setL s i).2 ⟨hi, hx⟩), hi⟩
  · have hp : (18446744073709551616 : Nat) ≤ 2 ^ i := by
      have : 2 ^ 64 ≤ 2 ^ i := Nat.pow_le_pow_right (by decide) (by omega)
      omega
    rw [Nat.testBit_lt_two_pow (Nat.lt_of_lt_of_le hs hp)]
    exact decide_eq_false (fun h => hi h.2)
theorem count_eq_one (t : Int) : (List.range 64).countP (fun i : Nat => decide (t = (i : Int))) ≤ 1 := by
  by_cases h : 0 ≤ t ∧ t < 64
  · have : ∀ k : Fin 64, (List.range 64).countP (fun i => decide (k.val = i)) ≤ 1 := by decide +kernel
    have h2 := this ⟨t.toNat, by omega⟩
    refine Nat.le_trans (Nat.le_of_eq ?_) h2
    apply List.countP_congr; intro i _
    simp; omega
  · have : (List.range 64).countP (fun i : Nat => decide (t = (i : Int))) = 0 := by
      rw [List.countP_eq_zero]; intro i hi; rw [List.mem_range] at hi; simp; omega
    omega
theorem countP_or (p q : Nat → Bool) : ∀ l : List Nat, l.countP (fun i => p i || q i) ≤ l.countP p + l.countP q
  | [] => by simp
  | a :: r => by
    have := countP_or p q r
    simp only [List.countP_cons]
    cases p a <;> cases q a <;> simp <;> omega
theorem setL_with (s : Nat) (t : Int) : (setL (withN s t)).length ≤ (setL s).length + 1 := by
  unfold setL
  rw [← List.countP_eq_length_filter, ← List.countP_eq_length_filter]
  have e : (List.range 64).countP (withN s t).testBit = (List.range 64).countP (fun i : Nat => s.testBit i || decide (t = (i : Int))) := by
    apply List.countP_congr; intro i hi
    rw [List.mem_range] at hi
    rw [test_withN, decide_eq_decide.2 (and_iff_left hi)]
  have h1 := countP_or s.testBit (fun i : Nat => decide (t = (i : Int))) (List.range 64)
  have h2 := count_eq_one t
  omega
theorem setL_ofL (l : List Int) : (setL (ofL l)).length ≤ l.length := by
  have : ∀ (l : List Int) (s : Nat), (setL (l.foldl withN s)).length ≤ (setL s).length + l.length := by
    intro l
    induction l with
    | nil => intro s; simp
    | cons a r ih =>
      intro s
      have h1 := ih (withN s a)
      have h2 := setL_with s a
      simp only [List.foldl_cons, List.length_cons]; omega
  have h := this l 0
  rw [setL_zero] at h
  simpa [ofL] using h
end Go.Proofs.YtfajkmcogceapaaDoor.Bits
