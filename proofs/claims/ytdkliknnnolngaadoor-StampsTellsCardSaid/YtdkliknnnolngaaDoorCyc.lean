/- Digits that beat one another in a ring, rows of them, their texts: plain mathematics, no program. Own work. -/
namespace Go.Proofs.YtdkliknnnolngaaDoor.Cyc

def isD (d : Int) : Bool := decide (0 ≤ d) && decide (d < 3)
theorem isD_iff {d : Int} : isD d = true ↔ 0 ≤ d ∧ d < 3 := by unfold isD; simp
theorem isD_not {d : Int} : isD d = false ↔ ¬ (0 ≤ d ∧ d < 3) := by rw [← isD_iff]; simp
def nextD (d : Int) : Int := if d = 0 then 1 else if d = 1 then 2 else 0
def beatsD (a b : Int) : Bool := (decide (a = 1) && decide (b = 0)) || (decide (a = 2) && decide (b = 1)) || (decide (a = 0) && decide (b = 2))
theorem beatsD_iff {a b : Int} : beatsD a b = true ↔ (a = 1 ∧ b = 0) ∨ (a = 2 ∧ b = 1) ∨ (a = 0 ∧ b = 2) := by unfold beatsD; simp [or_assoc]
theorem beatsD_not {a b : Int} : beatsD a b = false ↔ ¬ ((a = 1 ∧ b = 0) ∨ (a = 2 ∧ b = 1) ∨ (a = 0 ∧ b = 2)) := by rw [← beatsD_iff]; simp
theorem nextD_range (d : Int) : 0 ≤ nextD d ∧ nextD d < 3 := by unfold nextD; split <;> (try split) <;> omega
theorem beats_next {d : Int} (h0 : 0 ≤ d) (h1 : d < 3) : beatsD (nextD d) d = true := by
  rw [beatsD_iff]; unfold nextD; split <;> (try split) <;> omega
theorem next_three {d : Int} (h0 : 0 ≤ d) (h1 : d < 3) : nextD (nextD (nextD d)) = d := by
  obtain rfl | rfl | rfl : d = 0 ∨ d = 1 ∨ d = 2 := by omega
  all_goals decide
/-- Is it a row? -/
def fineL (l : List Int) : Bool := decide (l.length ≤ 8) && l.all isD
theorem fineL_iff {l : List Int} : fineL l = true ↔ l.length ≤ 8 ∧ ∀ x ∈ l, 0 ≤ x ∧ x < 3 := by
  unfold fineL; simp [isD_iff]
theorem fineL_not {l : List Int} : fineL l = false ↔ ¬ (l.length ≤ 8 ∧ ∀ x ∈ l, 0 ≤ x ∧ x < 3) := by rw [← fineL_iff]; simp
theorem fineL_all {l : List Int} (h : fineL l = true) (k : Nat) (hk : k < l.length) : 0 ≤ l[k] ∧ l[k] < 3 := (fineL_iff.1 h).2 _ (List.getElem_mem _)
theorem fineL_len {l : List Int} (h : fineL l = true) : l.length ≤ 8 := (fineL_iff.1 h).1
theorem fineL_bad {l : List Int} {k : Nat} (hk : k < l.length) (h : isD l[k] = false) : fineL l = false :=
  fineL_not.2 fun hh => isD_not.1 h (hh.2 _ (List.getElem_mem _))
theorem fineL_long {l : List Int} (h : 8 < l.length) : fineL l = false := fineL_not.2 fun hh => by have := hh.1; omega
theorem fineL_good {l : List Int} (h : l.length ≤ 8) (hk : (l.take l.length).all isD = true) : fineL l = true := by
  unfold fineL; rw [List.take_length] at hk; rw [hk, decide_eq_true h]; rfl
theorem fineL_short {l : List Int} (hk : (l.take l.length).all isD = true) : fineL l = decide (l.length ≤ 8) := by
  unfold fineL; rw [List.take_length] at hk; rw [hk]; simp
theorem all_snoc {l : List Int} {k : Nat} (hk : k < l.length) (h : (l.take k).all isD = true) (hd : isD l[k] = true) : (l.take (k + 1)).all isD = true := by
  rw [List.take_succ_eq_append_getElem hk, List.all_append, h]; simp [hd]
theorem fineL_tail {x : Int} {l : List Int} (h : fineL (x :: l) = true) : fineL l = true := by
  rw [fineL_iff] at *; exact ⟨by have := h.1; simp at this; omega, fun y hy => h.2 y (List.mem_cons_of_mem _ hy)⟩
theorem fineL_drop {l : List Int} (h : fineL l = true) (k : Nat) : fineL (l.drop k) = true := by
  rw [fineL_iff] at *; exact ⟨by rw [List.length_drop]; omega, fun y hy => h.2 y (List.mem_of_mem_drop hy)⟩
theorem fineL_zeros {n : Nat} (h : n ≤ 8) : fineL (List.replicate n 0) = true := by
  rw [fineL_iff, List.length_replicate]; exact ⟨h, fun x hx => by have := List.eq_of_mem_replicate hx; omega⟩
/-- The first unlike digits. -/
def domR : List Int → List Int → Bool
  | x :: a, y :: b => if x = y then domR a b else beatsD x y
  | _, _ => false
def domL (a b : List Int) : Bool := fineL a && fineL b && decide (a.length = b.length) && domR a b
theorem domL_of {a b : List Int} (ha : fineL a = true) (hb : fineL b = true) (h : a.length = b.length) : domL a b = domR a b := by unfold domL; rw [ha, hb, decide_eq_true h]; rfl
theorem domL_no1 {a b : List Int} (ha : fineL a = false) : domL a b = false := by unfold domL; rw [ha]; rfl
theorem domL_no2 {a b : List Int} (hb : fineL b = false) : domL a b = false := by unfold domL; rw [hb]; simp
theorem domL_no3 {a b : List Int} (h : a.length ≠ b.length) : domL a b = false := by unfold domL; rw [decide_eq_false h]; simp
theorem domR_drop {a b : List Int} {k : Nat} (ha : k < a.length) (hb : k < b.length) : domR (a.drop k) (b.drop k) = if a[k] = b[k] then domR (a.drop (k + 1)) (b.drop (k + 1)) else beatsD a[k] b[k] := by
  rw [List.drop_eq_getElem_cons ha, List.drop_eq_getElem_cons hb]; rfl
theorem domR_end (a b : List Int) : domR (a.drop a.length) b = false := by rw [List.drop_length]; unfold domR; rfl
theorem domR_one : ∀ {a b : List Int}, (∀ x ∈ a, 0 ≤ x ∧ x < 3) → (∀ x ∈ b, 0 ≤ x ∧ x < 3) → a.length = b.length →
    (domR a b || domR b a) = !decide (a = b) ∧ (domR a b && domR b a) = false
  | [], [], _, _, _ => by simp [domR]
  | x :: a, y :: b, ha, hb, h => by
    by_cases e : x = y
    · subst e
      have := domR_one (fun z hz => ha z (List.mem_cons_of_mem _ hz)) (fun z hz => hb z (List.mem_cons_of_mem _ hz)) (by simpa using h)
      simpa [domR] using this
    · have e' : ¬ y = x := fun h => e h.symm
      have hx := ha x (by simp)
      have hy := hb y (by simp)
      have h1 : (beatsD x y || beatsD y x) = true := by rw [Bool.or_eq_true, beatsD_iff, beatsD_iff]; omega
      have h2 : (beatsD x y && beatsD y x) = false := by rw [Bool.and_eq_false_iff, beatsD_not, beatsD_not]; omega
      simp [domR, e, e', h1, h2]
  | [], y :: b, _, _, h => by simp at h
  | x :: a, [], _, _, h => by simp at h
theorem domL_one {a b : List Int} (ha : fineL a = true) (hb : fineL b = true) (h : a.length = b.length) : (domL a b || domL b a) = !decide (a = b) ∧ (domL a b && domL b a) = false := by
  rw [domL_of ha hb h, domL_of hb ha h.symm]
  exact domR_one (fineL_iff.1 ha).2 (fineL_iff.1 hb).2 h
/-! texts -/
def dig (d : Int) : UInt8 := UInt8.ofNat (48 + d.toNat)
def numC (c : UInt8) : Int := (c.toNat : Int) - 48
theorem dig_num {c : UInt8} (h : 0 ≤ numC c) : dig (numC c) = c := by
  unfold dig numC at *
  have : (48 + ((c.toNat : Int) - 48).toNat) = c.toNat := by omega
  rw [this]; simp
theorem num_dig {d : Int} (h0 : 0 ≤ d) (h1 : d < 3) : numC (dig d) = d := by
  obtain rfl | rfl | rfl : d = 0 ∨ d = 1 ∨ d = 2 := by omega
  all_goals decide
def textL (l : List Int) : List UInt8 := if fineL l then (if l = [] then [45] else l.map dig) else []
theorem textL_bad {l : List Int} (h : fineL l = false) : textL l = [] := by unfold textL; rw [h]; rfl
theorem textL_nil : textL [] = [45] := by decide
theorem textL_good {l : List Int} (h : fineL l = true) (hl : l ≠ []) : textL l = l.map dig := by unfold textL; rw [h, if_pos rfl, if_neg hl]
theorem textL_len (l : List Int) : (textL l).length ≤ 8 := by
  unfold textL
  by_cases h : fineL l = true
  · rw [if_pos h]
    split
    · simp
    · rw [List.length_map]; exact fineL_len h
  · rw [if_neg h]; simp
def numsL (s : List UInt8) : List Int := s.map numC
/-- Is it a row's text? -/
def okP (s : List UInt8) : Bool := decide (s = [45]) || (!decide (s = []) && fineL (numsL s))
def valP (s : List UInt8) : List Int := if s = [45] then [] else if okP s then numsL s else []
theorem okP_dash : okP [45] = true := by decide
theorem valP_dash : valP [45] = [] := by decide
theorem okP_nil : okP [] = false := by decide
theorem valP_nil : valP [] = [] := by decide
theorem okP_of {s : List UInt8} (h : s ≠ [45]) (h0 : s ≠ []) : okP s = fineL (numsL s) := by unfold okP; simp [h, h0]
theorem valP_of {s : List UInt8} (h : s ≠ [45]) : valP s = if okP s then numsL s else [] := by unfold valP; rw [if_neg h]
theorem okP_long {s : List UInt8} (h : 8 < s.length) : okP s = false := by
  rw [okP_of (by rintro rfl; simp at h) (by rintro rfl; simp at h)]
  exact fineL_long (by unfold numsL; simpa using h)
theorem valP_bad {s : List UInt8} (h : okP s = false) : valP s = [] := by unfold valP; rw [h]; simp
theorem text_nums {s : List UInt8} (h : fineL (numsL s) = true) : (numsL s).map dig = s := by
  have h2 := (fineL_iff.1 h).2
  unfold numsL at *
  rw [List.map_map]
  conv => rhs; rw [← List.map_id s]
  exact List.map_congr_left fun c hc => dig_num (h2 _ (List.mem_map_of_mem hc)).1
theorem nums_text {l : List Int} (h : fineL l = true) : numsL (l.map dig) = l := by
  have h2 := (fineL_iff.1 h).2
  unfold numsL
  rw [List.map_map]
  conv => rhs; rw [← List.map_id l]
  exact List.map_congr_left fun d hd => num_dig (h2 d hd).1 (h2 d hd).2
theorem ok_text (l : List Int) : okP (textL l) = fineL l := by
  cases h : fineL l
  · rw [textL_bad h]; rfl
  · by_cases h0 : l = []
    · subst h0; decide
    · have hm : l.map dig ≠ [] := by simpa using h0
      rw [textL_good h h0]
      have h45 : l.map dig ≠ [45] := by
        intro e
        have hn := nums_text h
        rw [e] at hn
        have hh := h
        rw [← hn] at hh
        revert hh; decide
      rw [okP_of h45 hm, nums_text h, h]
theorem val_text {l : List Int} (h : fineL l = true) : valP (textL l) = l := by
  by_cases h0 : l = []
  · subst h0; decide
  · have ho := ok_text l
    rw [h] at ho
    rw [textL_good h h0] at *
    have h45 : l.map dig ≠ [45] := by
      intro e
      have hn := nums_text h
      rw [e] at hn
      have hh := h
      rw [← hn] at hh
      revert hh; decide
    rw [valP_of h45, ho, if_pos rfl, nums_text h]
/-- The reference's reading: at most nine numbers, whose text must be the text. -/
theorem ref_parse {s : List UInt8} (h : s ≠ [45]) (h0 : s ≠ []) : (textL (numsL (s.take 9)) = s) = (okP s = true) := by
  rw [okP_of h h0]
  apply propext
  constructor
  · intro e
    have hl := textL_len (numsL (s.take 9))
    rw [e] at hl
    rw [List.take_of_length_le (by omega)] at e
    cases hf : fineL (numsL s)
    · rw [textL_bad hf] at e; exact absurd e.symm h0
    · rfl
  · intro hf
    have hl := fineL_len hf
    have hl2 : s.length ≤ 8 := by unfold numsL at hl; simpa using hl
    rw [List.take_of_length_le (by omega), textL_good hf (by unfold numsL; simpa using h0), text_nums hf]
end Go.Proofs.YtdkliknnnolngaaDoor.Cyc
