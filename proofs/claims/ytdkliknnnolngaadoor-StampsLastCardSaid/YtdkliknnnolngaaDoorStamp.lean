/- Boards of stamps: the new stamp over rows, who dominates whom, never three first digits at once: plain mathematics, no program. Own work. -/
import Derived.Test.YtdkliknnnolngaaDoorCyc
namespace Go.Proofs.YtdkliknnnolngaaDoor.Cyc

/-- All are rows of k digits. -/
def rowsL (k : Int) (l : List (List Int)) : Bool := l.all fun r => decide ((r.length : Int) = k) && fineL r
theorem rowsL_iff {k : Int} {l : List (List Int)} : rowsL k l = true ↔ ∀ r ∈ l, (r.length : Int) = k ∧ fineL r = true := by
  unfold rowsL; simp [List.all_eq_true]
theorem rowsL_nil (k : Int) : rowsL k [] = true := rfl
theorem rowsL_sub {k : Int} {l m : List (List Int)} (h : rowsL k l = true) (hs : ∀ r ∈ m, r ∈ l) : rowsL k m = true :=
  rowsL_iff.2 fun r hr => rowsL_iff.1 h r (hs r hr)
/-- Those of n threads. -/
def fineB (b : List (List Int)) : Bool := decide (1 ≤ b.length) && decide (b.length ≤ 8) && rowsL ((b.length : Int) - 1) b
/-- The greatest, from one on. -/
def bestL : List Int → List (List Int) → List Int
  | b, [] => b
  | b, r :: t => bestL (if domL r b then r else b) t
def great : List (List Int) → List Int
  | [] => []
  | r :: t => bestL r t
/-- What is behind a first digit. -/
def nearL (l : List (List Int)) (d : Int) : List (List Int) := (l.filter fun r => decide (r.getD 0 0 = d)).map List.tail
/-- The new stamp. -/
def overL : Nat → List (List Int) → List Int
  | 0, _ => []
  | k + 1, l => if l = [] then 0 :: overL k [] else
      if (nearL l ((great l).getD 0 0)).length < k + 1 then (great l).getD 0 0 :: overL k (nearL l ((great l).getD 0 0))
      else nextD ((great l).getD 0 0) :: overL k []
def takeL (b : List (List Int)) (me : Nat) : List (List Int) := b.set me (overL (b.length - 1) (b.eraseIdx me))

theorem overL_nil : ∀ k, overL k [] = List.replicate k 0
  | 0 => rfl
  | k + 1 => by unfold overL; rw [if_pos rfl, overL_nil k]; rfl
theorem overL_len : ∀ k l, (overL k l).length = k
  | 0, _ => rfl
  | k + 1, l => by
    unfold overL; split
    · simp [overL_len k]
    · split <;> simp [overL_len k]
theorem bestL_mem : ∀ (b : List Int) (t : List (List Int)), bestL b t ∈ b :: t
  | b, [] => by simp [bestL]
  | b, r :: t => by
    unfold bestL
    by_cases h : domL r b = true
    · rw [h, if_pos rfl]; exact List.mem_cons_of_mem _ (bestL_mem r t)
    · rw [if_neg h]
      rcases List.mem_cons.1 (bestL_mem b t) with e | e
      · rw [e]; simp
      · exact List.mem_cons_of_mem _ (List.mem_cons_of_mem _ e)
theorem mem_skip {x b r : List Int} {t : List (List Int)} (h : x ∈ b :: t) : x ∈ b :: r :: t := by
  rcases List.mem_cons.1 h with rfl | h
  · simp
  · simp [h]
theorem great_mem {l : List (List Int)} (h : l ≠ []) : great l ∈ l := by
  cases l with
  | nil => exact absurd rfl h
  | cons r t => exact bestL_mem r t
theorem digit_of {r : List Int} (h : fineL r = true) (h0 : r ≠ []) : 0 ≤ r.getD 0 0 ∧ r.getD 0 0 < 3 := by
  cases r with
  | nil => exact absurd rfl h0
  | cons x t => have := (fineL_iff.1 h).2 x (by simp); simpa using this
theorem overL_digits : ∀ (k : Nat) (l : List (List Int)), (∀ r ∈ l, r.length = k ∧ fineL r = true) → ∀ x ∈ overL k l, 0 ≤ x ∧ x < 3
  | 0, _, _ => by simp [overL]
  | k + 1, l, h => by
    have hz : ∀ x ∈ overL k [], 0 ≤ x ∧ x < 3 := by
      rw [overL_nil]; intro x hx; have := List.eq_of_mem_replicate hx; omega
    intro x hx
    unfold overL at hx
    split at hx
    · rcases List.mem_cons.1 hx with rfl | hx
      · omega
      · exact hz x hx
    · next hl =>
      have hg := h _ (great_mem hl)
      have hd := digit_of hg.2 (fun e => by rw [e] at hg; simp at hg)
      split at hx
      · rcases List.mem_cons.1 hx with rfl | hx
        · exact hd
        · refine overL_digits k _ (fun r hr => ?_) x hx
          unfold nearL at hr
          obtain ⟨s, hs, rfl⟩ := List.mem_map.1 hr
          have := h s (List.mem_filter.1 hs).1
          exact ⟨by rw [List.length_tail]; omega, by rw [← List.drop_one]; exact fineL_drop this.2 1⟩
      · rcases List.mem_cons.1 hx with rfl | hx
        · exact nextD_range _
        · exact hz x hx
theorem overL_fine {k : Nat} {l : List (List Int)} (h : ∀ r ∈ l, r.length = k ∧ fineL r = true) (hk : k ≤ 8) : fineL (overL k l) = true :=
  fineL_iff.2 ⟨by rw [overL_len]; exact hk, overL_digits k l h⟩

/-! the same, told by places -/
theorem getD_drop (r : List Int) (a : Nat) : (r.drop a).getD 0 0 = r.getD a 0 := by
  simp [List.getD_eq_getElem?_getD, List.getElem?_drop]
/-- Those that have a digit at a place. -/
def withL (l : List (List Int)) (at_ : Nat) (d : Int) : List (List Int) := l.filter fun r => decide (r.getD at_ 0 = d)
theorem withL_take {l : List (List Int)} {j a : Nat} {d : Int} (hj : j < l.length) (ha : a < l[j].length) : withL (l.take (j + 1)) a d = withL (l.take j) a d ++ (if l[j][a] = d then [l[j]] else []) := by
  unfold withL
  rw [List.take_succ_eq_append_getElem hj, List.filter_append]
  congr 1
  have : l[j].getD a 0 = l[j][a] := by rw [List.getD_eq_getElem?_getD, List.getElem?_eq_getElem ha]; rfl
  by_cases h : l[j][a] = d
  · rw [if_pos h, List.filter_cons_of_pos (by rw [this]; exact decide_eq_true h)]; rfl
  · rw [if_neg h, List.filter_cons_of_neg (by rw [this]; simp [h])]; rfl
theorem withL_len (l : List (List Int)) (a : Nat) (d : Int) : (withL l a d).length ≤ l.length := List.length_filter_le _ _
theorem near_drop (l : List (List Int)) (a : Nat) (d : Int) : nearL (l.map (List.drop a)) d = (withL l a d).map (List.drop (a + 1)) := by
  unfold nearL withL
  rw [List.filter_map, List.map_map]
  congr 1
  · funext r; simp
  · congr 1; funext r; simp [Function.comp]
theorem domR_pre : ∀ (p a b : List Int), domR (p ++ a) (p ++ b) = domR a b
  | [], _, _ => rfl
  | x :: p, a, b => by simp [domR, domR_pre p a b]
theorem dom_drop {r s p : List Int} {a : Nat} (hr : fineL r = true) (hs : fineL s = true) (hl : r.length = s.length) (h1 : r.take a = p) (h2 : s.take a = p) :
    domL (r.drop a) (s.drop a) = domL r s := by
  rw [domL_of hr hs hl, domL_of (fineL_drop hr a) (fineL_drop hs a) (by simp [hl])]
  conv => rhs; rw [← List.take_append_drop a r, ← List.take_append_drop a s, h1, h2, domR_pre]
theorem best_drop {p : List Int} {a k : Nat} : ∀ (b : List Int) (t : List (List Int)), (∀ r ∈ b :: t, r.length = k ∧ fineL r = true ∧ r.take a = p) →
    bestL (b.drop a) (t.map (List.drop a)) = (bestL b t).drop a
  | b, [], _ => rfl
  | b, r :: t, h => by
    have hb := h b (by simp)
    have hr := h r (by simp)
    simp only [List.map_cons, bestL]
    rw [dom_drop hr.2.1 hb.2.1 (by omega) hr.2.2 hb.2.2]
    by_cases hd : domL r b = true
    · rw [hd, if_pos rfl, if_pos rfl]
      exact best_drop r t fun s hs => h s (List.mem_cons_of_mem _ hs)
    · rw [if_neg hd, if_neg hd]
      exact best_drop b t fun s hs => h s (mem_skip hs)
theorem great_drop {p : List Int} {a k : Nat} {l : List (List Int)} (h : ∀ r ∈ l, r.length = k ∧ fineL r = true ∧ r.take a = p) :
    great (l.map (List.drop a)) = (great l).drop a := by
  cases l with
  | nil => simp [great]
  | cons b t => exact best_drop b t h
/-- Rows that are alike ahead of a place. -/
def Alike (l : List (List Int)) (k a : Nat) (p : List Int) : Prop := ∀ r ∈ l, r.length = k ∧ fineL r = true ∧ r.take a = p
theorem Alike.with_ {l : List (List Int)} {k a : Nat} {p : List Int} (h : Alike l k a p) (ha : a < k) (d : Int) : Alike (withL l a d) k (a + 1) (p ++ [d]) := by
  intro r hr
  obtain ⟨h1, h2⟩ := List.mem_filter.1 hr
  obtain ⟨h3, h4, h5⟩ := h r h1
  refine ⟨h3, h4, ?_⟩
  have hlt : a < r.length := by omega
  have h2' : r.getD a 0 = d := of_decide_eq_true h2
  rw [List.take_succ_eq_append_getElem hlt, h5, ← h2']; simp [List.getD_eq_getElem?_getD, hlt]
theorem over_stop {l : List (List Int)} {k a : Nat} (h : l = [] ∨ a = k) : overL (k - a) (l.map (List.drop a)) = List.replicate (k - a) 0 := by
  rcases h with rfl | rfl
  · exact overL_nil _
  · simp [overL]
theorem over_full {l : List (List Int)} {k a : Nat} {p : List Int} {d : Int} (h : Alike l k a p) (hl : l ≠ []) (ha : a < k) (hd : (great l).getD a 0 = d) (hn : k - a ≤ (withL l a d).length) :
    overL (k - a) (l.map (List.drop a)) = nextD d :: List.replicate (k - (a + 1)) 0 := by
  obtain ⟨j, hj⟩ : ∃ j, k - a = j + 1 := ⟨k - a - 1, by omega⟩
  rw [hj, overL, if_neg (by simpa using hl), great_drop h, getD_drop, hd, near_drop, List.length_map, if_neg (by omega), overL_nil]
  congr 2; omega
theorem over_more {l : List (List Int)} {k a : Nat} {p : List Int} {d : Int} (h : Alike l k a p) (hl : l ≠ []) (ha : a < k) (hd : (great l).getD a 0 = d) (hn : (withL l a d).length < k - a) :
    overL (k - a) (l.map (List.drop a)) = d :: overL (k - (a + 1)) ((withL l a d).map (List.drop (a + 1))) := by
  obtain ⟨j, hj⟩ : ∃ j, k - a = j + 1 := ⟨k - a - 1, by omega⟩
  rw [hj, overL, if_neg (by simpa using hl), great_drop h, getD_drop, hd, near_drop, List.length_map, if_pos (by omega)]
  congr 2; omega

theorem nearL_take {l : List (List Int)} {j : Nat} {d : Int} (hj : j < l.length) (ha : 0 < l[j].length) : nearL (l.take (j + 1)) d = nearL (l.take j) d ++ (if l[j][0] = d then [l[j].drop 1] else []) := by
  unfold nearL
  rw [List.take_succ_eq_append_getElem hj, List.filter_append, List.map_append]
  congr 1
  have : l[j].getD 0 0 = l[j][0] := by rw [List.getD_eq_getElem?_getD, List.getElem?_eq_getElem ha]; rfl
  by_cases h : l[j][0] = d
  · rw [if_pos h, List.filter_cons_of_pos (by rw [this]; exact decide_eq_true h)]; simp
  · rw [if_neg h, List.filter_cons_of_neg (by rw [this]; simp [h])]; rfl
theorem nearL_len (l : List (List Int)) (d : Int) : (nearL l d).length ≤ l.length := by unfold nearL; rw [List.length_map]; exact List.length_filter_le _ _
theorem nearL_rows {l : List (List Int)} {k : Nat} {d : Int} (h : ∀ r ∈ l, r.length = k + 1 ∧ fineL r = true) : ∀ r ∈ nearL l d, r.length = k ∧ fineL r = true := by
  intro r hr
  unfold nearL at hr
  obtain ⟨s, hs, rfl⟩ := List.mem_map.1 hr
  have := h s (List.mem_filter.1 hs).1
  exact ⟨by rw [List.length_tail]; omega, by rw [← List.drop_one]; exact fineL_drop this.2 1⟩
theorem over_none {k : Nat} : overL (k + 1) [] = 0 :: overL k [] := by rw [overL, if_pos rfl]
theorem over_near {k : Nat} {l : List (List Int)} {d : Int} (hl : l ≠ []) (hd : (great l).getD 0 0 = d) (h : (nearL l d).length < k + 1) : overL (k + 1) l = d :: overL k (nearL l d) := by
  rw [overL, if_neg hl, hd, if_pos h]
theorem over_next {k : Nat} {l : List (List Int)} {d : Int} (hl : l ≠ []) (hd : (great l).getD 0 0 = d) (h : ¬ (nearL l d).length < k + 1) : overL (k + 1) l = nextD d :: overL k [] := by
  rw [overL, if_neg hl, hd, if_neg h]
/-! step by step, and who is last -/
def rowOk (k : Int) (r : List Int) : Bool := decide ((r.length : Int) = k) && fineL r
theorem rowsL_take {k : Int} {l : List (List Int)} {j : Nat} (hj : j < l.length) (h : rowsL k (l.take j) = true) (h1 : rowOk k l[j] = true) : rowsL k (l.take (j + 1)) = true := by
  unfold rowsL at *
  rw [List.take_succ_eq_append_getElem hj, List.all_append, h]
  simpa [rowOk] using h1
theorem rowsL_bad {k : Int} {l : List (List Int)} {j : Nat} (hj : j < l.length) (h1 : rowOk k l[j] = false) : rowsL k l = false := by
  cases h : rowsL k l
  · rfl
  · have := rowsL_iff.1 h _ (List.getElem_mem hj)
    unfold rowOk at h1
    rw [this.2, decide_eq_true this.1] at h1
    cases h1
theorem rowsL_all {k : Int} {l : List (List Int)} (h : rowsL k (l.take l.length) = true) : rowsL k l = true := by rwa [List.take_length] at h
theorem rowOk_len {k : Int} {r : List Int} (h : ¬ (r.length : Int) = k) : rowOk k r = false := by unfold rowOk; rw [decide_eq_false h]; rfl
theorem rowOk_fine {k : Int} {r : List Int} {z : Bool} (h : (r.length : Int) = k) (hz : fineL r = z) : rowOk k r = z := by unfold rowOk; rw [decide_eq_true h, hz]; rfl
theorem domL_self (r : List Int) : domL r r = false := by
  have h : ∀ r : List Int, domR r r = false := fun r => by induction r with
    | nil => rfl
    | cons x t ih => simp [domR, ih]
  unfold domL; rw [h r]; simp
theorem great_start {l : List (List Int)} (h : 0 < l.length) : bestL l[0] (l.drop 0) = great l := by
  cases l with
  | nil => simp at h
  | cons r t => simp [great, bestL, domL_self]
theorem best_step {l : List (List Int)} {k : Nat} {m : List Int} {z : Bool} (hk : k < l.length) (h : bestL m (l.drop k) = great l) (hz : domL l[k] m = z) : bestL (if z then l[k] else m) (l.drop (k + 1)) = great l := by
  rw [List.drop_eq_getElem_cons hk, bestL, hz] at h
  exact h
theorem best_end {l : List (List Int)} {m : List Int} (h : bestL m (l.drop l.length) = great l) : m = great l := by
  rw [List.drop_length] at h; exact h
/-- Does it dominate each? -/
def domAll (r : List Int) (l : List (List Int)) : Bool := l.all (domL r)
theorem domAll_take {r : List Int} {l : List (List Int)} {j : Nat} (hj : j < l.length) (h : domAll r (l.take j) = true) (h1 : domL r l[j] = true) : domAll r (l.take (j + 1)) = true := by
  unfold domAll at *
  rw [List.take_succ_eq_append_getElem hj, List.all_append, h]
  simpa using h1
theorem domAll_bad {r : List Int} {l : List (List Int)} {j : Nat} (hj : j < l.length) (h1 : domL r l[j] = false) : domAll r l = false := by
  cases h : domAll r l
  · rfl
  · have := List.all_eq_true.1 h _ (List.getElem_mem hj)
    rw [h1] at this; cases this
theorem domAll_all {r : List Int} {l : List (List Int)} (h : domAll r (l.take l.length) = true) : domAll r l = true := by rwa [List.take_length] at h
/-- Does the thread t dominate all others? -/
def topP (b : List (List Int)) (t : Nat) : Bool := domAll (b.getD t []) (b.eraseIdx t)
def lastF (P : Nat → Bool) : Nat → Nat → Int
  | _, 0 => -1
  | k, n + 1 => if P k then k else lastF P (k + 1) n
def lastL (b : List (List Int)) : Int := lastF (topP b) 0 b.length
theorem lastF_step {P : Nat → Bool} {k n : Nat} {z : Int} (hk : k < n) (h : lastF P k (n - k) = z) : (P k = true → z = k) ∧ (P k = false → lastF P (k + 1) (n - (k + 1)) = z) := by
  obtain ⟨j, hj⟩ : ∃ j, n - k = j + 1 := ⟨n - k - 1, by omega⟩
  rw [hj, lastF] at h
  have : n - (k + 1) = j := by omega
  rw [this]
  constructor
  · intro hp; rw [hp] at h; simpa using h.symm
  · intro hp; rw [hp] at h; simpa using h
theorem erase_cut (b : List (List Int)) (t : Nat) : b.take t ++ b.drop (t + 1) = b.eraseIdx t := (List.eraseIdx_eq_take_drop_succ b t).symm
theorem erase_snoc {b : List (List Int)} {me k : Nat} (hk : k < b.length) (h : k ≠ me) : (b.take (k + 1)).eraseIdx me = (b.take k).eraseIdx me ++ [b[k]] := by
  rw [List.take_succ_eq_append_getElem hk]
  have hl : (b.take k).length = k := by rw [List.length_take]; omega
  rcases Nat.lt_or_ge me k with h1 | h1
  · rw [List.eraseIdx_append_of_lt_length (by omega)]
  · rw [List.eraseIdx_of_length_le (by simp; omega), List.eraseIdx_of_length_le (by omega)]
theorem erase_same {b : List (List Int)} {me : Nat} (hk : me < b.length) : (b.take (me + 1)).eraseIdx me = (b.take me).eraseIdx me := by
  have hl : (b.take me).length = me := by rw [List.length_take]; omega
  rw [List.take_succ_eq_append_getElem hk, List.eraseIdx_append_of_length_le (by omega), hl, Nat.sub_self, List.eraseIdx_of_length_le (l := b.take me) (by omega)]
  simp
theorem topP_iff {b : List (List Int)} {t : Nat} (ht : t < b.length) : topP b t = true ↔ ∀ c (h : c < b.length), c = t ∨ domL b[t] b[c] = true := by
  unfold topP domAll
  rw [List.all_eq_true, List.getD_eq_getElem?_getD, List.getElem?_eq_getElem ht]
  constructor
  · intro h c hc
    by_cases e : c = t
    · exact .inl e
    · exact .inr (h _ (List.mem_eraseIdx_iff_getElem.2 ⟨c, hc, e, rfl⟩))
  · intro h x hx
    obtain ⟨c, hc, e, rfl⟩ := List.mem_eraseIdx_iff_getElem.1 hx
    exact (h c hc).resolve_left e

/-! never three first digits at once -/
def Two (S : List (List Int)) : Prop := ∀ p : List Int, ∃ d : Int, 0 ≤ d ∧ d < 3 ∧ ∀ r ∈ S, ¬ (p ++ [d]) <+: r
theorem Two.sub {S T : List (List Int)} (h : Two S) (hs : ∀ r ∈ T, r ∈ S) : Two T := fun p => by
  obtain ⟨d, h0, h1, h2⟩ := h p
  exact ⟨d, h0, h1, fun r hr => h2 r (hs r hr)⟩
theorem two_zeros {n : Nat} {S : List (List Int)} (h : ∀ r ∈ S, r = List.replicate n 0) : Two S := fun p => by
  refine ⟨1, by omega, by omega, fun r hr hp => ?_⟩
  have : (1 : Int) ∈ r := hp.subset (by simp)
  rw [h r hr] at this
  have := List.eq_of_mem_replicate this
  omega
theorem two_near {l : List (List Int)} {k : Nat} (hl : ∀ r ∈ l, r.length = k + 1 ∧ fineL r = true) (h : Two l) (d : Int) : Two (nearL l d) := fun p => by
  obtain ⟨e, h0, h1, h2⟩ := h (d :: p)
  refine ⟨e, h0, h1, fun t ht hp => ?_⟩
  obtain ⟨r, hr, rfl⟩ := List.mem_map.1 ht
  obtain ⟨hr1, hr2⟩ := List.mem_filter.1 hr
  cases r with
  | nil => have := hl _ hr1; simp at this
  | cons x t =>
    have : x = d := by simpa using hr2
    subst this
    exact h2 _ hr1 (by simpa using hp)
/-- x is y, or beats it. -/
def geD (x y : Int) : Prop := y = x ∨ beatsD x y = true
theorem geD_trans {x y z e : Int} (hx : 0 ≤ x ∧ x < 3) (_ : 0 ≤ y ∧ y < 3) (hz : 0 ≤ z ∧ z < 3) (he : 0 ≤ e ∧ e < 3) (ex : x ≠ e) (ey : y ≠ e) (ez : z ≠ e)
    (h1 : geD x y) (h2 : geD y z) : geD x z := by
  unfold geD at *; rw [beatsD_iff] at *; omega
theorem dom_ge {r b : List Int} (hr : fineL r = true) (hb : fineL b = true) (h : r.length = b.length) (h0 : 0 < r.length) :
    (domL r b = true → geD (r.getD 0 0) (b.getD 0 0)) ∧ (domL r b = false → geD (b.getD 0 0) (r.getD 0 0)) := by
  have h1 := domL_of hr hb h
  cases r with
  | nil => simp at h0
  | cons x r =>
    cases b with
    | nil => simp at h
    | cons y b =>
      have hx := (fineL_iff.1 hr).2 x (by simp)
      have hy := (fineL_iff.1 hb).2 y (by simp)
      rw [h1]
      unfold geD domR
      simp only [List.getD_cons_zero]
      by_cases e : x = y
      · simp [e]
      · rw [if_neg e, beatsD_iff, beatsD_iff, beatsD_not]; omega
theorem best_ge {k : Nat} {e : Int} (he : 0 ≤ e ∧ e < 3) : ∀ (b : List Int) (t : List (List Int)), (∀ r ∈ b :: t, r.length = k + 1 ∧ fineL r = true ∧ r.getD 0 0 ≠ e) →
    ∀ x ∈ b :: t, geD ((bestL b t).getD 0 0) (x.getD 0 0)
  | b, [], _, x, hx => by
    obtain rfl : x = b := by simpa using hx
    exact Or.inl rfl
  | b, r :: t, h, x, hx => by
    have hb := h b (by simp)
    have hr := h r (by simp)
    have dg : ∀ s ∈ b :: r :: t, 0 ≤ s.getD 0 0 ∧ s.getD 0 0 < 3 := fun s hs => digit_of (h s hs).2.1 (fun e => by have := (h s hs).1; rw [e] at this; simp at this)
    have hg := dom_ge hr.2.1 hb.2.1 (by omega) (by omega)
    unfold bestL
    by_cases hd : domL r b = true
    · rw [hd, if_pos rfl]
      have ih := best_ge he r t (fun s hs => h s (List.mem_cons_of_mem _ hs))
      have hm : bestL r t ∈ b :: r :: t := List.mem_cons_of_mem _ (bestL_mem r t)
      rcases List.mem_cons.1 hx with rfl | hx
      · exact geD_trans (dg _ hm) (dg r (by simp)) (dg _ (by simp)) he (h _ hm).2.2 hr.2.2 hb.2.2 (ih r (by simp)) (hg.1 hd)
      · exact ih x hx
    · have hd' : domL r b = false := by simpa using hd
      rw [if_neg hd]
      have ih := best_ge he b t (fun s hs => h s (mem_skip hs))
      have hm : bestL b t ∈ b :: r :: t := mem_skip (bestL_mem b t)
      rcases List.mem_cons.1 hx with rfl | hx
      · exact ih _ (by simp)
      · rcases List.mem_cons.1 hx with rfl | hx
        · exact geD_trans (dg _ hm) (dg b (by simp)) (dg _ (by simp)) he (h _ hm).2.2 hb.2.2 hr.2.2 (ih b (by simp)) (hg.2 hd')
        · exact ih x (by simp [hx])
theorem great_ge {k : Nat} {l : List (List Int)} (hl : ∀ r ∈ l, r.length = k + 1 ∧ fineL r = true) (h : Two l) : ∀ x ∈ l, geD ((great l).getD 0 0) (x.getD 0 0) := by
  cases l with
  | nil => simp
  | cons b t =>
    obtain ⟨e, h0, h1, h2⟩ := h []
    refine best_ge ⟨h0, h1⟩ b t fun r hr => ⟨(hl r hr).1, (hl r hr).2, fun he => h2 r hr ?_⟩
    cases r with
    | nil => have := hl _ hr; simp at this
    | cons x r => have : x = e := by simpa using he
                  subst this; simp
theorem over_dom : ∀ (k : Nat) (l : List (List Int)), l.length ≤ k → (∀ r ∈ l, r.length = k ∧ fineL r = true) → Two l →
    (∀ r ∈ l, domR (overL k l) r = true) ∧ Two (overL k l :: l)
  | 0, l, hn, _, _ => by
    obtain rfl : l = [] := by cases l <;> simp_all
    exact ⟨by simp, two_zeros (n := 0) (by simp [overL])⟩
  | k + 1, l, hn, hl, h2 => by
    by_cases e : l = []
    · subst e
      rw [overL_nil]
      exact ⟨by simp, two_zeros (n := k + 1) (by simp)⟩
    unfold overL
    rw [if_neg e]
    have hg := great_mem e
    have hge := great_ge hl h2
    have dg : ∀ s ∈ l, 0 ≤ s.getD 0 0 ∧ s.getD 0 0 < 3 := fun s hs => digit_of (hl s hs).2 (fun e => by have := (hl s hs).1; rw [e] at this; simp at this)
    have hd := dg _ hg
    generalize hD : (great l).getD 0 0 = D at *
    have first : ∀ r ∈ l, ∃ x t, r = x :: t ∧ geD D x ∧ 0 ≤ x ∧ x < 3 := fun r hr => by
      have h1 := hge r hr
      have h3 := dg r hr
      cases r with
      | nil => have := hl _ hr; simp at this
      | cons x t => exact ⟨x, t, rfl, by simpa using h1, by simpa using h3⟩
    have hnear : ∀ x t, x :: t ∈ l → x = D → t ∈ nearL l D := fun x t hx e => List.mem_map.2 ⟨x :: t, List.mem_filter.2 ⟨hx, by simp [e]⟩, rfl⟩
    split
    · next hlt =>
      have hnl : ∀ r ∈ nearL l D, r.length = k ∧ fineL r = true := fun r hr => by
        obtain ⟨s, hs, rfl⟩ := List.mem_map.1 hr
        have := hl s (List.mem_filter.1 hs).1
        exact ⟨by rw [List.length_tail]; omega, by rw [← List.drop_one]; exact fineL_drop this.2 1⟩
      obtain ⟨i1, i2⟩ := over_dom k (nearL l D) (by omega) hnl (two_near hl h2 D)
      refine ⟨fun r hr => ?_, fun p => ?_⟩
      · obtain ⟨x, t, rfl, hx, _⟩ := first r hr
        unfold domR
        by_cases ex : D = x
        · rw [if_pos ex]; exact i1 t (hnear x t hr ex.symm)
        · rw [if_neg ex]; exact hx.resolve_left (fun h => ex h.symm)
      · cases p with
        | nil =>
          obtain ⟨d, h0, h1, h3⟩ := h2 []
          refine ⟨d, h0, h1, fun r hr => ?_⟩
          rcases List.mem_cons.1 hr with rfl | hr
          · intro hp
            have hdD : d = D := by simpa using hp
            obtain ⟨x, t, hxt, _⟩ := first _ hg
            apply h3 _ hg
            rw [hxt]
            have : x = D := by rw [← hD, hxt]; simp
            subst hdD; subst this; simp
          · exact h3 r hr
        | cons c p =>
          by_cases ec : c = D
          · obtain ⟨d, h0, h1, h3⟩ := i2 p
            refine ⟨d, h0, h1, fun r hr hp => ?_⟩
            rcases List.mem_cons.1 hr with rfl | hr
            · exact h3 (overL k (nearL l D)) (by simp) (by simpa [ec] using hp)
            · obtain ⟨x, t, rfl, _⟩ := first r hr
              have hp' : c = x ∧ p ++ [d] <+: t := by simpa [List.cons_prefix_cons] using hp
              exact h3 t (List.mem_cons_of_mem _ (hnear x t hr (by rw [← hp'.1, ec]))) hp'.2
          · obtain ⟨d, h0, h1, h3⟩ := h2 (c :: p)
            refine ⟨d, h0, h1, fun r hr hp => ?_⟩
            rcases List.mem_cons.1 hr with rfl | hr
            · have : c = D := by have := hp; simp only [List.cons_append, List.cons_prefix_cons] at this; exact this.1
              exact ec this
            · exact h3 r hr hp
    · next hge2 =>
      have hall : ∀ r ∈ l, r.getD 0 0 = D := by
        have h1 : (l.filter fun r => decide (r.getD 0 0 = D)).length = l.length := by
          have h3 : (l.filter fun r => decide (r.getD 0 0 = D)).length ≤ l.length := List.length_filter_le _ _
          have h4 : (nearL l D).length = (l.filter fun r => decide (r.getD 0 0 = D)).length := by unfold nearL; rw [List.length_map]
          omega
        intro r hr
        have := List.length_filter_eq_length_iff.1 h1 r hr
        simpa using this
      rw [overL_nil]
      have hne : nextD D ≠ D := by unfold nextD; split <;> (try split) <;> omega
      refine ⟨fun r hr => ?_, fun p => ?_⟩
      · obtain ⟨x, t, rfl, _, _⟩ := first r hr
        have : x = D := by simpa using hall _ hr
        subst this
        unfold domR
        rw [if_neg hne]; exact beats_next hd.1 hd.2
      · cases p with
        | nil =>
          refine ⟨nextD (nextD D), (nextD_range _).1, (nextD_range _).2, fun r hr hp => ?_⟩
          rcases List.mem_cons.1 hr with rfl | hr
          · have : nextD (nextD D) = nextD D := by simpa using hp
            have h3 := nextD_range D
            unfold nextD at this; split at this <;> (try split at this) <;> (try split at this) <;> omega
          · obtain ⟨x, t, rfl, _, _⟩ := first r hr
            have e1 : x = D := by simpa using hall _ hr
            have e2 : nextD (nextD D) = x := by simpa using hp
            have h3 := next_three hd.1 hd.2
            rw [e2, e1] at h3
            exact hne h3
        | cons c p =>
          by_cases ec : c = D
          · obtain ⟨d, h0, h1, h3⟩ := h2 (c :: p)
            refine ⟨d, h0, h1, fun r hr hp => ?_⟩
            rcases List.mem_cons.1 hr with rfl | hr
            · have : c = nextD D := by simp only [List.cons_append, List.cons_prefix_cons] at hp; exact hp.1
              exact hne (by rw [← this, ec])
            · exact h3 r hr hp
          · refine ⟨1, by omega, by omega, fun r hr hp => ?_⟩
            rcases List.mem_cons.1 hr with rfl | hr
            · simp only [List.cons_append, List.cons_prefix_cons] at hp
              have : (1 : Int) ∈ List.replicate k 0 := hp.2.subset (by simp)
              have := List.eq_of_mem_replicate this
              omega
            · obtain ⟨x, t, rfl, _, _⟩ := first r hr
              have e1 : x = D := by simpa using hall _ hr
              simp only [List.cons_append, List.cons_prefix_cons] at hp
              exact ec (by rw [hp.1, e1])
end Go.Proofs.YtdkliknnnolngaaDoor.Cyc
