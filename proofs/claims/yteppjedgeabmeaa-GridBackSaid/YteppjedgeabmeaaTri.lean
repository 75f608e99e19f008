/- Triangles of points: plain mathematics. Own work. -/
import Derived.Test.YteppjedgeabmeaaFl
namespace Go.Proofs.Yteppjedgeabmeaa
open Fl

/-- How many points k diagonals have. -/
def T : Nat → Nat
  | 0 => 0
  | k + 1 => T k + (k + 1)
theorem T_succ (k : Nat) : T (k + 1) = T k + (k + 1) := rfl
theorem T_twice : ∀ k, 2 * T k = k * (k + 1)
  | 0 => rfl
  | k + 1 => by
    have := T_twice k
    rw [T_succ]
    grind
theorem T_mono {a b : Nat} (h : a ≤ b) : T a ≤ T b := by
  induction h with
  | refl => exact Nat.le_refl _
  | step _ ih => rw [T_succ]; omega
theorem T_64 : T 64 = 2080 := by decide
theorem T_le {k : Nat} (h : k ≤ 64) : T k ≤ 2080 := T_64 ▸ T_mono h
/-- A name's diagonal, and how far along it. -/
def dec : Nat → Nat × Nat
  | 0 => (0, 0)
  | i + 1 => if (dec i).2 < (dec i).1 then ((dec i).1, (dec i).2 + 1) else ((dec i).1 + 1, 0)
theorem dec_spec : ∀ i, (dec i).2 ≤ (dec i).1 ∧ T (dec i).1 + (dec i).2 = i
  | 0 => ⟨Nat.le_refl _, rfl⟩
  | i + 1 => by
    have := dec_spec i
    unfold dec
    split
    · simp only; omega
    · simp only; rw [T_succ]; omega
theorem T_uniq {d y e z : Nat} (hy : y ≤ d) (hz : z ≤ e) (h : T d + y = T e + z) : d = e ∧ y = z := by
  rcases Nat.lt_trichotomy d e with h1 | h1 | h1
  · have := T_mono (show d + 1 ≤ e by omega)
    rw [T_succ] at this; omega
  · subst h1; omega
  · have := T_mono (show e + 1 ≤ d by omega)
    rw [T_succ] at this; omega
theorem dec_eq {d y : Nat} (h : y ≤ d) : dec (T d + y) = (d, y) := by
  have := dec_spec (T d + y)
  have := T_uniq this.1 h this.2
  exact Prod.ext this.1 this.2
/-- A name's point. -/
def ptN (i : Nat) : Pt := ⟨((dec i).1 : Int) - ((dec i).2 : Int), (dec i).2, true⟩
theorem ptN_at {d y : Nat} (h : y ≤ d) : ptN (T d + y) = ⟨(d : Int) - (y : Int), y, true⟩ := by unfold ptN; rw [dec_eq h]
/-- Whether a point is on the triangle of k diagonals. -/
def inTri (p : Pt) (k : Nat) : Bool := p.ok && (decide (0 ≤ p.x) && (decide (0 ≤ p.y) && decide (p.x + p.y < k)))
theorem inTri_iff {p : Pt} {k : Nat} : inTri p k = true ↔ p.ok = true ∧ 0 ≤ p.x ∧ 0 ≤ p.y ∧ p.x + p.y < k := by
  unfold inTri; simp only [Bool.and_eq_true, decide_eq_true_eq]
def diagP (p : Pt) : Int := if inTri p 64 then p.x + p.y else -1
def nameP (p : Pt) : Int := if inTri p 64 then T (p.x + p.y).toNat + p.y else -1
theorem ptN_in {i k : Nat} (h : i < T k) : inTri (ptN i) k = true := by
  rw [inTri_iff]
  have hs := dec_spec i
  have : (dec i).1 < k := by
    rcases Nat.lt_or_ge (dec i).1 k with h1 | h1
    · exact h1
    · have := T_mono h1; omega
  unfold ptN
  refine ⟨rfl, ?_, ?_, ?_⟩ <;> simp only <;> omega
theorem ptN_name {p : Pt} {k : Nat} (h : inTri p k = true) : T (p.x + p.y).toNat + p.y.toNat < T k ∧ ptN (T (p.x + p.y).toNat + p.y.toNat) = p := by
  obtain ⟨h0, h1, h2, h3⟩ := inTri_iff.1 h
  obtain ⟨x, y, ok⟩ := p
  simp only at h0 h1 h2 h3 ⊢
  subst h0
  obtain ⟨a, rfl⟩ : ∃ a : Nat, x = a := ⟨x.toNat, by omega⟩
  obtain ⟨b, rfl⟩ : ∃ b : Nat, y = b := ⟨y.toNat, by omega⟩
  rw [show ((a : Int) + (b : Int)).toNat = a + b by omega, show ((b : Int)).toNat = b by omega]
  constructor
  · have := T_mono (show a + b + 1 ≤ k by omega)
    rw [T_succ] at this; omega
  · rw [ptN_at (by omega)]
    congr 1; omega
theorem ptN_inj {i j : Nat} (h : ptN i = ptN j) : i = j := by
  unfold ptN at h
  have h1 := congrArg Pt.x h
  have h2 := congrArg Pt.y h
  simp only at h1 h2
  have a := (dec_spec i).2
  have b := (dec_spec j).2
  have e1 : (dec i).1 = (dec j).1 := by omega
  have e2 : (dec i).2 = (dec j).2 := by omega
  rw [← a, ← b, e1, e2]
theorem name_found {p : Pt} {i : Nat} (hi : i < 2080) (h : ptN i = p) : nameP p = i := by
  have hin := ptN_in (k := 64) (i := i) (by rw [T_64]; exact hi)
  rw [h] at hin
  have hn := ptN_name hin
  have := ptN_inj (h.trans hn.2.symm)
  unfold nameP
  rw [if_pos hin, this]
  have := (inTri_iff.1 hin).2.2.1
  omega
theorem name_none {p : Pt} (h : ∀ j, j < 2080 → ptN j ≠ p) : nameP p = -1 := by
  unfold nameP
  rw [if_neg]
  intro hin
  have hn := ptN_name hin
  exact h _ (by rw [← T_64]; exact hn.1) hn.2
theorem on_found {p : Pt} {i k : Nat} (hi : i < T k) (h : ptN i = p) : inTri p k = true := h ▸ ptN_in hi
theorem on_none {p : Pt} {k : Nat} (h : ∀ j, j < T k → ptN j ≠ p) : inTri p k = false := by
  cases hin : inTri p k with
  | false => rfl
  | true => have hn := ptN_name hin; exact absurd hn.2 (h _ hn.1)
/-- How many diagonals a triangle has. -/
def sideN (n : Int) : Nat := (min (max n 0) 64).toNat
theorem sideN_le (n : Int) : sideN n ≤ 64 := by unfold sideN; omega
theorem diag_name (p : Pt) : diagP p = if nameP p < 0 then -1 else p.x + p.y := by
  unfold diagP nameP
  cases h : inTri p 64 with
  | false => simp
  | true =>
    have := (inTri_iff.1 h).2.2.1
    simp only [if_true]
    rw [if_neg (by omega)]
/-- The points of the first k names. -/
def firstN (k : Nat) : List Pt := (List.range k).map ptN
theorem firstN_len (k : Nat) : (firstN k).length = k := by unfold firstN; simp
theorem firstN_succ (k : Nat) : firstN (k + 1) = firstN k ++ [ptN k] := by unfold firstN; rw [List.range_succ, List.map_append]; rfl
theorem firstN_get {k i : Nat} (h : i < (firstN k).length) : (firstN k)[i] = ptN i := by simp [firstN]
end Go.Proofs.Yteppjedgeabmeaa
