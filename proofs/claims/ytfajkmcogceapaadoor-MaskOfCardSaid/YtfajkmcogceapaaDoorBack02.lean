/- Unlike sets have unlike texts; the law that goes through a set and stops early: its walk. Own work. -/
import Derived.Test.YtfajkmcogceapaaDoorLaw02
import Derived.ControlIn
namespace Go.Proofs.YtfajkmcogceapaaDoor
open Go.ChangeShapes Go.WideShapes Go.ChangeAt Go.RowKit Go.Shelf Bits

/-- A thread's numeral. -/
def d2 (x : Nat) : List UInt8 := if x < 10 then [UInt8.ofNat (48 + x)] else [UInt8.ofNat (48 + x / 10), UInt8.ofNat (48 + x % 10)]
theorem itoa_d2 {x : Int} (h0 : 0 ≤ x) (h1 : x < 64) : Lib.itoa x = d2 x.toNat := by
  obtain ⟨k, rfl⟩ : ∃ k : Nat, x = k := ⟨x.toNat, by omega⟩
  rw [itoa_nat, show (k : Int).toNat = k from rfl]
  unfold d2
  split
  · rename_i h; exact Lib.decDigits_one h
  · rename_i h; exact Lib.decDigits_two h (by omega)
theorem d2_inj : ∀ x y : Fin 64, d2 x.val = d2 y.val → x.val = y.val := by decide +kernel
theorem d2_no : ∀ x : Fin 64, (43 : UInt8) ∉ d2 x.val := by decide +kernel
theorem d2_head : ∀ x : Fin 64, d2 x.val ≠ [] ∧ (d2 x.val).head? ≠ some 45 := by decide +kernel
theorem itoa_inj {x y : Int} (h0 : 0 ≤ x) (h1 : x < 64) (g0 : 0 ≤ y) (g1 : y < 64) (h : Lib.itoa x = Lib.itoa y) : x = y := by
  rw [itoa_d2 h0 h1, itoa_d2 g0 g1] at h
  have := d2_inj ⟨x.toNat, by omega⟩ ⟨y.toNat, by omega⟩ h
  simp only at this; omega
theorem itoa_no {x : Int} (h0 : 0 ≤ x) (h1 : x < 64) : (43 : UInt8) ∉ Lib.itoa x := by
  rw [itoa_d2 h0 h1]; exact d2_no ⟨x.toNat, by omega⟩
theorem itoa_head {x : Int} (h0 : 0 ≤ x) (h1 : x < 64) : Lib.itoa x ≠ [] ∧ (Lib.itoa x).head? ≠ some 45 := by
  rw [itoa_d2 h0 h1]; exact d2_head ⟨x.toNat, by omega⟩
theorem split_at : ∀ (u v R R' : List UInt8), 43 ∉ u → 43 ∉ v → (R = [] ∨ ∃ r, R = 43 :: r) → (R' = [] ∨ ∃ r, R' = 43 :: r) → u ++ R = v ++ R' → u = v ∧ R = R'
  | [], [], R, R', _, _, _, _, h => ⟨rfl, h⟩
  | [], c :: v, R, R', _, hv, hR, _, h => by
    exfalso
    rcases hR with rfl | ⟨r, rfl⟩
    · cases h
    · simp only [List.nil_append, List.cons_append, List.cons.injEq] at h
      exact hv (by rw [← h.1]; simp)
  | c :: u, [], R, R', hu, _, _, hR', h => by
    exfalso
    rcases hR' with rfl | ⟨r, rfl⟩
    · cases h
    · simp only [List.nil_append, List.cons_append, List.cons.injEq] at h
      exact hu (by rw [h.1]; simp)
  | c :: u, d :: v, R, R', hu, hv, hR, hR', h => by
    simp only [List.cons_append, List.cons.injEq] at h
    have := split_at u v R R' (fun e => hu (by simp [e])) (fun e => hv (by simp [e])) hR hR' h.2
    exact ⟨by rw [h.1, this.1], this.2⟩
def flat (r : List Int) : List UInt8 := r.flatMap fun t => 43 :: Lib.itoa t
theorem flat_cons (a : Int) (r : List Int) : flat (a :: r) = 43 :: (Lib.itoa a ++ flat r) := by unfold flat; simp
theorem flat_shape (r : List Int) : flat r = [] ∨ ∃ q, flat r = 43 :: q := by
  cases r with
  | nil => exact .inl rfl
  | cons a r => exact .inr ⟨_, flat_cons a r⟩
theorem flat_inj : ∀ r q : List Int, (∀ x ∈ r, 0 ≤ x ∧ x < 64) → (∀ x ∈ q, 0 ≤ x ∧ x < 64) → flat r = flat q → r = q
  | [], [], _, _, _ => rfl
  | [], b :: q, _, _, h => by rw [flat_cons] at h; cases h
  | a :: r, [], _, _, h => by rw [flat_cons] at h; cases h
  | a :: r, b :: q, hr, hq, h => by
    rw [flat_cons, flat_cons] at h
    have h2 := (List.cons.inj h).2
    have ha := hr a (by simp)
    have hb := hq b (by simp)
    have h3 := split_at _ _ _ _ (itoa_no ha.1 ha.2) (itoa_no hb.1 hb.2) (flat_shape r) (flat_shape q) h2
    rw [itoa_inj ha.1 ha.2 hb.1 hb.2 h3.1, flat_inj r q (fun x hx => hr x (by simp [hx])) (fun x hx => hq x (by simp [hx])) h3.2]
theorem joinT_cons (a : Int) (r : List Int) : joinT (a :: r) = Lib.itoa a ++ flat r := rfl
theorem joinT_head {l : List Int} (hl : ∀ x ∈ l, 0 ≤ x ∧ x < 64) (h : l ≠ []) : joinT l ≠ [45] := by
  cases l with
  | nil => exact absurd rfl h
  | cons a r =>
    have ha := hl a (by simp)
    have hh := itoa_head ha.1 ha.2
    intro e
    rw [joinT_cons] at e
    have e2 := congrArg List.head? e
    cases hc : Lib.itoa a with
    | nil => exact hh.1 hc
    | cons c m =>
      rw [hc] at e2 hh
      exact hh.2 e2
theorem joinT_inj {l m : List Int} (hl : ∀ x ∈ l, 0 ≤ x ∧ x < 64) (hm : ∀ x ∈ m, 0 ≤ x ∧ x < 64) (h0 : l ≠ []) (g0 : m ≠ []) (h : joinT l = joinT m) : l = m := by
  cases l with
  | nil => exact absurd rfl h0
  | cons a r => cases m with
    | nil => exact absurd rfl g0
    | cons b q =>
      rw [joinT_cons, joinT_cons] at h
      have ha := hl a (by simp)
      have hb := hm b (by simp)
      have h3 := split_at _ _ _ _ (itoa_no ha.1 ha.2) (itoa_no hb.1 hb.2) (flat_shape r) (flat_shape q) h
      rw [itoa_inj ha.1 ha.2 hb.1 hb.2 h3.1, flat_inj r q (fun x hx => hl x (by simp [hx])) (fun x hx => hm x (by simp [hx])) h3.2]
theorem setI_inj {a b : Nat} (ha : a < 18446744073709551616) (hb : b < 18446744073709551616) (h : setI a = setI b) : a = b := by
  refine setL_inj ha hb ?_
  rw [setI_eq, setI_eq] at h
  have key : ∀ l m : List Nat, (l.map fun (t : Nat) => (t : Int)) = (m.map fun (t : Nat) => (t : Int)) → l = m := by
    intro l
    induction l with
    | nil => intro m h; cases m with
      | nil => rfl
      | cons b q => cases h
    | cons a r ih => intro m h; cases m with
      | nil => cases h
      | cons b q =>
        simp only [List.map_cons, List.cons.injEq] at h
        rw [ih q h.2, show a = b by omega]
  exact key _ _ h
theorem textT_inj {a b : Nat} (ha : a < 18446744073709551616) (hb : b < 18446744073709551616) (h : textT a = textT b) : a = b := by
  refine setI_inj ha hb ?_
  have ma : ∀ x ∈ setI a, 0 ≤ x ∧ x < 64 := fun x hx => mem_setI hx
  have mb : ∀ x ∈ setI b, 0 ≤ x ∧ x < 64 := fun x hx => mem_setI hx
  unfold textT at h
  by_cases h0 : setI a = []
  · by_cases g0 : setI b = []
    · rw [h0, g0]
    · rw [if_pos h0, if_neg g0] at h; exact absurd h.symm (joinT_head mb g0)
  · by_cases g0 : setI b = []
    · rw [if_neg h0, if_pos g0] at h; exact absurd h (joinT_head ma h0)
    · rw [if_neg h0, if_neg g0] at h; exact joinT_inj ma mb h0 g0 h
theorem text_eq {a b : Nat} (ha : a < 18446744073709551616) (hb : b < 18446744073709551616) : decide (textT a = textT b) = ((a : Int) == (b : Int)) := by
  rw [Bool.eq_iff_iff]
  simp only [decide_eq_true_eq, beq_iff_eq]
  exact ⟨fun h => by rw [textT_inj ha hb h], fun h => by rw [show a = b by omega]⟩
end Go.Proofs.YtfajkmcogceapaaDoor
