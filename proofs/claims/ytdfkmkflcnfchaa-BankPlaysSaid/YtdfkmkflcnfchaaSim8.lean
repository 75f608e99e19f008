/- The reference's history, and how it follows the cell's state: plain mathematics. Own work. -/
import Derived.Test.YtdfkmkflcnfchaaMay8
namespace Go.Proofs.Ytdfkmkflcnfchaa
open CellM

/-- An access: whose, what, from, till (below 0: under way), the value as it began. -/
structure Ev where
  t : Int
  k : Int
  c : Int
  v : Int
  f : Int
  o : Int
  w : Int
  deriving Inhabited
structure Rs where
  kind : Int
  top : Int
  value : Int
  now : Int
  L : List Ev
def isOpen (t : Int) (e : Ev) : Bool := (e.t == t) && decide (e.o < 0)
def findO (L : List Ev) (t : Int) : Option Nat := L.findIdx? (isOpen t)
def findA (L : List Ev) (t : Int) : Int := match findO L t with | some i => i | none => -1
def oneT (f t : Int) (e : Ev) : List Int := if e.t = t ∧ e.k = 2 ∧ e.f < f ∧ (e.o < 0 ∨ f < e.o) then [e.v] else []
def later (f : Int) (e : Ev) : List Int := if e.k = 2 ∧ f < e.f then [e.v] else []
/-- The threads' part of the candidates, the first n threads. -/
def thr (L : List Ev) (f : Int) : Nat → List Int
  | 0 => []
  | n + 1 => thr L f n ++ L.flatMap (oneT f n)
def seenL (L : List Ev) (w f : Int) : List Int := (w :: thr L f 8) ++ L.flatMap (later f)
def errBr (r : Rs) (t k : Int) : Int := if t < 0 ∨ 7 < t ∨ k < 1 ∨ 2 < k then 1 else if 0 ≤ findA r.L t then 12 else 0
def capR (r : Rs) : Int := cap 1099511627776 r.top
def begr (r : Rs) (t k c v : Int) : Rs := if errBr r t k ≠ 0 then r else ⟨r.kind, r.top, r.value, r.now + 1, r.L ++ [⟨t, k, c, cap (capR r) v, r.now + 1, -1, r.value⟩]⟩
def errEr (r : Rs) (t : Int) : Int := if findA r.L t < 0 then 7 else 0
def over8 (e : Ev) (n : Int) : Ev := ⟨e.t, e.k, e.c, e.v, e.f, n, e.w⟩
def endL (r : Rs) (i : Nat) : List Ev := r.L.set i (over8 (r.L.getD i default) (r.now + 1))
def endr (r : Rs) (t : Int) : Rs :=
  match findO r.L t with
  | none => r
  | some i => ⟨r.kind, r.top, if (r.L.getD i default).k = 2 then (r.L.getD i default).v else r.value, r.now + 1, endL r i⟩
def tellR (r : Rs) (s : List Int) (draw : Int) : Int :=
  if r.kind = 1 ∧ 1 < s.length then draw % (capR r + 1) else if r.kind = 2 then s.getD (draw % s.length).toNat 0 else r.value
def endVr (r : Rs) (t draw : Int) : Int :=
  match findO r.L t with
  | none => 0
  | some i => if (r.L.getD i default).k = 2 then 0 else tellR r (seenL (endL r i) (r.L.getD i default).w (r.L.getD i default).f) draw
def busyR (L : List Ev) : Nat → Nat
  | 0 => 0
  | n + 1 => if 0 ≤ findA L n then busyR L n + 1 else busyR L n
def newR (kind top : Int) : Rs := ⟨kind, top, 0, 0, []⟩

theorem findO_some {L : List Ev} {t : Int} {i : Nat} (h : findO L t = some i) : i < L.length ∧ (L.getD i default).t = t ∧ (L.getD i default).o < 0 := by
  unfold findO at h
  rw [List.findIdx?_eq_some_iff_getElem] at h
  obtain ⟨hi, h1, _⟩ := h
  rw [List.getD_eq_getElem?_getD, List.getElem?_eq_getElem hi]
  simp only [Option.getD_some]
  unfold isOpen at h1
  simp only [Bool.and_eq_true, beq_iff_eq, decide_eq_true_eq] at h1
  exact ⟨hi, h1.1, h1.2⟩
theorem findO_none {L : List Ev} {t : Int} (h : findO L t = none) : ∀ e ∈ L, e.t = t → ¬ e.o < 0 := by
  unfold findO at h
  rw [List.findIdx?_eq_none_iff] at h
  intro e he ht ho
  have := h e he
  unfold isOpen at this
  simp [ht, ho] at this
theorem findA_at {L : List Ev} {t : Int} {i : Nat} (hi : i < L.length) (h : isOpen t L[i] = true) (hb : ∀ j (hj : j < L.length), j < i → isOpen t L[j] = false) : findA L t = i := by
  have : findO L t = some i := by
    unfold findO
    rw [List.findIdx?_eq_some_iff_getElem]
    exact ⟨hi, h, fun j hj => by simp [hb j (by omega) hj]⟩
  unfold findA; rw [this]
theorem findA_no {L : List Ev} {t : Int} (hb : ∀ j (hj : j < L.length), isOpen t L[j] = false) : findA L t = -1 := by
  have : findO L t = none := by
    unfold findO
    rw [List.findIdx?_eq_none_iff]
    intro e he
    obtain ⟨j, hj, rfl⟩ := List.mem_iff_getElem.1 he
    exact hb j hj
  unfold findA; rw [this]
theorem findA_neg {L : List Ev} {t : Int} : findA L t < 0 ↔ findO L t = none := by
  unfold findA
  cases findO L t <;> simp
theorem findA_val {L : List Ev} {t : Int} {i : Nat} (h : findO L t = some i) : findA L t = i := by unfold findA; rw [h]

/-- How the two states stand to each other. -/
structure Sim (S : St) (r : Rs) : Prop where
  kind : S.kind = r.kind
  top : S.top = capR r
  value : S.value = r.value
  now : 0 ≤ r.now
  times : ∀ e ∈ r.L, e.f ≤ r.now ∧ (e.o < 0 ∨ e.o ≤ r.now)
  thread : ∀ e ∈ r.L, 0 ≤ e.t ∧ e.t < 8
  uniq : r.L.Pairwise fun a b => a.o < 0 → b.o < 0 → a.t ≠ b.t
  none_ : ∀ t : Nat, (∀ e ∈ r.L, e.t = t → ¬ e.o < 0) → (S.d t).k = 0
  some_ : ∀ e ∈ r.L, e.o < 0 → (e.k = 1 ∨ e.k = 2) ∧ (S.d e.t.toNat).k = e.k ∧ (e.k = 2 → (S.d e.t.toNat).w = e.v) ∧
    (e.k = 1 → (S.kind = 2 → (S.d e.t.toNat).c = seenL r.L e.w e.f) ∧ (S.kind = 1 → ((S.d e.t.toNat).m = true ↔ 1 < (seenL r.L e.w e.f).length)))
  m : S.kind ≠ 1 → ∀ t, (S.d t).m = false
theorem sim_new (kind top : Int) : Sim (new kind top) (newR kind top) :=
  ⟨rfl, rfl, rfl, Int.le_refl _, fun e he => by simp [newR] at he, fun e he => by simp [newR] at he, by simp [newR], fun _ _ => rfl, fun e he => by simp [newR] at he, fun _ _ => rfl⟩
section
variable {S : St} {r : Rs}
theorem Sim.idle_of (h : Sim S r) {t : Nat} (hf : findO r.L t = none) : (S.d t).k = 0 := h.none_ t (findO_none hf)
theorem busy_of {t : Int} {i : Nat} (hf : findO r.L t = some i) : r.L.getD i default ∈ r.L ∧ (r.L.getD i default).t = t ∧ (r.L.getD i default).o < 0 := by
  obtain ⟨hi, h1, h2⟩ := findO_some hf
  refine ⟨?_, h1, h2⟩
  rw [List.getD_eq_getElem?_getD, List.getElem?_eq_getElem hi]
  exact List.getElem_mem _
theorem Sim.find (h : Sim S r) (t : Nat) : (S.d t).k = 0 ↔ findO r.L t = none := by
  constructor
  · intro hk
    cases hf : findO r.L t with
    | none => rfl
    | some i =>
      obtain ⟨h1, h2, h3⟩ := busy_of hf
      obtain ⟨h4, h5, _⟩ := h.some_ _ h1 h3
      rw [h2, show ((t : Int)).toNat = t by omega] at h5
      omega
  · exact h.idle_of
theorem Sim.no_thread (h : Sim S r) {t : Int} (ht : ¬ (0 ≤ t ∧ t < 8)) : findO r.L t = none := by
  cases hf : findO r.L t with
  | none => rfl
  | some i =>
    obtain ⟨h1, h2, h3⟩ := busy_of hf
    have := h.thread _ h1
    rw [h2] at this
    exact absurd this ht
theorem Sim.busy (h : Sim S r) : ∀ n, CellM.busy S n = busyR r.L n
  | 0 => rfl
  | n + 1 => by
    show (if (S.d n).k = 0 then CellM.busy S n else CellM.busy S n + 1) = (if 0 ≤ findA r.L n then busyR r.L n + 1 else busyR r.L n)
    rw [h.busy n]
    by_cases hk : (S.d n).k = 0
    · rw [if_pos hk, if_neg]
      have := findA_neg.2 ((h.find n).1 hk); omega
    · rw [if_neg hk, if_pos]
      have : ¬ findA r.L n < 0 := fun hh => hk ((h.find n).2 (findA_neg.1 hh))
      omega
theorem Sim.errB (h : Sim S r) (t k : Int) : errB S t k = errBr r t k := by
  unfold Go.Proofs.Ytdfkmkflcnfchaa.errB errBr
  by_cases h1 : isT t = false ∨ (k ≠ 1 ∧ k ≠ 2)
  · rw [if_pos h1, if_pos]
    rcases h1 with h1 | h1
    · unfold isT at h1
      by_cases h0 : t < 0
      · exact .inl h0
      · simp at h1; omega
    · omega
  · have ht : isT t = true := by cases e : isT t <;> simp_all
    obtain ⟨h0, h8⟩ := isT_iff ht
    have hk12 : ¬ (k ≠ 1 ∧ k ≠ 2) := fun e => h1 (.inr e)
    rw [if_neg h1, if_neg (show ¬ (t < 0 ∨ 7 < t ∨ k < 1 ∨ 2 < k) by omega)]
    obtain ⟨j, rfl⟩ := Int.eq_ofNat_of_zero_le h0
    rw [show ((j : Int)).toNat = j by omega]
    by_cases hk : (S.d j).k = 0
    · rw [if_neg (by simp [hk]), if_neg]
      have := findA_neg.2 ((h.find j).1 hk); omega
    · rw [if_pos hk, if_pos]
      have : ¬ findA r.L j < 0 := fun hh => hk ((h.find j).2 (findA_neg.1 hh))
      omega
theorem Sim.errE (h : Sim S r) (t : Int) : errE S t = errEr r t := by
  unfold Go.Proofs.Ytdfkmkflcnfchaa.errE errEr
  by_cases ht : isT t = true
  · obtain ⟨h0, h8⟩ := isT_iff ht
    obtain ⟨j, rfl⟩ := Int.eq_ofNat_of_zero_le h0
    rw [show ((j : Int)).toNat = j by omega]
    by_cases hk : (S.d j).k = 0
    · rw [if_pos (.inr hk), if_pos (findA_neg.2 ((h.find j).1 hk))]
    · rw [if_neg (by simp [ht, hk]), if_neg]
      exact fun hh => hk ((h.find j).2 (findA_neg.1 hh))
  · have ht' := isT_not ht
    rw [if_pos (.inl ht'), if_pos]
    refine findA_neg.2 (h.no_thread (fun e => ht ?_))
    unfold isT; simp; omega
end
/-- Two histories tell a read the same. -/
theorem thr_push (L : List Ev) (x : Ev) (f : Int) (hx : ∀ t : Nat, oneT f t x = []) : ∀ n, thr (L ++ [x]) f n = thr L f n
  | 0 => rfl
  | n + 1 => by
    show thr (L ++ [x]) f n ++ (L ++ [x]).flatMap (oneT f n) = thr L f n ++ L.flatMap (oneT f n)
    rw [thr_push L x f hx n, List.flatMap_append]
    simp [hx]
theorem seen_push (L : List Ev) (x : Ev) (w f : Int) (hx : ¬ x.f < f) : seenL (L ++ [x]) w f = seenL L w f ++ later f x := by
  have h1 : ∀ t : Nat, oneT f t x = [] := fun t => by unfold oneT; rw [if_neg (fun h => hx h.2.2.1)]
  unfold seenL
  rw [thr_push L x f h1, List.flatMap_append]
  simp
theorem flat_set {g : Ev → List Int} : ∀ (L : List Ev) (i : Nat) (e : Ev), (∀ x, L[i]? = some x → g e = g x) → (L.set i e).flatMap g = L.flatMap g
  | [], _, _, _ => rfl
  | x :: L, 0, e, h => by simp [h x rfl]
  | x :: L, i + 1, e, h => by
    rw [List.set_cons_succ, List.flatMap_cons, List.flatMap_cons, flat_set L i e (fun y hy => h y (by simpa using hy))]
theorem thr_set (L : List Ev) (i : Nat) (e : Ev) (f : Int) (h : ∀ (t : Nat) x, L[i]? = some x → oneT f t e = oneT f t x) : ∀ n, thr (L.set i e) f n = thr L f n
  | 0 => rfl
  | n + 1 => by
    show thr (L.set i e) f n ++ (L.set i e).flatMap (oneT f n) = thr L f n ++ L.flatMap (oneT f n)
    rw [thr_set L i e f h n, flat_set L i e (h n)]
theorem seen_over {L : List Ev} {i : Nat} {x : Ev} (hx : L[i]? = some x) (ho : x.o < 0) {n : Int} {w f : Int} (hf : f < n) : seenL (L.set i (over8 x n)) w f = seenL L w f := by
  have h1 : ∀ (t : Nat) y, L[i]? = some y → oneT f t (over8 x n) = oneT f t y := by
    intro t y hy
    rw [hx] at hy
    cases hy
    unfold oneT over8
    simp only
    have : (n < 0 ∨ f < n) ↔ (x.o < 0 ∨ f < x.o) := by
      constructor
      · intro _; exact .inl ho
      · intro _; exact .inr hf
    simp only [this]
  have h2 : ∀ y, L[i]? = some y → later f (over8 x n) = later f y := by
    intro y hy
    rw [hx] at hy
    cases hy
    rfl
  unfold seenL
  rw [thr_set L i _ f h1 8, flat_set L i _ h2]
end Go.Proofs.Ytdfkmkflcnfchaa
