/- Banks of cells: strips, what begins, what is over: plain mathematics. Own work. -/
import Derived.Test.YtdfkmkflcnfchaaMay8
namespace Go.Proofs.Ytdfkmkflcnfchaa
open CellM

structure Strip where
  many : Int
  kind : Int
  top : Int
  deriving Inhabited
def okS (s : Strip) : Bool := decide (0 ≤ s.many) && ((s.kind == 1 || s.kind == 2 || s.kind == 3) && (decide (0 ≤ s.top) && decide (s.top ≤ 1099511627776)))
def sumS : List Strip → Int
  | [] => 0
  | s :: l => s.many + sumS l
def errS (l : List Strip) : Int := if l.all okS = true then (if 32768 < sumS l then 5 else 0) else 1
def valS (l : List Strip) : Int := if errS l = 0 then sumS l else 0
/-- Of which strip the cell n is (from 0 on). -/
def stripAt : List Strip → Int → Option Strip
  | [], _ => none
  | s :: l, n => if n < s.many then some s else stripAt l (n - s.many)
theorem okS_many {s : Strip} (h : okS s = true) : 0 ≤ s.many := by unfold okS at h; simp at h; exact h.1
theorem sumS_snoc (l : List Strip) (s : Strip) : sumS (l ++ [s]) = sumS l + s.many := by
  induction l with
  | nil => simp [sumS]
  | cons a l ih => simp only [List.cons_append, sumS, ih]; omega
theorem sumS_take {l : List Strip} {k : Nat} (hk : k < l.length) : sumS (l.take (k + 1)) = sumS (l.take k) + l[k].many := by
  rw [List.take_succ_eq_append_getElem hk, sumS_snoc]
theorem sumS_nonneg : ∀ {l : List Strip}, (∀ s ∈ l, 0 ≤ s.many) → 0 ≤ sumS l
  | [], _ => Int.le_refl _
  | s :: l, h => by
    have h1 := h s (by simp)
    have h2 := sumS_nonneg (l := l) (fun x hx => h x (by simp [hx]))
    unfold sumS; omega
theorem errS_ok {l : List Strip} (h : errS l = 0) : (∀ s ∈ l, okS s = true) ∧ sumS l ≤ 32768 := by
  unfold errS at h
  by_cases h1 : l.all okS = true
  · rw [if_pos h1] at h
    refine ⟨List.all_eq_true.1 h1, ?_⟩
    split at h <;> omega
  · rw [if_neg h1] at h; omega
theorem errS_many {l : List Strip} (h : errS l = 0) : ∀ s ∈ l, 0 ≤ s.many := fun s hs => okS_many ((errS_ok h).1 s hs)
theorem stripAt_iff : ∀ {l : List Strip}, (∀ s ∈ l, 0 ≤ s.many) → ∀ {n : Int}, 0 ≤ n → ((stripAt l n).isSome = true ↔ n < sumS l)
  | [], _, n, h => by simp [stripAt, sumS]; omega
  | s :: l, hm, n, h => by
    have h1 := hm s (by simp)
    have h0 := sumS_nonneg (l := l) (fun x hx => hm x (by simp [hx]))
    unfold stripAt sumS
    by_cases hn : n < s.many
    · rw [if_pos hn]; simp; omega
    · rw [if_neg hn, stripAt_iff (fun x hx => hm x (by simp [hx])) (by omega)]; omega
theorem stripAt_drop {l : List Strip} {k : Nat} (hk : k < l.length) (n : Int) : stripAt (l.drop k) n = if n < l[k].many then some l[k] else stripAt (l.drop (k + 1)) (n - l[k].many) := by
  rw [List.drop_eq_getElem_cons hk]; rfl

/-- The strips that have cells, and how many cells there are up to the end of each. -/
def filt (l : List Strip) : List Strip := l.filter fun s => decide (0 < s.many)
def endsF : Int → List Strip → List Int
  | _, [] => []
  | a, s :: l => if 0 < s.many then (a + s.many) :: endsF (a + s.many) l else endsF a l
theorem filt_yes {l : List Strip} {k : Nat} (hk : k < l.length) (h : 0 < l[k].many) : filt (l.take (k + 1)) = filt (l.take k) ++ [l[k]] := by
  unfold filt
  rw [List.take_succ_eq_append_getElem hk, List.filter_append]
  simp [h]
theorem filt_no {l : List Strip} {k : Nat} (hk : k < l.length) (h : ¬ 0 < l[k].many) : filt (l.take (k + 1)) = filt (l.take k) := by
  unfold filt
  rw [List.take_succ_eq_append_getElem hk, List.filter_append]
  simp [h]
theorem endsF_snoc (s : Strip) : ∀ (l : List Strip) (a : Int), (∀ x ∈ l, 0 ≤ x.many) → endsF a (l ++ [s]) = endsF a l ++ (if 0 < s.many then [a + sumS l + s.many] else [])
  | [], a, _ => by simp [endsF, sumS]
  | x :: l, a, hm => by
    have h1 := hm x (by simp)
    have ih := fun b => endsF_snoc s l b (fun y hy => hm y (by simp [hy]))
    simp only [List.cons_append, endsF, sumS]
    by_cases hx : 0 < x.many
    · rw [if_pos hx, if_pos hx, ih]
      have : a + x.many + sumS l = a + (x.many + sumS l) := by omega
      rw [this]; rfl
    · rw [if_neg hx, if_neg hx, ih]
      have : a + sumS l = a + (x.many + sumS l) := by omega
      rw [this]
theorem ends_yes {l : List Strip} {k : Nat} (hk : k < l.length) (hm : ∀ x ∈ l, 0 ≤ x.many) (h : 0 < l[k].many) : endsF 0 (l.take (k + 1)) = endsF 0 (l.take k) ++ [sumS (l.take k) + l[k].many] := by
  rw [List.take_succ_eq_append_getElem hk, endsF_snoc _ _ _ (fun x hx => hm x (List.mem_of_mem_take hx)), if_pos h, Int.zero_add]
theorem ends_no {l : List Strip} {k : Nat} (hk : k < l.length) (hm : ∀ x ∈ l, 0 ≤ x.many) (h : ¬ 0 < l[k].many) : endsF 0 (l.take (k + 1)) = endsF 0 (l.take k) := by
  rw [List.take_succ_eq_append_getElem hk, endsF_snoc _ _ _ (fun x hx => hm x (List.mem_of_mem_take hx)), if_neg h, List.append_nil]
theorem ends_last : ∀ (l : List Strip) (a : Int), (∀ x ∈ l, 0 ≤ x.many) → (endsF a l).getLastD a = a + sumS l
  | [], a, _ => by simp [endsF, sumS]
  | x :: l, a, hm => by
    have h1 := hm x (by simp)
    have ih := fun b => ends_last l b (fun y hy => hm y (by simp [hy]))
    unfold endsF sumS
    by_cases hx : 0 < x.many
    · rw [if_pos hx, List.getLastD_cons, ih]; omega
    · rw [if_neg hx, ih]; omega
theorem ends_len : ∀ (l : List Strip) (a : Int), (endsF a l).length = (filt l).length
  | [], _ => rfl
  | x :: l, a => by
    unfold endsF filt
    by_cases hx : 0 < x.many
    · rw [if_pos hx, List.length_cons, ends_len l]; simp [hx, filt]
    · rw [if_neg hx, ends_len l]; simp [hx, filt]
theorem ends_ge : ∀ (l : List Strip) (a : Int), ∀ e ∈ endsF a l, a ≤ e
  | [], _, e, he => by simp [endsF] at he
  | x :: l, a, e, he => by
    unfold endsF at he
    by_cases hx : 0 < x.many
    · rw [if_pos hx, List.mem_cons] at he
      rcases he with rfl | he
      · omega
      · have := ends_ge l _ e he; omega
    · rw [if_neg hx] at he; exact ends_ge l a e he
theorem ends_sorted : ∀ (l : List Strip) (a : Int), (endsF a l).Pairwise (· ≤ ·)
  | [], _ => List.Pairwise.nil
  | x :: l, a => by
    unfold endsF
    by_cases hx : 0 < x.many
    · rw [if_pos hx]
      exact List.Pairwise.cons (fun e he => ends_ge l _ e he) (ends_sorted l _)
    · rw [if_neg hx]; exact ends_sorted l a
theorem ends_le : ∀ (l : List Strip) (a : Int), (∀ x ∈ l, 0 ≤ x.many) → ∀ e ∈ endsF a l, e ≤ a + sumS l
  | [], _, _, e, he => by simp [endsF] at he
  | x :: l, a, hm, e, he => by
    have h0 := sumS_nonneg (l := l) (fun y hy => hm y (by simp [hy]))
    have ih := fun b => ends_le l b (fun y hy => hm y (by simp [hy]))
    have h1 := hm x (by simp)
    unfold endsF at he
    unfold sumS
    by_cases hx : 0 < x.many
    · rw [if_pos hx, List.mem_cons] at he
      rcases he with rfl | he
      · omega
      · have := ih _ e he; omega
    · rw [if_neg hx] at he; have := ih _ e he; omega
theorem filt_le (l : List Strip) : (filt l).length ≤ l.length := List.length_filter_le _ _
theorem filt_sum : ∀ (l : List Strip), (∀ x ∈ l, 0 ≤ x.many) → ((filt l).length : Int) ≤ sumS l
  | [], _ => by simp [filt, sumS]
  | x :: l, hm => by
    have h1 := hm x (by simp)
    have ih := filt_sum l (fun y hy => hm y (by simp [hy]))
    unfold sumS
    by_cases hx : 0 < x.many
    · have : filt (x :: l) = x :: filt l := by simp [filt, hx]
      rw [this, List.length_cons]; omega
    · have : filt (x :: l) = filt l := by simp [filt, hx]
      rw [this]; omega
/-- The strip that is searched for. -/
theorem search_at : ∀ (l : List Strip) (a n : Int), (∀ x ∈ l, 0 ≤ x.many) → a ≤ n → n < a + sumS l →
    ∃ s, stripAt l (n - a) = some s ∧ (filt l)[(endsF a l).countP (fun e => decide (e < n + 1))]? = some s
  | [], a, n, _, h1, h2 => by simp [sumS] at h2; omega
  | x :: l, a, n, hm, h1, h2 => by
    have hx0 := hm x (by simp)
    have ih := fun b => search_at l b n (fun y hy => hm y (by simp [hy]))
    unfold sumS at h2
    unfold stripAt endsF
    by_cases hx : 0 < x.many
    · have e1 : filt (x :: l) = x :: filt l := by simp [filt, hx]
      rw [if_pos hx, e1]
      by_cases hn : n - a < x.many
      · rw [if_pos hn]
        refine ⟨x, rfl, ?_⟩
        have : ((a + x.many) :: endsF (a + x.many) l).countP (fun e => decide (e < n + 1)) = 0 := by
          rw [List.countP_eq_zero]
          intro e he
          rw [List.mem_cons] at he
          rcases he with rfl | he
          · simp; omega
          · have := ends_ge l _ e he; simp; omega
        rw [this]; rfl
      · rw [if_neg hn]
        obtain ⟨s, hs, hf⟩ := ih (a + x.many) (by omega) (by omega)
        refine ⟨s, by rw [← hs]; congr 1; omega, ?_⟩
        have : ((a + x.many) :: endsF (a + x.many) l).countP (fun e => decide (e < n + 1)) = (endsF (a + x.many) l).countP (fun e => decide (e < n + 1)) + 1 := by
          rw [List.countP_cons_of_pos]; simp; omega
        rw [this, List.getElem?_cons_succ]; exact hf
    · have e1 : filt (x :: l) = filt l := by simp [filt, hx]
      rw [if_neg hx, e1, if_neg (by omega)]
      obtain ⟨s, hs, hf⟩ := ih a (by omega) (by omega)
      exact ⟨s, by rw [← hs]; congr 1; omega, hf⟩

def updZ {α : Type} (f : Int → α) (n : Int) (x : α) : Int → α := fun i => if i = n then x else f i
theorem updZ_same {α : Type} (f : Int → α) (n : Int) (x : α) : updZ f n x n = x := by simp [updZ]
theorem updZ_other {α : Type} (f : Int → α) (n : Int) (x : α) {i : Int} (h : i ≠ n) : updZ f n x i = f i := by simp [updZ, h]
def addN (no : List Int) (n : Int) : List Int := if n ∈ no then no else no ++ [n]
theorem mem_addN {no : List Int} {n x : Int} : x ∈ addN no n ↔ x ∈ no ∨ x = n := by
  unfold addN
  split
  · next h => constructor
              · exact .inl
              · rintro (h1 | rfl)
                · exact h1
                · exact h
  · simp
theorem addN_nodup {no : List Int} {n : Int} (h : no.Nodup) : (addN no n).Nodup := by
  unfold addN
  split
  · exact h
  · next hn =>
    rw [List.nodup_append]
    exact ⟨h, by simp, fun a ha b hb => by simp at hb; subst hb; exact fun e => hn (e ▸ ha)⟩
theorem addN_len (no : List Int) (n : Int) : (addN no n).length ≤ no.length + 1 := by
  unfold addN; split
  · omega
  · simp
/-- A bank: its strips, the cells that were used, the cells' states, where each thread is busy. -/
structure Bk where
  L : List Strip
  no : List Int
  c : Int → St
  d : Nat → Option Int
def newC (L : List Strip) (n : Int) : St := match (if n < 0 then none else stripAt L n) with
  | some s => new s.kind s.top
  | none => new 0 0
def newB (L : List Strip) : Bk := ⟨L, [], newC L, fun _ => none⟩
def inB (X : Bk) (n : Int) : Bool := decide (0 ≤ n) && decide (n < sumS X.L)
def busyB (X : Bk) (t : Int) : Option Int := if isT t = true then X.d t.toNat else none
def errBB (X : Bk) (t k cl : Int) : Int := if inB X cl = false then 6 else if (busyB X t).isSome = true then 12 else errB (X.c cl) t k
def begBB (X : Bk) (t k cl v : Int) : Bk := if errBB X t k cl ≠ 0 then X else ⟨X.L, addN X.no cl, updZ X.c cl (beg (X.c cl) t k v), upd X.d t.toNat (some cl)⟩
def errEB (X : Bk) (t : Int) : Int := match busyB X t with
  | none => 7
  | some _ => 0
def finVB (X : Bk) (t draw : Int) : Int := match busyB X t with
  | none => 0
  | some n => finV (X.c n) t draw
def finBB (X : Bk) (t : Int) : Bk := match busyB X t with
  | none => X
  | some n => ⟨X.L, X.no, updZ X.c n (fin (X.c n) t), upd X.d t.toNat none⟩
structure GoodB (X : Bk) (m : Nat) : Prop where
  ok : errS X.L = 0
  good : ∀ n, CellM.Good (X.c n) m
  busy : ∀ (t : Nat) n, t < 8 → (((X.c n).d t).k ≠ 0 ↔ X.d t = some n)
  used : ∀ (t : Nat) n, t < 8 → X.d t = some n → n ∈ X.no
  nodup : X.no.Nodup
  in_ : ∀ n ∈ X.no, inB X n = true
  fresh : ∀ n, n ∉ X.no → X.c n = newC X.L n
theorem newC_good (L : List Strip) (n : Int) : CellM.Good (newC L n) 0 := by
  unfold newC
  split <;> exact new_good _ _
theorem newC_d (L : List Strip) (n : Int) (t : Nat) : ((newC L n).d t).k = 0 := by
  unfold newC
  split <;> rfl
theorem newC_value (L : List Strip) (n : Int) : (newC L n).value = 0 := by
  unfold newC
  split <;> rfl
theorem newB_good {L : List Strip} (h : errS L = 0) : GoodB (newB L) 0 :=
  ⟨h, newC_good L, fun t n _ => ⟨fun hk => absurd (newC_d L n t) hk, fun e => by cases e⟩, fun t n _ e => (by cases e), List.nodup_nil, fun n hn => by simp [newB] at hn, fun _ _ => rfl⟩
theorem beg_k {S : St} {t k v : Int} (he : errB S t k = 0) (j : Nat) : ((beg S t k v).d j).k = if j = t.toNat then k else (S.d j).k := by
  obtain ⟨_, hk, _⟩ := errB_zero he
  rcases hk with rfl | rfl
  · rw [beg_read he]
    unfold begR
    rw [put_d]
    split
    · rw [overs_k]
    · rfl
  · rw [beg_write he]
    unfold begW
    rw [put_d]
    split
    · rfl
    · rw [meet_d]
      split
      · rw [over_k]
      · rfl
theorem fin_k {S : St} {t : Int} (he : errE S t = 0) (j : Nat) : ((fin S t).d j).k = if j = t.toNat then 0 else (S.d j).k := by
  unfold fin
  rw [if_neg (by rw [he]; simp)]
  unfold endS
  split
  · show ((put S t.toNat idle).d j).k = _
    rw [put_d]; split <;> rfl
  · rw [put_d]; split <;> rfl
section
variable {X : Bk} {m : Nat} {t k cl v : Int}
theorem errBB_zero (h : errBB X t k cl = 0) : inB X cl = true ∧ busyB X t = none ∧ errB (X.c cl) t k = 0 := by
  unfold errBB at h
  by_cases h1 : inB X cl = false
  · rw [if_pos h1] at h; omega
  · rw [if_neg h1] at h
    by_cases h2 : (busyB X t).isSome = true
    · rw [if_pos h2] at h; omega
    · rw [if_neg h2] at h
      exact ⟨by simpa using h1, by simpa using h2, h⟩
theorem begBB_bad (h : errBB X t k cl ≠ 0) : begBB X t k cl v = X := by unfold begBB; rw [if_pos h]
theorem begBB_ok (h : errBB X t k cl = 0) : begBB X t k cl v = ⟨X.L, addN X.no cl, updZ X.c cl (beg (X.c cl) t k v), upd X.d t.toNat (some cl)⟩ := by unfold begBB; rw [if_neg (by rw [h]; simp)]
theorem GoodB.mono (h : GoodB X m) {m' : Nat} (hm : m ≤ m') : GoodB X m' := ⟨h.ok, fun n => (h.good n).mono hm, h.busy, h.used, h.nodup, h.in_, h.fresh⟩
theorem GoodB.beg (h : GoodB X m) (t k cl v : Int) : GoodB (begBB X t k cl v) (m + 9) := by
  by_cases he : errBB X t k cl = 0
  · obtain ⟨h1, h2, h3⟩ := errBB_zero he
    obtain ⟨ht, hk, h0⟩ := errB_zero h3
    obtain ⟨g0, g8⟩ := isT_iff ht
    rw [begBB_ok he]
    have hd : X.d t.toNat = none := by unfold busyB at h2; rw [if_pos ht] at h2; exact h2
    refine ⟨h.ok, fun n => ?_, fun j n hj => ?_, fun j n hj => ?_, addN_nodup h.nodup, fun n hn => ?_, fun n hn => ?_⟩
    · by_cases e : n = cl
      · subst e; simp only [updZ_same]; exact beg_good (h.good _) _ _ _
      · simp only [updZ_other _ _ _ e]; exact (h.good n).mono (Nat.le_add_right _ _)
    · simp only
      by_cases e : n = cl
      · subst e
        rw [updZ_same, beg_k h3]
        by_cases ej : j = t.toNat
        · subst ej; rw [if_pos rfl, upd_same]; simp; omega
        · rw [if_neg ej, upd_other _ _ _ ej]; exact h.busy j n hj
      · rw [updZ_other _ _ _ e]
        by_cases ej : j = t.toNat
        · subst ej; rw [upd_same, h.busy _ n hj, hd]; simp; exact fun e2 => e e2.symm
        · rw [upd_other _ _ _ ej]; exact h.busy j n hj
    · simp only
      rw [mem_addN]
      by_cases ej : j = t.toNat
      · subst ej; rw [upd_same]; intro e; cases e; exact .inr rfl
      · rw [upd_other _ _ _ ej]; exact fun e => .inl (h.used j n hj e)
    · rcases mem_addN.1 hn with hn | rfl
      · exact h.in_ n hn
      · exact h1
    · have hn' : n ∉ X.no ∧ n ≠ cl := ⟨fun hh => hn (mem_addN.2 (.inl hh)), fun hh => hn (mem_addN.2 (.inr hh))⟩
      simp only [updZ_other _ _ _ hn'.2]
      exact h.fresh n hn'.1
  · rw [begBB_bad he]; exact h.mono (Nat.le_add_right _ _)
theorem busyB_some {n : Int} (h : busyB X t = some n) : isT t = true ∧ X.d t.toNat = some n := by
  unfold busyB at h
  by_cases ht : isT t = true
  · rw [if_pos ht] at h; exact ⟨ht, h⟩
  · rw [if_neg ht] at h; cases h
theorem GoodB.errE (h : GoodB X m) {n : Int} (hb : busyB X t = some n) : errE (X.c n) t = 0 := by
  obtain ⟨ht, hd⟩ := busyB_some hb
  obtain ⟨g0, g8⟩ := isT_iff ht
  have := (h.busy t.toNat n (by omega)).2 hd
  unfold Go.Proofs.Ytdfkmkflcnfchaa.errE
  rw [if_neg (by rw [ht]; simp; exact this)]
theorem finBB_some {n : Int} (hb : busyB X t = some n) : finBB X t = ⟨X.L, X.no, updZ X.c n (fin (X.c n) t), upd X.d t.toNat none⟩ := by unfold finBB; rw [hb]
theorem finBB_none (hb : busyB X t = none) : finBB X t = X := by unfold finBB; rw [hb]
theorem GoodB.fin (h : GoodB X m) (t : Int) : GoodB (finBB X t) m := by
  cases hb : busyB X t with
  | none => rw [finBB_none hb]; exact h
  | some c =>
    have he := h.errE hb
    obtain ⟨ht, hd⟩ := busyB_some hb
    obtain ⟨g0, g8⟩ := isT_iff ht
    rw [finBB_some hb]
    refine ⟨h.ok, fun n => ?_, fun j n hj => ?_, fun j n hj => ?_, h.nodup, h.in_, fun n hn => ?_⟩
    · by_cases e : n = c
      · subst e; simp only [updZ_same]; exact fin_good (h.good _) _
      · simp only [updZ_other _ _ _ e]; exact h.good n
    · simp only
      by_cases e : n = c
      · subst e
        rw [updZ_same, fin_k he]
        by_cases ej : j = t.toNat
        · subst ej; rw [if_pos rfl, upd_same]; simp
        · rw [if_neg ej, upd_other _ _ _ ej]; exact h.busy j n hj
      · rw [updZ_other _ _ _ e]
        by_cases ej : j = t.toNat
        · subst ej; rw [upd_same, h.busy _ n hj, hd]; simp; exact fun e2 => e e2.symm
        · rw [upd_other _ _ _ ej]; exact h.busy j n hj
    · simp only
      by_cases ej : j = t.toNat
      · subst ej; rw [upd_same]; intro e; cases e
      · rw [upd_other _ _ _ ej]; exact h.used j n hj
    · have : n ≠ c := fun e => hn (by rw [e]; exact h.used _ _ (by omega) hd)
      simp only [updZ_other _ _ _ this]
      exact h.fresh n hn
theorem GoodB.value (h : GoodB X m) {n : Int} (hn : n ∉ X.no) : (X.c n).value = 0 := by rw [h.fresh n hn]; exact newC_value _ _
end
end Go.Proofs.Ytdfkmkflcnfchaa
