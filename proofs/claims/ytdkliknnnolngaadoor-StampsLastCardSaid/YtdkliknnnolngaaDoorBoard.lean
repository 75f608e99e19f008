/- Boards on which stamps are taken: who came last dominates all. Plain mathematics over fineB, takeL, lastL; no program. Own work. -/
import Derived.Test.YtdkliknnnolngaaDoorStU
namespace Go.Proofs.YtdkliknnnolngaaDoor
open Cyc

/-- What holds of a board and of when each took its stamp (i: how many have been taken). -/
structure InvB (m i : Nat) (L : List (List Int)) (wh : List Int) : Prop where
  len : L.length = m
  fine : fineB L = true
  two : Two L
  whl : wh.length = 8
  old : ∀ x, x < 8 → 0 ≤ wh.getD x 0 ∧ wh.getD x 0 ≤ i
  dom : ∀ x y (hx : x < L.length) (hy : y < L.length), wh.getD y 0 < wh.getD x 0 → domL L[x] L[y] = true
theorem inv_start {m : Nat} (hf : fineB (newL m) = true) : InvB m 0 (newL m) (List.replicate 8 0) := by
  have hz : ∀ x, (List.replicate 8 (0 : Int)).getD x 0 = 0 := fun x => by
    rw [List.getD_eq_getElem?_getD, List.getElem?_replicate]; split <;> rfl
  refine ⟨by simp [newL], hf, two_zeros (n := m - 1) fun r hr => List.eq_of_mem_replicate hr, by simp, fun x _ => ?_, fun x y hx hy h => ?_⟩
  · rw [hz]; omega
  · rw [hz, hz] at h; omega
theorem fine_row {L : List (List Int)} (h : fineB L = true) {x : Nat} (hx : x < L.length) : L[x].length = L.length - 1 ∧ fineL L[x] = true := by
  have := (fineB_iff.1 h).2.2 _ (List.getElem_mem hx)
  have h1 := (fineB_iff.1 h).1
  exact ⟨by omega, this.2⟩
theorem dom_anti {a b : List Int} (ha : fineL a = true) (hb : fineL b = true) (h : a.length = b.length) (h1 : domL a b = true) : domL b a = false := by
  have := (domL_one ha hb h).2
  rw [h1] at this; simpa using this
section
variable {m i me : Nat} {L : List (List Int)} {wh : List Int}
/-- The new stamp's own facts. -/
theorem inv_new (h : InvB m i L wh) (hme : me < m) : (overL (L.length - 1) (L.eraseIdx me)).length = L.length - 1 ∧ fineL (overL (L.length - 1) (L.eraseIdx me)) = true ∧
    (∀ r ∈ L.eraseIdx me, domL (overL (L.length - 1) (L.eraseIdx me)) r = true) ∧ Two (overL (L.length - 1) (L.eraseIdx me) :: L.eraseIdx me) := by
  have hF := fineB_iff.1 h.fine
  have hl := h.len
  have hrow : ∀ r ∈ L.eraseIdx me, r.length = L.length - 1 ∧ fineL r = true := fun r hr => by
    have := hF.2.2 r (List.mem_of_mem_eraseIdx hr)
    exact ⟨by omega, this.2⟩
  have hlen : (L.eraseIdx me).length = L.length - 1 := by rw [List.length_eraseIdx_of_lt (by omega)]
  obtain ⟨h1, h2⟩ := over_dom (L.length - 1) (L.eraseIdx me) (by omega) hrow (h.two.sub fun r hr => List.mem_of_mem_eraseIdx hr)
  have hfn := overL_fine hrow (by omega : L.length - 1 ≤ 8)
  refine ⟨overL_len _ _, hfn, fun r hr => ?_, h2⟩
  rw [domL_of hfn (hrow r hr).2 (by rw [overL_len, (hrow r hr).1])]
  exact h1 r hr
theorem take_at (x : Nat) (hx : x < (takeL L me).length) :
    (x = me → (takeL L me)[x] = overL (L.length - 1) (L.eraseIdx me)) ∧ (∀ hx' : x < L.length, x ≠ me → (takeL L me)[x] = L[x]) := by
  constructor
  · intro e; subst e; simp [takeL]
  · intro hx' e; simp [takeL, List.getElem_set_ne (Ne.symm e)]
theorem inv_next (h : InvB m i L wh) (hme : me < m) : InvB m (i + 1) (takeL L me) (wh.set me ((i : Int) + 1)) := by
  obtain ⟨n1, n2, n3, n4⟩ := inv_new h hme
  have hl := h.len
  have hF := fineB_iff.1 h.fine
  have hl2 : (takeL L me).length = m := by rw [takeL_len, hl]
  have hm8 : m ≤ 8 := by omega
  have hmem : ∀ r ∈ takeL L me, r = overL (L.length - 1) (L.eraseIdx me) ∨ r ∈ L.eraseIdx me := fun r hr => by
    obtain ⟨x, hx, rfl⟩ := List.mem_iff_getElem.1 hr
    have ht := take_at x hx
    by_cases e : x = me
    · exact .inl (ht.1 e)
    · have hx' : x < L.length := by omega
      rw [ht.2 hx' e]
      exact .inr (List.mem_eraseIdx_iff_getElem.2 ⟨x, hx', e, rfl⟩)
  have hset : ∀ x, (wh.set me ((i : Int) + 1)).getD x 0 = if x = me then (i : Int) + 1 else wh.getD x 0 := fun x => by
    rw [List.getD_eq_getElem?_getD, List.getElem?_set]
    by_cases e : me = x
    · rw [if_pos e, if_pos e.symm, if_pos (by rw [h.whl]; omega)]; rfl
    · rw [if_neg e, if_neg (Ne.symm e), List.getD_eq_getElem?_getD]
  refine ⟨hl2, ?_, n4.sub fun r hr => ?_, by simp [h.whl], fun x hx => ?_, fun x y hx hy hlt => ?_⟩
  · rw [fineB_iff, hl2]
    refine ⟨by omega, by omega, fun r hr => ?_⟩
    rcases hmem r hr with rfl | hr
    · exact ⟨by rw [n1]; omega, n2⟩
    · have := hF.2.2 r (List.mem_of_mem_eraseIdx hr)
      exact ⟨by omega, this.2⟩
  · rcases hmem r hr with rfl | hr
    · simp
    · exact List.mem_cons_of_mem _ hr
  · rw [hset]
    split
    · omega
    · have := h.old x hx; omega
  · have hx' : x < L.length := by omega
    have hy' : y < L.length := by omega
    rw [hset, hset] at hlt
    by_cases ey : y = me
    · rw [if_pos ey] at hlt
      by_cases ex : x = me
      · rw [if_pos ex] at hlt; omega
      · rw [if_neg ex] at hlt
        have := h.old x (by omega); omega
    · rw [(take_at y hy).2 hy' ey]
      by_cases ex : x = me
      · rw [(take_at x hx).1 ex]
        exact n3 _ (List.mem_eraseIdx_iff_getElem.2 ⟨y, hy', ey, rfl⟩)
      · rw [if_neg ey, if_neg ex] at hlt
        rw [(take_at x hx).2 hx' ex]
        exact h.dom x y hx' hy' hlt
/-- The last who took dominates all others, and no other does. -/
theorem lastF_at {P : Nat → Bool} {n t : Nat} : ∀ (d k : Nat), t = k + d → t < k + n → P t = true → (∀ j, k ≤ j → j < t → P j = false) → lastF P k n = t
  | 0, k, e, hn, hp, _ => by
    obtain ⟨j, rfl⟩ : ∃ j, n = j + 1 := ⟨n - 1, by omega⟩
    have : t = k := by omega
    subst this
    unfold lastF; rw [hp]; rfl
  | d + 1, k, e, hn, hp, hq => by
    obtain ⟨j, rfl⟩ : ∃ j, n = j + 1 := ⟨n - 1, by omega⟩
    unfold lastF
    rw [hq k (Nat.le_refl _) (by omega)]
    exact lastF_at d (k + 1) (by omega) (by omega) hp fun x h1 h2 => hq x (by omega) h2
theorem inv_last (h : InvB m i L wh) (hme : me < m) : lastA (takeL L me) = me := by
  have h' := inv_next h hme
  obtain ⟨n1, n2, n3, n4⟩ := inv_new h hme
  have hl := h.len
  have hl2 := h'.len
  have dome : ∀ y (hy : y < (takeL L me).length) (hm : me < (takeL L me).length), y ≠ me → domL (takeL L me)[me] (takeL L me)[y] = true := fun y hy hm e => by
    have hy' : y < L.length := by omega
    rw [(take_at me hm).1 rfl, (take_at y hy).2 hy' e]
    exact n3 _ (List.mem_eraseIdx_iff_getElem.2 ⟨y, hy', e, rfl⟩)
  unfold lastA
  rw [h'.fine, if_pos rfl]
  unfold lastL
  refine lastF_at me 0 (by omega) (by omega) ?_ fun j _ hj => ?_
  · rw [topP_iff (by omega)]
    intro c hc
    by_cases e : c = me
    · exact .inl e
    · exact .inr (dome c hc (by omega) e)
  · cases ht : topP (takeL L me) j
    · rfl
    · have hjl : j < (takeL L me).length := by omega
      have hml : me < (takeL L me).length := by omega
      have h1 := (topP_iff hjl).1 ht me hml
      have h2 := dome j hjl hml (by omega)
      have f1 := fine_row h'.fine hjl
      have f2 := fine_row h'.fine hml
      have h3 := dom_anti f2.2 f1.2 (by rw [f1.1, f2.1]) h2
      rcases h1 with h1 | h1
      · omega
      · rw [h1] at h3; cases h3
/-- Behind, of two threads of a board. -/
theorem behind_at (h : InvB m i L wh) {x y : Nat} (hx : x < L.length) (hy : y < L.length) : behindL L x y = domL L[x] L[y] := by
  unfold behindL hasL
  rw [h.fine, decide_eq_true (show (0 : Int) ≤ (x : Int) by omega), decide_eq_true (show (x : Int) < L.length by omega), decide_eq_true (show (0 : Int) ≤ (y : Int) by omega), decide_eq_true (show (y : Int) < L.length by omega)]
  simp [List.getD_eq_getElem?_getD, hx, hy]
theorem behind_yes (h : InvB m i L wh) {x y : Nat} (hx : x < m) (hy : y < m) (hlt : wh.getD y 0 < wh.getD x 0) : behindL L x y = true := by
  have hl := h.len
  rw [behind_at h (by omega) (by omega)]
  exact h.dom x y (by omega) (by omega) hlt
theorem behind_no (h : InvB m i L wh) {x y : Nat} (hx : x < m) (hy : y < m) (hlt : wh.getD x 0 < wh.getD y 0) : behindL L x y = false := by
  have hl := h.len
  have hx' : x < L.length := by omega
  have hy' : y < L.length := by omega
  rw [behind_at h hx' hy']
  have f1 := fine_row h.fine hx'
  have f2 := fine_row h.fine hy'
  exact dom_anti f2.2 f1.2 (by rw [f1.1, f2.1]) (h.dom y x hy' hx' hlt)
end
end Go.Proofs.YtdkliknnnolngaaDoor
