/- What a read may tell: plain mathematics. Own work. -/
import Derived.Test.YtdfkmkflcnfchaaActs8
namespace Go.Proofs.Ytdfkmkflcnfchaa
open CellM

/-- What was written so far: Wr; whose last access was a read: R. -/
structure May (S : St) (T : Int) (Wr : List Int) (R : Nat → Bool) : Prop where
  top : S.top = T
  inr : ∀ x, x ∈ Wr → 0 ≤ x ∧ x ≤ T
  val : S.value ∈ Wr
  w : ∀ t, (S.d t).k = 2 → (S.d t).w ∈ Wr
  c : ∀ t x, x ∈ (S.d t).c → x ∈ Wr
  m : S.kind ≠ 1 → ∀ t, (S.d t).m = false
  r : ∀ t, (S.d t).k ≠ 0 → R t = decide ((S.d t).k = 1)
section
variable {S : St} {T : Int} {Wr : List Int} {R : Nat → Bool}
theorem may_new (kind : Int) (h : 0 ≤ T ∧ T ≤ 1099511627776) : May (new kind T) T [0] R :=
  ⟨cap_in h.1 h.2, fun x hx => by simp at hx; omega, by simp [new], fun t ht => by simp [new, idle] at ht, fun t x hx => by simp [new, idle] at hx, fun _ _ => rfl, fun t ht => absurd rfl ht⟩
theorem May.overs (h : May S T Wr R) : ∀ n x, x ∈ (overs S n).c → x ∈ Wr
  | 0, x, hx => by
    simp only [CellM.overs, read0] at hx
    split at hx
    · simp at hx; rw [hx]; exact h.val
    · simp at hx
  | n + 1, x, hx => by
    by_cases hk : (S.d n).k = 2
    · rw [overs_yes hk, over_c] at hx
      split at hx
      · rcases List.mem_append.1 hx with h1 | h1
        · exact h.overs n x h1
        · simp at h1; rw [h1]; exact h.w n hk
      · exact h.overs n x hx
    · rw [overs_no hk] at hx; exact h.overs n x hx
theorem overs_m (hk : S.kind ≠ 1) : ∀ n, (overs S n).m = false
  | 0 => rfl
  | n + 1 => by
    by_cases h2 : (S.d n).k = 2
    · rw [overs_yes h2, over_m, if_neg hk]; exact overs_m hk n
    · rw [overs_no h2]; exact overs_m hk n
theorem errB_zero {t k : Int} (h : errB S t k = 0) : isT t = true ∧ (k = 1 ∨ k = 2) ∧ (S.d t.toNat).k = 0 := by
  unfold errB at h
  split at h
  · omega
  · next h1 =>
    split at h
    · omega
    · next h2 =>
      refine ⟨by cases e : isT t <;> simp_all, by omega, by simpa using h2⟩
theorem errE_zero {t : Int} (h : errE S t = 0) : isT t = true ∧ (S.d t.toNat).k ≠ 0 := by
  unfold errE at h
  split at h
  · omega
  · next h1 => exact ⟨by cases e : isT t <;> simp_all, fun e => h1 (.inr e)⟩
theorem beg_bad {t k v : Int} (h : errB S t k ≠ 0) : beg S t k v = S := by unfold beg; rw [if_pos h]
theorem beg_read {t v : Int} (h : errB S t 1 = 0) : beg S t 1 v = begR S t.toNat := by unfold beg; rw [if_neg (by rw [h]; simp), if_pos rfl]
theorem beg_write {t v : Int} (h : errB S t 2 = 0) : beg S t 2 v = begW S t.toNat (cap S.top v) := by unfold beg; rw [if_neg (by rw [h]; simp), if_neg (by decide)]
theorem May.beg_read (h : May S T Wr R) {t v : Int} (he : errB S t 1 = 0) : May (beg S t 1 v) T Wr (upd R t.toNat true) := by
  rw [Go.Proofs.Ytdfkmkflcnfchaa.beg_read he]
  refine ⟨h.top, h.inr, h.val, fun u hu => ?_, fun u x hx => ?_, fun hk u => ?_, fun u hu => ?_⟩
  all_goals unfold begR at *
  · rw [put_d] at hu ⊢
    split at hu
    · rw [overs_k] at hu; omega
    · next hne => rw [if_neg hne]; exact h.w u hu
  · rw [put_d] at hx
    split at hx
    · exact h.overs 8 x hx
    · exact h.c u x hx
  · rw [put_d]; split
    · exact overs_m (S := S) hk 8
    · exact h.m hk u
  · rw [put_d] at hu ⊢
    by_cases e : u = t.toNat
    · subst e; rw [if_pos rfl, upd_same, overs_k]; rfl
    · rw [if_neg e] at hu ⊢; rw [upd_other _ _ _ e]; exact h.r u hu
theorem May.beg_write (h : May S T Wr R) (hT : 0 ≤ T) {t v : Int} (he : errB S t 2 = 0) : May (beg S t 2 v) T (Wr ++ [cap T v]) (upd R t.toNat false) := by
  rw [Go.Proofs.Ytdfkmkflcnfchaa.beg_write he, h.top]
  have hin : ∀ x, x ∈ Wr → x ∈ Wr ++ [cap T v] := fun x hx => List.mem_append_left _ hx
  have hl : cap T v ∈ Wr ++ [cap T v] := by simp
  refine ⟨h.top, fun x hx => ?_, hin _ h.val, fun u hu => ?_, fun u x hx => ?_, fun hk u => ?_, fun u hu => ?_⟩
  · rcases List.mem_append.1 hx with h1 | h1
    · exact h.inr x h1
    · simp at h1; rw [h1]; exact cap_le T v hT
  all_goals unfold begW at *
  · rw [put_d] at hu ⊢
    split at hu
    · next e => rw [if_pos e]; exact hl
    · next e =>
      rw [if_neg e]
      rw [meet_d] at hu ⊢
      split at hu
      · next hh => rw [over_k] at hu; omega
      · next hh => rw [if_neg hh]; exact hin _ (h.w u hu)
  · rw [put_d] at hx
    split at hx
    · simp at hx
    · rw [meet_d] at hx
      split at hx
      · rw [over_c] at hx
        split at hx
        · rcases List.mem_append.1 hx with h1 | h1
          · exact hin _ (h.c u x h1)
          · simp at h1; rw [h1]; exact hl
        · exact hin _ (h.c u x hx)
      · exact hin _ (h.c u x hx)
  · rw [put_d]; split
    · rfl
    · rw [meet_d]; split
      · rw [over_m, if_neg (show ¬ S.kind = 1 from hk)]; exact h.m hk u
      · exact h.m hk u
  · rw [put_d] at hu ⊢
    by_cases e : u = t.toNat
    · subst e; rw [if_pos rfl, upd_same]; rfl
    · rw [if_neg e] at hu ⊢
      rw [upd_other _ _ _ e]
      rw [meet_d] at hu ⊢
      split at hu
      · next hh => rw [over_k] at hu; rw [if_pos hh, over_k]; exact h.r u hu
      · next hh => rw [if_neg hh]; exact h.r u hu
theorem May.idle (h : May S T Wr R) (t : Nat) : May (put S t idle) T Wr R := by
  refine ⟨h.top, h.inr, h.val, fun u hu => ?_, fun u x hx => ?_, fun hk u => ?_, fun u hu => ?_⟩
  all_goals rw [put_d] at *
  · split at hu
    · simp [CellM.idle] at hu
    · next e => rw [if_neg e]; exact h.w u hu
  · split at hx
    · simp [CellM.idle] at hx
    · exact h.c u x hx
  · split
    · rfl
    · exact h.m hk u
  · split at hu
    · simp [CellM.idle] at hu
    · next e => rw [if_neg e]; exact h.r u hu
theorem May.setV (h : May S T Wr R) {v : Int} (hv : v ∈ Wr) : May (setV S v) T Wr R := ⟨h.top, h.inr, hv, h.w, h.c, h.m, h.r⟩
theorem May.fin (h : May S T Wr R) (t : Int) : May (fin S t) T Wr R := by
  unfold Go.Proofs.Ytdfkmkflcnfchaa.fin
  split
  · exact h
  · unfold endS
    split
    · next hk => exact (h.idle _).setV (h.w _ hk)
    · exact h.idle _
theorem May.told (h : May S T Wr R) {n : Nat} (hG : CellM.Good S n) {t draw : Int} (he : errE S t = 0) (hr : R t.toNat = true) :
    0 ≤ finV S t draw ∧ finV S t draw ≤ T ∧ (S.kind ≠ 1 → finV S t draw ∈ Wr) := by
  obtain ⟨_, h0⟩ := errE_zero he
  have hk : (S.d t.toNat).k = 1 := by
    have := h.r _ h0
    rw [hr] at this
    simpa using this.symm
  have hv : finV S t draw = CellM.told S (S.d t.toNat) draw := by
    unfold finV endV
    rw [if_neg (by rw [he]; simp), if_neg (by rw [hk]; decide)]
  rw [hv]
  unfold CellM.told
  by_cases h2 : S.kind = 2
  · rw [if_pos h2]
    have hne := hG.r _ h2 hk
    have h0 : 0 < (S.d t.toNat).c.length := List.length_pos_iff.2 hne
    have h1 := Int.emod_nonneg draw (show ((S.d t.toNat).c.length : Int) ≠ 0 by omega)
    have h3 := Int.emod_lt_of_pos draw (show (0 : Int) < (S.d t.toNat).c.length by omega)
    have hmem : (S.d t.toNat).c.getD (draw % ((S.d t.toNat).c.length : Int)).toNat 0 ∈ Wr := by
      rw [List.getD_eq_getElem?_getD, List.getElem?_eq_getElem (by omega)]
      exact h.c _ _ (List.getElem_mem _)
    exact ⟨(h.inr _ hmem).1, (h.inr _ hmem).2, fun _ => hmem⟩
  · rw [if_neg h2]
    split
    · next hm =>
      have htop := hG.top
      rw [h.top] at *
      have h1 := Int.emod_nonneg draw (show T + 1 ≠ 0 by omega)
      have h3 := Int.emod_lt_of_pos draw (show 0 < T + 1 by omega)
      refine ⟨h1, by omega, fun hk1 => ?_⟩
      rw [h.m hk1] at hm; cases hm
    · exact ⟨(h.inr _ h.val).1, (h.inr _ h.val).2, fun _ => h.val⟩
end
end Go.Proofs.Ytdfkmkflcnfchaa
