/- A cell of memory: its states, what begins, what is over: plain mathematics. Own work. -/
namespace Go.Proofs.Ytjffgppdjdmmgaa.CellM

/-- A greatest one, as from 0 to m. -/
def cap (m t : Int) : Int := min (max t 0) m
theorem cap_le (m t : Int) (hm : 0 ≤ m) : 0 ≤ cap m t ∧ cap m t ≤ m := by unfold cap; omega
theorem cap_in {m t : Int} (h0 : 0 ≤ t) (h1 : t ≤ m) : cap m t = t := by unfold cap; omega

structure Acc where
  k : Int
  w : Int
  m : Bool
  c : List Int
structure St where
  kind : Int
  top : Int
  value : Int
  d : Nat → Acc
def idle : Acc := ⟨0, 0, false, []⟩
def over (kind : Int) (a : Acc) (v : Int) : Acc := if kind = 1 then ⟨a.k, a.w, true, a.c⟩ else if kind = 2 then ⟨a.k, a.w, a.m, a.c ++ [v]⟩ else a
def read0 (S : St) : Acc := ⟨1, 0, false, if S.kind = 2 then [S.value] else []⟩
/-- What a read holds that begins, the first n threads looked at. -/
def overs (S : St) : Nat → Acc
  | 0 => read0 S
  | n + 1 => if (S.d n).k = 2 then over S.kind (overs S n) (S.d n).w else overs S n
def put (S : St) (t : Nat) (a : Acc) : St := ⟨S.kind, S.top, S.value, fun i => if i = t then a else S.d i⟩
def setV (S : St) (v : Int) : St := ⟨S.kind, S.top, v, S.d⟩
def begR (S : St) (t : Nat) : St := put S t (overs S 8)
/-- A write has met the reads of the first n threads. -/
def meet (S : St) (v : Int) (n : Nat) : St := ⟨S.kind, S.top, S.value, fun i => if i < n ∧ (S.d i).k = 1 then over S.kind (S.d i) v else S.d i⟩
def begW (S : St) (t : Nat) (v : Int) : St := put (meet S v 8) t ⟨2, v, false, []⟩
def told (S : St) (a : Acc) (draw : Int) : Int :=
  if S.kind = 2 then a.c.getD (draw % a.c.length).toNat 0 else if a.m then draw % (S.top + 1) else S.value
def endS (S : St) (t : Nat) : St := if (S.d t).k = 2 then setV (put S t idle) (S.d t).w else put S t idle
def endV (S : St) (t : Nat) (draw : Int) : Int := if (S.d t).k = 2 then 0 else told S (S.d t) draw
def busy (S : St) : Nat → Nat
  | 0 => 0
  | n + 1 => if (S.d n).k = 0 then busy S n else busy S n + 1
def new (kind top : Int) : St := ⟨kind, cap 1099511627776 top, 0, fun _ => idle⟩

/-- What holds of every state that calls lead to; n: how many values a candidates' list may hold. -/
structure Good (S : St) (n : Nat) : Prop where
  top : 0 ≤ S.top ∧ S.top ≤ 1099511627776
  k : ∀ t, (S.d t).k = 0 ∨ (S.d t).k = 1 ∨ (S.d t).k = 2
  c : ∀ t, (S.d t).c ≠ [] → S.kind = 2 ∧ (S.d t).k = 1
  r : ∀ t, S.kind = 2 → (S.d t).k = 1 → (S.d t).c ≠ []
  n : ∀ t, (S.d t).c.length ≤ n

theorem new_good (kind top : Int) : Good (new kind top) 0 :=
  ⟨cap_le _ _ (by decide), fun _ => .inl rfl, fun _ h => absurd rfl h, fun _ _ h => by simp [new, idle] at h, fun _ => Nat.le_refl _⟩
theorem Good.mono {S : St} {n m : Nat} (h : Good S n) (hm : n ≤ m) : Good S m := ⟨h.top, h.k, h.c, h.r, fun t => Nat.le_trans (h.n t) hm⟩
theorem over_k (kind : Int) (a : Acc) (v : Int) : (over kind a v).k = a.k := by
  unfold over
  split
  · rfl
  · split <;> rfl
theorem over_w (kind : Int) (a : Acc) (v : Int) : (over kind a v).w = a.w := by
  unfold over
  split
  · rfl
  · split <;> rfl
theorem over_c (kind : Int) (a : Acc) (v : Int) : (over kind a v).c = if kind = 2 then a.c ++ [v] else a.c := by
  unfold over
  by_cases h1 : kind = 1
  · subst h1; rfl
  · rw [if_neg h1]; split <;> rfl
theorem over_m (kind : Int) (a : Acc) (v : Int) : (over kind a v).m = if kind = 1 then true else a.m := by
  unfold over
  split
  · rfl
  · split <;> rfl
theorem overs_k (S : St) : ∀ n, (overs S n).k = 1
  | 0 => rfl
  | n + 1 => by
    unfold overs
    split
    · rw [over_k, overs_k S n]
    · exact overs_k S n
theorem overs_w (S : St) : ∀ n, (overs S n).w = 0
  | 0 => rfl
  | n + 1 => by
    unfold overs
    split
    · rw [over_w, overs_w S n]
    · exact overs_w S n
theorem overs_c2 (S : St) (h : S.kind = 2) : ∀ n, (overs S n).c ≠ [] ∧ (overs S n).c.length ≤ n + 1
  | 0 => by simp [overs, read0, h]
  | n + 1 => by
    have h2 := overs_c2 S h n
    unfold overs
    split
    · rw [over_c, if_pos h]
      refine ⟨by simp, by rw [List.length_append]; simp; omega⟩
    · exact ⟨h2.1, by omega⟩
theorem overs_c0 (S : St) (h : S.kind ≠ 2) : ∀ n, (overs S n).c = []
  | 0 => by simp [overs, read0, h]
  | n + 1 => by
    unfold overs
    split
    · rw [over_c, if_neg h, overs_c0 S h n]
    · exact overs_c0 S h n
theorem overs_yes {S : St} {k : Nat} (h : (S.d k).k = 2) : overs S (k + 1) = over S.kind (overs S k) (S.d k).w := by
  show (if (S.d k).k = 2 then _ else _) = _
  rw [if_pos h]
theorem overs_no {S : St} {k : Nat} (h : (S.d k).k ≠ 2) : overs S (k + 1) = overs S k := by
  show (if (S.d k).k = 2 then _ else _) = _
  rw [if_neg h]
theorem put_d (S : St) (t : Nat) (a : Acc) (i : Nat) : (put S t a).d i = if i = t then a else S.d i := rfl
theorem Good.put {S : St} {n : Nat} (h : Good S n) (t : Nat) (a : Acc) (hk : a.k = 0 ∨ a.k = 1 ∨ a.k = 2) (hc : a.c ≠ [] → S.kind = 2 ∧ a.k = 1) (hr : S.kind = 2 → a.k = 1 → a.c ≠ []) (hn : a.c.length ≤ n) : Good (put S t a) n := by
  refine ⟨h.top, fun i => ?_, fun i => ?_, fun i => ?_, fun i => ?_⟩
  all_goals rw [put_d]; split
  · exact hk
  · exact h.k i
  · exact hc
  · exact h.c i
  · exact hr
  · exact h.r i
  · exact hn
  · exact h.n i
theorem begR_good {S : St} {n : Nat} (h : Good S n) (t : Nat) : Good (begR S t) (n + 9) := by
  refine (h.mono (Nat.le_add_right _ _)).put t _ (.inr (.inl (overs_k S 8))) (fun hc => ?_) (fun hk _ => (overs_c2 S hk 8).1) ?_
  · by_cases hk : S.kind = 2
    · exact ⟨hk, overs_k S 8⟩
    · exact absurd (overs_c0 S hk 8) hc
  · by_cases hk : S.kind = 2
    · have := (overs_c2 S hk 8).2; omega
    · rw [overs_c0 S hk 8]; exact Nat.zero_le _
theorem meet_d (S : St) (v : Int) (n i : Nat) : (meet S v n).d i = if i < n ∧ (S.d i).k = 1 then over S.kind (S.d i) v else S.d i := rfl
theorem meet_good {S : St} {n : Nat} (h : Good S n) (v : Int) (j : Nat) : Good (meet S v j) (n + 1) := by
  refine ⟨h.top, fun i => ?_, fun i => ?_, fun i => ?_, fun i => ?_⟩
  all_goals rw [meet_d]; split
  · rw [over_k]; exact h.k i
  · exact h.k i
  · next hi =>
    rw [over_k, over_c]
    intro hc
    refine ⟨?_, hi.2⟩
    show S.kind = 2
    split at hc
    · assumption
    · exact (h.c i hc).1
  · exact h.c i
  · next hi =>
    intro hk _
    rw [over_c, if_pos (show S.kind = 2 from hk)]; simp
  · exact h.r i
  · have := h.n i
    rw [over_c]; split
    · rw [List.length_append]; simp; omega
    · omega
  · have := h.n i; omega
theorem begW_good {S : St} {n : Nat} (h : Good S n) (t : Nat) (v : Int) : Good (begW S t v) (n + 1) :=
  (meet_good h v 8).put t _ (.inr (.inr rfl)) (fun hc => absurd rfl hc) (fun _ hk => by simp at hk) (Nat.zero_le _)
theorem idle_good {S : St} {n : Nat} (h : Good S n) (t : Nat) : Good (put S t idle) n :=
  h.put t _ (.inl rfl) (fun hc => absurd rfl hc) (fun _ hk => by simp [idle] at hk) (Nat.zero_le _)
theorem setV_good {S : St} {n : Nat} (h : Good S n) (v : Int) : Good (setV S v) n := ⟨h.top, h.k, h.c, h.r, h.n⟩
theorem endS_good {S : St} {n : Nat} (h : Good S n) (t : Nat) : Good (endS S t) n := by
  unfold endS
  split
  · exact setV_good (idle_good h t) _
  · exact idle_good h t
theorem busy_le (S : St) : ∀ n, busy S n ≤ n
  | 0 => Nat.le_refl _
  | n + 1 => by
    have := busy_le S n
    unfold busy; split <;> omega
end Go.Proofs.Ytjffgppdjdmmgaa.CellM
