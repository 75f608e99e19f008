/- A cell of memory in the heap: its own block, its room, its reads' candidates; what a call leaves of it. Own work. -/
import Derived.Test.YtdfkmkflcnfchaaOver
namespace Go.Proofs.Ytdfkmkflcnfchaa
open Go.ChangeShapes Go.WideShapes Go.ChangeAt Go.RowKit CellM

def upd {α : Type} (f : Nat → α) (t : Nat) (x : α) : Nat → α := fun i => if i = t then x else f i
theorem upd_same {α : Type} (f : Nat → α) (t : Nat) (x : α) : upd f t x t = x := by simp [upd]
theorem upd_other {α : Type} (f : Nat → α) (t : Nat) (x : α) {i : Nat} (h : i ≠ t) : upd f t x i = f i := by simp [upd, h]

structure PAtD (w : World) (cb rb : Nat) (S : St) (V : Nat → Value) (pl : Nat → Pl) (F : Nat → Prop) : Prop where
  kind : Has w ⟨cb, 0, none⟩ (.int .i64 S.kind)
  top : Has w ⟨cb, 1, none⟩ (.int .i64 S.top)
  value : Has w ⟨cb, 2, none⟩ (.int .i64 S.value)
  acc : ∀ t, t < 8 → AccAt w cb (3 + t * 4) (S.d t) (V t)
  room : S.kind = 2 → Has w ⟨cb, 35, none⟩ (.slice (some ⟨rb, 0, none⟩) 64 64)
  rooms : S.kind = 2 → ∀ j, j < 64 → ∃ x, Has w ⟨rb, j, none⟩ x
  cand : ∀ t, t < 8 → (S.d t).c ≠ [] → Cand w (V t) (pl t).h (pl t).o (pl t).c (S.d t).c
  nil : ∀ t, t < 8 → (S.d t).c = [] → V t = .slice none 0 0
  cF : F cb
  rF : S.kind = 2 → F rb
  pF : ∀ t, t < 8 → (S.d t).c ≠ [] → F (pl t).h
  ne : cb ≠ rb
  place : ∀ t, t < 8 → (S.d t).c ≠ [] → (pl t).h ≠ cb ∧ ((pl t).h = rb → (pl t).o = t * 8 ∧ (pl t).c = 8)
  apart : ∀ t u, t < 8 → u < 8 → t ≠ u → (S.d t).c ≠ [] → (S.d u).c ≠ [] → (pl t).h = (pl u).h → (pl t).h = rb
/-- What belongs to thread t. -/
def zone (cb rb : Nat) (S : St) (pl : Nat → Pl) (t : Nat) : Addr → Prop := fun p =>
  (p.block = cb ∧ 3 + t * 4 ≤ p.off ∧ p.off < 3 + t * 4 + 4) ∨ (p.block = rb ∧ t * 8 ≤ p.off ∧ p.off < t * 8 + 8) ∨ ((S.d t).c ≠ [] ∧ p.block = (pl t).h ∧ (pl t).h ≠ rb)
section
variable {w w' : World} {cb rb : Nat} {S : St} {V : Nat → Value} {pl : Nat → Pl} {F F' : Nat → Prop}
theorem PAtD.set (H : PAtD w cb rb S V pl F) {t : Nat} (ht : t < 8) (hk : Kept (zone cb rb S pl t) w w') {a : CellM.Acc} {V' : Value} {p' : Pl} (ha : AccAt w' cb (3 + t * 4) a V') (hF : ∀ b, F b → F' b)
    (hn : a.c = [] → V' = .slice none 0 0)
    (hc : a.c ≠ [] → Cand w' V' p'.h p'.o p'.c a.c ∧ p'.h ≠ cb ∧ F' p'.h ∧ (p'.h = rb → p'.o = t * 8 ∧ p'.c = 8) ∧ (p'.h = rb ∨ ∀ u, u < 8 → u ≠ t → (S.d u).c ≠ [] → (pl u).h ≠ p'.h)) :
    PAtD w' cb rb (put S t a) (upd V t V') (upd pl t p') F' := by
  have hne := H.ne
  have hout : ∀ i, (i < 3 + t * 4 ∨ 3 + t * 4 + 4 ≤ i) → ¬ zone cb rb S pl t ⟨cb, i, none⟩ := by
    intro i hi hz
    rcases hz with ⟨_, h1, h2⟩ | ⟨h1, _⟩ | ⟨h1, h2, _⟩
    · simp only at h1 h2; omega
    · exact hne h1
    · exact (H.place t ht h1).1 h2.symm
  refine ⟨hk.has _ _ H.kind (hout 0 (by omega)), hk.has _ _ H.top (hout 1 (by omega)), hk.has _ _ H.value (hout 2 (by omega)), fun u hu => ?_, fun h => hk.has _ _ (H.room h) (hout 35 (by omega)), fun h j hj => ?_, fun u hu => ?_, fun u hu => ?_, hF _ H.cF, fun h => hF _ (H.rF h), fun u hu => ?_, hne, fun u hu => ?_, fun u v hu hv huv => ?_⟩
  · by_cases e : u = t
    · subst e; rw [put_d, if_pos rfl, upd_same]; exact ha
    · rw [put_d, if_neg e, upd_other _ _ _ e]
      obtain ⟨h1, h2, h3, h4⟩ := H.acc u hu
      exact ⟨hk.has _ _ h1 (hout _ (by omega)), hk.has _ _ h2 (hout _ (by omega)), hk.has _ _ h3 (hout _ (by omega)), hk.has _ _ h4 (hout _ (by omega))⟩
  · obtain ⟨x, hx⟩ := H.rooms h j hj
    exact hk.live _ _ hx
  · by_cases e : u = t
    · subst e; rw [put_d, if_pos rfl, upd_same, upd_same]; exact fun h => (hc h).1
    · rw [put_d, if_neg e, upd_other _ _ _ e, upd_other _ _ _ e]
      intro h
      refine (H.cand u hu h).keep hk (fun k hkc hz => ?_)
      obtain ⟨p1, p2⟩ := H.place u hu h
      rcases hz with ⟨h1, _⟩ | ⟨h1, h2, h3⟩ | ⟨h1, h2, h3⟩
      · exact p1 h1
      · obtain ⟨p3, p4⟩ := p2 h1
        simp only at h2 h3; omega
      · exact h3 ((H.apart t u ht hu (fun e2 => e e2.symm) h1 h h2.symm))
  · by_cases e : u = t
    · subst e; rw [put_d, if_pos rfl, upd_same]; exact hn
    · rw [put_d, if_neg e, upd_other _ _ _ e]; exact H.nil u hu
  · by_cases e : u = t
    · subst e; rw [put_d, if_pos rfl, upd_same]; exact fun h => (hc h).2.2.1
    · rw [put_d, if_neg e, upd_other _ _ _ e]; exact fun h => hF _ (H.pF u hu h)
  · by_cases e : u = t
    · subst e; rw [put_d, if_pos rfl, upd_same]; exact fun h => ⟨(hc h).2.1, (hc h).2.2.2.1⟩
    · rw [put_d, if_neg e, upd_other _ _ _ e]; exact H.place u hu
  · rw [put_d, put_d]
    by_cases e : u = t
    · subst e
      rw [if_pos rfl, if_neg (fun e => huv e.symm), upd_same, upd_other _ _ _ (fun e => huv e.symm)]
      intro h1 h2 h3
      rcases (hc h1).2.2.2.2 with h | h
      · exact h
      · exact absurd h3.symm (h v hv (fun e => huv e.symm) h2)
    · by_cases e' : v = t
      · subst e'
        rw [if_neg e, if_pos rfl, upd_same, upd_other _ _ _ e]
        intro h1 h2 h3
        rcases (hc h2).2.2.2.2 with h | h
        · rw [h3]; exact h
        · exact absurd h3 (h u hu e h1)
      · rw [if_neg e, if_neg e', upd_other _ _ _ e, upd_other _ _ _ e']
        exact H.apart u v hu hv huv
theorem PAtD.slot (H : PAtD w cb rb S V pl F) {t : Nat} (ht : t < 8) : ∃ A n c, V t = .slice A n c := by
  by_cases h : (S.d t).c = []
  · exact ⟨none, 0, 0, H.nil t ht h⟩
  · exact ⟨_, _, _, (H.cand t ht h).v⟩
theorem PAtD.mono (H : PAtD w cb rb S V pl F) (hF : ∀ b, F b → F' b) : PAtD w cb rb S V pl F' :=
  ⟨H.kind, H.top, H.value, H.acc, H.room, H.rooms, H.cand, H.nil, hF _ H.cF, fun h => hF _ (H.rF h), fun t ht h => hF _ (H.pF t ht h), H.ne, H.place, H.apart⟩
/-- What writes elsewhere leaves it. -/
theorem PAtD.keep (H : PAtD w cb rb S V pl F) {G : Addr → Prop} (hk : Kept G w w') (hG : ∀ p, G p → ¬ F p.block) : PAtD w' cb rb S V pl F :=
  ⟨hk.has _ _ H.kind (fun h => hG _ h H.cF), hk.has _ _ H.top (fun h => hG _ h H.cF), hk.has _ _ H.value (fun h => hG _ h H.cF),
    fun t ht => ⟨hk.has _ _ (H.acc t ht).k (fun h => hG _ h H.cF), hk.has _ _ (H.acc t ht).w_ (fun h => hG _ h H.cF), hk.has _ _ (H.acc t ht).m (fun h => hG _ h H.cF), hk.has _ _ (H.acc t ht).c (fun h => hG _ h H.cF)⟩,
    fun h => hk.has _ _ (H.room h) (fun h => hG _ h H.cF), fun h j hj => by
      obtain ⟨x, hx⟩ := H.rooms h j hj
      exact hk.live _ _ hx,
    fun t ht h => (H.cand t ht h).keep hk (fun k _ hg => hG _ hg (H.pF t ht h)), H.nil, H.cF, H.rF, H.pF, H.ne, H.place, H.apart⟩
theorem PAtD.setV (H : PAtD w cb rb S V pl F) (v : Int) : PAtD (w.setCell ⟨cb, 2, none⟩ (.int .i64 v)) cb rb (setV S v) V pl F := by
  have hne : ∀ i, i ≠ 2 → (⟨cb, 2, none⟩ : Addr) ≠ ⟨cb, i, none⟩ := fun i hi e => hi (by simp only [Addr.mk.injEq] at e; omega)
  have hk : Kept (fun q => q = (⟨cb, 2, none⟩ : Addr)) w (w.setCell ⟨cb, 2, none⟩ (.int .i64 v)) := kept_set _ _ _
  have h0 : ∀ i, i ≠ 2 → ¬ ((⟨cb, i, none⟩ : Addr) = ⟨cb, 2, none⟩) := fun i hi e => hne i hi e.symm
  exact ⟨hk.has _ _ H.kind (h0 _ (by omega)), hk.has _ _ H.top (h0 _ (by omega)), H.value.same,
    fun t ht => ⟨hk.has _ _ (H.acc t ht).k (h0 _ (by omega)), hk.has _ _ (H.acc t ht).w_ (h0 _ (by omega)), hk.has _ _ (H.acc t ht).m (h0 _ (by omega)), hk.has _ _ (H.acc t ht).c (h0 _ (by omega))⟩,
    fun h => hk.has _ _ (H.room h) (h0 _ (by omega)), fun h j hj => by
      obtain ⟨x, hx⟩ := H.rooms h j hj
      exact hk.live _ _ hx,
    fun t ht h => (H.cand t ht h).keep hk (fun k _ hg => (H.place t ht h).1 (by simp only [Addr.mk.injEq] at hg; exact hg.1)), H.nil, H.cF, H.rF, H.pF, H.ne, H.place, H.apart⟩
/-- A read that is under way has met a write. -/
theorem PAtD.over (H : PAtD w cb rb S V pl F) {t n : Nat} (ht : t < 8) (hG : CellM.Good S n) (hk1 : (S.d t).k = 1) {v : Int} {V' : Value} {p' : Pl} (ho : Over w w' S.kind v cb (3 + t * 4) (S.d t) (V t) (pl t) V' p')
    (hF : ∀ b, F b ∨ w.heap.size ≤ b → F' b) : PAtD w' cb rb (put S t (over S.kind (S.d t) v)) (upd V t V') (upd pl t p') F' := by
  refine H.set ht (ho.kept.mono ?_) ho.acc (fun b hb => hF b (.inl hb)) (fun h => ?_) (fun h => ?_)
  · rintro q (rfl | rfl | ⟨h2, hl, rfl⟩)
    · exact .inl ⟨rfl, by simp only; omega, by simp only; omega⟩
    · exact .inl ⟨rfl, by simp only; omega, by simp only; omega⟩
    · have hne := hG.r t h2 hk1
      by_cases hr : (pl t).h = rb
      · obtain ⟨p1, p2⟩ := (H.place t ht hne).2 hr
        exact .inr (.inl ⟨hr, by simp only; omega, by simp only; omega⟩)
      · exact .inr (.inr ⟨hne, rfl, hr⟩)
  · rw [over_c] at h
    by_cases h2 : S.kind = 2
    · rw [if_pos h2] at h; simp at h
    · rw [if_neg h2] at h
      rw [(ho.stays h2).1]; exact H.nil t ht h
  · rw [over_c] at h ⊢
    by_cases h2 : S.kind = 2
    · rw [if_pos h2] at h ⊢
      have hne := hG.r t h2 hk1
      refine ⟨ho.cand h2, ?_⟩
      rcases ho.place h2 with rfl | hnew
      · refine ⟨(H.place t ht hne).1, hF _ (.inl (H.pF t ht hne)), (H.place t ht hne).2, ?_⟩
        by_cases hr : (pl t).h = rb
        · exact .inl hr
        · exact .inr (fun u hu hut hc he => hr (H.apart t u ht hu (fun e => hut e.symm) hne hc he.symm))
      · have hcb : cb < w.heap.size := H.kind.lt
        refine ⟨by omega, hF _ (.inr hnew), fun e => ?_, .inr (fun u hu _ hc he => ?_)⟩
        · obtain ⟨x, hx⟩ := H.rooms h2 0 (by omega)
          have : rb < w.heap.size := hx.lt
          omega
        · have := (H.cand u hu hc).lt hc
          omega
    · rw [if_neg h2] at h
      exact absurd (hG.c t h).1 h2
end
/-- The cell behind cb, its blocks among F's. -/
def PAt (w : World) (cb : Nat) (S : St) (F : Nat → Prop) : Prop := ∃ rb V pl, PAtD w cb rb S V pl F
section
variable {w w' : World} {cb : Nat} {S : St} {F F' : Nat → Prop}
theorem PAt.mono (H : PAt w cb S F) (hF : ∀ b, F b → F' b) : PAt w cb S F' := by
  obtain ⟨rb, V, pl, h⟩ := H
  exact ⟨rb, V, pl, h.mono hF⟩
theorem PAt.keep (H : PAt w cb S F) {G : Addr → Prop} (hk : Kept G w w') (hG : ∀ p, G p → ¬ F p.block) : PAt w' cb S F := by
  obtain ⟨rb, V, pl, h⟩ := H
  exact ⟨rb, V, pl, h.keep hk hG⟩
theorem PAt.below (H : PAt w cb S F) (hb : Below w.heap.size w w') : PAt w' cb S F := H.keep (G := fun _ => False) (.below hb) (fun _ h => h.elim)
theorem PAt.alloc (H : PAt w cb S F) (o : Obj) : PAt (w.alloc o) cb S F := H.below ((Below.refl _ _).alloc (Nat.le_refl _) o)
theorem PAt.kind (H : PAt w cb S F) : Has w ⟨cb, 0, none⟩ (.int .i64 S.kind) := by obtain ⟨rb, V, pl, h⟩ := H; exact h.kind
theorem PAt.top (H : PAt w cb S F) : Has w ⟨cb, 1, none⟩ (.int .i64 S.top) := by obtain ⟨rb, V, pl, h⟩ := H; exact h.top
theorem PAt.value (H : PAt w cb S F) : Has w ⟨cb, 2, none⟩ (.int .i64 S.value) := by obtain ⟨rb, V, pl, h⟩ := H; exact h.value
theorem PAt.k (H : PAt w cb S F) {t : Nat} (ht : t < 8) : Has w ⟨cb, 3 + t * 4, none⟩ (.int .i64 (S.d t).k) := by obtain ⟨rb, V, pl, h⟩ := H; exact (h.acc t ht).k
end
/-- The four cells of an access, written. -/
def CellM.store4 (w : World) (g o : Nat) (a : CellM.Acc) (V : Value) : World :=
  (((w.setCell ⟨g, o, none⟩ (.int .i64 a.k)).setCell ⟨g, o + 1, none⟩ (.int .i64 a.w)).setCell ⟨g, o + 2, none⟩ (.bool a.m)).setCell ⟨g, o + 3, none⟩ V
theorem AccAt.store4 {w : World} {g o : Nat} {a b : CellM.Acc} {V U : Value} (h : AccAt w g o a V) : AccAt (store4 w g o b U) g o b U := by
  have hne : ∀ i j, i ≠ j → (⟨g, o + i, none⟩ : Addr) ≠ ⟨g, o + j, none⟩ := fun i j hi e => hi (by simp only [Addr.mk.injEq] at e; omega)
  have hne0 : ∀ j, j ≠ 0 → (⟨g, o + j, none⟩ : Addr) ≠ ⟨g, o, none⟩ := fun j hj e => hj (by simp only [Addr.mk.injEq] at e; omega)
  unfold CellM.store4
  exact ⟨((h.k.same.other (hne0 1 (by decide))).other (hne0 2 (by decide))).other (hne0 3 (by decide)),
    (((h.w_.other (fun e => hne0 1 (by decide) e.symm)).same).other (hne 2 1 (by decide))).other (hne 3 1 (by decide)),
    (((h.m.other (fun e => hne0 2 (by decide) e.symm)).other (hne 1 2 (by decide))).same).other (hne 3 2 (by decide)),
    (((h.c.other (fun e => hne0 3 (by decide) e.symm)).other (hne 1 3 (by decide))).other (hne 2 3 (by decide))).same⟩
theorem store4_kept (w : World) (g o : Nat) (a : CellM.Acc) (V : Value) : Kept (fun p => p.block = g ∧ o ≤ p.off ∧ p.off < o + 4) w (store4 w g o a V) :=
  ((((Kept.refl _ _).setCell ⟨rfl, Nat.le_refl _, by simp only; omega⟩ _).setCell ⟨rfl, by simp only; omega, by simp only; omega⟩ _).setCell ⟨rfl, by simp only; omega, by simp only; omega⟩ _).setCell ⟨rfl, by simp only; omega, by simp only; omega⟩ _
theorem store4_step (w : World) (g o : Nat) (a : CellM.Acc) (V : Value) {F : Nat → Prop} (hF : F g) : Step F w (store4 w g o a V) :=
  ((((Step.refl F w).setCell (p := ⟨g, o, none⟩) (.inl hF) _).setCell (p := ⟨g, o + 1, none⟩) (.inl hF) _).setCell (p := ⟨g, o + 2, none⟩) (.inl hF) _).setCell (p := ⟨g, o + 3, none⟩) (.inl hF) _
/-- What is none of a cell's own lists is put in its place. -/
theorem PAt.put0 {w : World} {cb : Nat} {S : St} {F : Nat → Prop} (H : PAt w cb S F) {t : Nat} (ht : t < 8) (k v : Int) (m : Bool) : PAt (store4 w cb (3 + t * 4) ⟨k, v, m, []⟩ (.slice none 0 0)) cb (put S t ⟨k, v, m, []⟩) F := by
  obtain ⟨rb, V, pl, h⟩ := H
  exact ⟨rb, _, _, h.set (p' := ⟨0, 0, 0⟩) ht ((store4_kept _ _ _ _ _).mono (fun p hp => .inl hp)) (h.acc t ht).store4 (fun _ hb => hb) (fun _ => rfl) (fun h => absurd rfl h)⟩
theorem meet_zero (S : St) (v : Int) : meet S v 0 = S := by
  unfold meet; simp
theorem meet_one {S : St} {v : Int} {n : Nat} (h : (S.d n).k = 1) : put (meet S v n) n (over (meet S v n).kind ((meet S v n).d n) v) = meet S v (n + 1) := by
  have e : (meet S v n).d n = S.d n := by simp [meet]
  rw [e]
  unfold put meet
  simp only [St.mk.injEq, true_and]
  funext i
  by_cases hi : i = n
  · subst hi; simp [h]
  · have : (i < n + 1) ↔ i < n := by omega
    simp [hi, this]
theorem meet_none {S : St} {v : Int} {n : Nat} (h : (S.d n).k ≠ 1) : meet S v n = meet S v (n + 1) := by
  unfold meet
  simp only [St.mk.injEq, true_and]
  funext i
  by_cases hi : i = n
  · subst hi; simp [h]
  · have : (i < n + 1) ↔ i < n := by omega
    simp [this]
end Go.Proofs.Ytdfkmkflcnfchaa
