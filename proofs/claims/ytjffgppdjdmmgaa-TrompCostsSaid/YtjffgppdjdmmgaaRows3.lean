/- An object in memory: a head of three cells, three rows behind them, a list of answers elsewhere. Own work. -/
import Derived.Test.YtjffgppdjdmmgaaRowG
import Derived.Test.YtjffgppdjdmmgaaTape
namespace Go.Proofs.Ytjffgppdjdmmgaa
open Go.ChangeShapes Go.WideShapes Go.ChangeAt Go.RowKit CellM TapeM

/-! Elements of k cells, one behind the other. -/
section
variable {α : Type} {f : α → List Value} {k : Nat}
theorem fm_len (hf : ∀ a, (f a).length = k) : ∀ L : List α, (L.flatMap f).length = L.length * k
  | [] => by simp
  | e :: L => by rw [List.flatMap_cons, List.length_append, hf, fm_len hf L, List.length_cons, Nat.add_mul, Nat.one_mul, Nat.add_comm]
theorem fm_at (hf : ∀ a, (f a).length = k) : ∀ (L : List α) (i : Nat) (e : α) (q : Nat) (x : Value), L[i]? = some e → (f e)[q]? = some x → (L.flatMap f)[i * k + q]? = some x
  | [], _, _, _, _, h, _ => by simp at h
  | a :: L, 0, e, q, x, h, hx => by
    simp at h; subst h
    have hq := (List.getElem?_eq_some_iff.1 hx).1
    rw [Nat.zero_mul, Nat.zero_add, List.flatMap_cons, List.getElem?_append_left hq]; exact hx
  | a :: L, i + 1, e, q, x, h, hx => by
    have e1 : (i + 1) * k = k + i * k := by rw [Nat.add_mul, Nat.one_mul, Nat.add_comm]
    rw [List.flatMap_cons, e1, List.getElem?_append_right (by rw [hf]; omega), hf, show k + i * k + q - k = i * k + q by omega]
    exact fm_at hf L i e q x (by simpa using h) hx
end
def cellsAc (a : TapeM.Ac) : List Value := [.int .i64 a.k, .int .i64 a.c, .int .i64 a.v]
def cellsNt (a : Nt) : List Value := [.int .i64 a.k, .int .i64 a.a]
def flatAc (L : List TapeM.Ac) : List Value := L.flatMap cellsAc
def flatNt (L : List Nt) : List Value := L.flatMap cellsNt
def kk : Nat → Nat
  | 0 => 3
  | 1 => 2
  | _ => 1
def nn (S : TS) : Nat → Nat
  | 0 => S.acc.length
  | 1 => S.nts.length
  | _ => S.loc.length
def xx (S : TS) : Nat → List Value
  | 0 => flatAc S.acc
  | 1 => flatNt S.nts
  | _ => valsI S.loc

structure Rows3 (w : World) (mb : Nat) (n : Nat → Nat) (xs : Nat → List Value) (F : Nat → Prop) (A : Nat → Option Addr) (h c : Nat → Nat) : Prop where
  p : ∀ i, i < 3 → Has w ⟨mb, 3 + i, none⟩ (.slice (A i) (n i) (c i))
  r : ∀ i, i < 3 → RowK w (kk i) (A i) (h i) (c i) (n i) (xs i)
  bF : F mb
  rF : ∀ i, i < 3 → c i ≠ 0 → F (h i)
  ne : ∀ i, i < 3 → c i ≠ 0 → h i ≠ mb
  dd : ∀ i j, i < 3 → j < 3 → i ≠ j → c i ≠ 0 → c j ≠ 0 → h i ≠ h j
theorem kk_pos (i : Nat) : 0 < kk i := by unfold kk; split <;> decide
section
variable {w w' w1 : World} {mb : Nat} {n n2 : Nat → Nat} {xs xs2 : Nat → List Value} {F F' : Nat → Prop} {A : Nat → Option Addr} {h c : Nat → Nat}
theorem Rows3.mono (H : Rows3 w mb n xs F A h c) (hF : ∀ b, F b → F' b) : Rows3 w mb n xs F' A h c :=
  ⟨H.p, H.r, hF _ H.bF, fun i hi hc => hF _ (H.rF i hi hc), H.ne, H.dd⟩
theorem Rows3.keep (H : Rows3 w mb n xs F A h c) {G : Addr → Prop} (hk : Kept G w w') (h0 : ∀ i, i < 3 → ¬ G ⟨mb, 3 + i, none⟩) (hr : ∀ i, i < 3 → c i ≠ 0 → ∀ j, ¬ G ⟨h i, j, none⟩) : Rows3 w' mb n xs F A h c :=
  ⟨fun i hi => hk.has _ _ (H.p i hi) (h0 i hi), fun i hi => (H.r i hi).keep hk (fun j hj => hr i hi (fun e => by rw [e] at hj; omega) j), H.bF, H.rF, H.ne, H.dd⟩
theorem Rows3.lt (H : Rows3 w mb n xs F A h c) {i : Nat} (hi : i < 3) (hc : c i ≠ 0) : h i < w.heap.size := (H.r i hi).lt (kk_pos i) hc
theorem Rows3.app (H : Rows3 w mb n xs F A h c) {i : Nat} (hi : i < 3) {v' : Value} {n' : Nat} {xs' : List Value} (hO : Onto w w1 v' (kk i) (h i) (c i) n' xs')
    (hn : ∀ j, n2 j = if j = i then n' else n j) (hx : ∀ j, xs2 j = if j = i then xs' else xs j) :
    (∃ A' h' c', Rows3 (w1.setCell ⟨mb, 3 + i, none⟩ v') mb n2 xs2 (More w F) A' h' c') ∧ Step F w (w1.setCell ⟨mb, 3 + i, none⟩ v') ∧
      Kept (fun p => p = ⟨mb, 3 + i, none⟩ ∨ (c i ≠ 0 ∧ p.block = h i)) w (w1.setCell ⟨mb, 3 + i, none⟩ v') := by
  obtain ⟨A', h', c', hv, hr, hp⟩ := hO.ex
  have hk : Kept (fun p => p = ⟨mb, 3 + i, none⟩ ∨ (c i ≠ 0 ∧ p.block = h i)) w (w1.setCell ⟨mb, 3 + i, none⟩ v') := (hO.kept.mono (fun p hp => .inr hp)).setCell (.inl rfl) _
  have hmb : mb < w.heap.size := (H.p 0 (by decide)).lt
  have hnew : h' = h i ∧ c' = c i ∧ c i ≠ 0 ∨ w.heap.size ≤ h' := hp
  have hne' : c' ≠ 0 → h' ≠ mb := by
    intro hc
    rcases hnew with ⟨h1, h2, h3⟩ | h1
    · rw [h1]; exact H.ne i hi h3
    · omega
  have hdis : ∀ j, j < 3 → j ≠ i → c j ≠ 0 → c' ≠ 0 → h j ≠ h' := by
    intro j hj hji hcj _
    rcases hnew with ⟨h1, h2, h3⟩ | h1
    · rw [h1]; exact H.dd j i hj hi hji hcj h3
    · have := H.lt hj hcj; omega
  refine ⟨⟨fun j => if j = i then A' else A j, fun j => if j = i then h' else h j, fun j => if j = i then c' else c j, fun j hj => ?_, fun j hj => ?_, .inl H.bF, fun j hj hc => ?_, fun j hj hc => ?_, fun j q hj hq hjq hcj hcq => ?_⟩, ?_, hk⟩
  · rw [hn]
    by_cases e : j = i
    · subst e
      simp only [if_true]
      have h1 : Has w1 ⟨mb, 3 + j, none⟩ (.slice (A j) (n j) (c j)) := hO.kept.has _ _ (H.p j hj) (fun hp => H.ne j hj hp.1 hp.2.symm)
      rw [← hv]
      exact h1.same
    · simp only [if_neg e]
      refine hk.has _ _ (H.p j hj) (fun hp => ?_)
      rcases hp with hp | hp
      · simp only [Addr.mk.injEq] at hp; omega
      · exact H.ne i hi hp.1 hp.2.symm
  · rw [hn, hx]
    by_cases e : j = i
    · subst e
      simp only [if_true]
      refine hr.keep (kept_set w1 ⟨mb, 3 + j, none⟩ v') (fun q hq hp => ?_)
      have hc0 : c' ≠ 0 := fun e => by rw [e] at hq; omega
      simp only [Addr.mk.injEq] at hp
      exact hne' hc0 hp.1
    · simp only [if_neg e]
      refine (H.r j hj).keep hk (fun q hq hp => ?_)
      have hc0 : c j ≠ 0 := fun e => by rw [e] at hq; omega
      rcases hp with hp | hp
      · simp only [Addr.mk.injEq] at hp; exact H.ne j hj hc0 hp.1
      · exact H.dd j i hj hi e hc0 hp.1 hp.2
  · by_cases e : j = i
    · subst e
      simp only [if_true] at hc ⊢
      rcases hnew with ⟨h1, h2, h3⟩ | h1
      · rw [h1]; exact .inl (H.rF j hj h3)
      · exact .inr h1
    · simp only [if_neg e] at hc ⊢
      exact .inl (H.rF j hj hc)
  · by_cases e : j = i
    · simp only [if_pos e] at hc ⊢; exact hne' hc
    · simp only [if_neg e] at hc ⊢; exact H.ne j hj hc
  · by_cases e : j = i
    · by_cases e' : q = i
      · exact absurd (e.trans e'.symm) hjq
      · simp only [if_pos e, if_neg e'] at hcj hcq ⊢
        exact (hdis q hq e' hcq hcj).symm
    · by_cases e' : q = i
      · simp only [if_neg e, if_pos e'] at hcj hcq ⊢
        exact hdis j hj e hcj hcq
      · simp only [if_neg e, if_neg e'] at hcj hcq ⊢
        exact H.dd j q hj hq hjq hcj hcq
  · refine ⟨hk.mono (fun p hp => ?_), fun B hB hs => ?_, fun b hb hf => ?_⟩
    · rcases hp with rfl | hp
      · exact H.bF
      · rw [hp.2]; exact H.rF i hi hp.1
    · exact (hO.below B (fun hc => hB _ (H.rF i hi hc)) hs).setCell (hB _ H.bF) _
    · rw [Below.heap_setCell _ _ _ _ (fun e => hf (by rw [e]; exact H.bF))]
      exact hO.block b hb (fun hc e => hf (by rw [e]; exact H.rF i hi hc))
theorem Rows3.setI (H : Rows3 w mb n xs F A h c) {l : List Int} (hl : xs 2 = valsI l) {i : Nat} (hi : i < n 2) (v : Int) (hx : ∀ j, xs2 j = if j = 2 then valsI (l.set i v) else xs j) :
    Rows3 (w.setCell ⟨h 2, i, none⟩ (.int .i64 v)) mb n xs2 F A h c ∧ Step F w (w.setCell ⟨h 2, i, none⟩ (.int .i64 v)) ∧ h 2 ≠ mb := by
  have hr := H.r 2 (by decide)
  have hc : c 2 ≠ 0 := (hr.get hi).2
  rw [hl] at hr
  have hne := H.ne 2 (by decide) hc
  have hk := kept_set w ⟨h 2, i, none⟩ (.int .i64 v)
  refine ⟨⟨fun j hj => hk.has _ _ (H.p j hj) (fun e => hne (by simp only [Addr.mk.injEq] at e; exact e.1.symm)), fun j hj => ?_, H.bF, H.rF, H.ne, H.dd⟩, (Step.refl F w).setCell (.inl (H.rF 2 (by decide) hc)) _, hne⟩
  rw [hx]
  by_cases e : j = 2
  · subst e; exact hr.setI hi v
  · simp only [if_neg e]
    refine (H.r j hj).keep hk (fun q hq hp => ?_)
    have hc0 : c j ≠ 0 := fun e => by rw [e] at hq; omega
    simp only [Addr.mk.injEq] at hp
    exact H.dd j 2 hj (by decide) e hc0 hc hp.1
end
/-- The head's three cells. -/
def v3 (a b c : Value) : Nat → Value
  | 0 => a
  | 1 => b
  | _ => c
structure TAtD (w : World) (mb : Nat) (v : Nat → Value) (AA : Option Addr) (ac : Nat) (ans : List Int) (S : TS) (F : Nat → Prop) (A : Nat → Option Addr) (h c : Nat → Nat) : Prop where
  hd : ∀ i, i < 3 → Has w ⟨mb, i, none⟩ (v i)
  ri : RI w AA ac ans
  rf : ∀ ad, AA = some ad → ans ≠ [] → ¬ F ad.block
  rows : Rows3 w mb (nn S) (xx S) F A h c
/-- The object behind mb, its blocks F's. -/
def TAt (w : World) (mb : Nat) (v : Nat → Value) (AA : Option Addr) (ac : Nat) (ans : List Int) (S : TS) (F : Nat → Prop) : Prop := ∃ A h c, TAtD w mb v AA ac ans S F A h c
structure TNow (w w' : World) (mb : Nat) (v : Nat → Value) (AA : Option Addr) (ac : Nat) (ans : List Int) (S : TS) (F : Nat → Prop) : Prop where
  at_ : TAt w' mb v AA ac ans S (More w F)
  step : Step F w w'
section
variable {w w' w1 : World} {mb : Nat} {v v2 : Nat → Value} {AA : Option Addr} {ac : Nat} {ans : List Int} {S T : TS} {F G : Nat → Prop} {A : Nat → Option Addr} {h c : Nat → Nat}
theorem ri_block {l : List Int} {cc : Nat} (hr : RI w AA cc l) (hne : l ≠ []) : ∃ ad, AA = some ad ∧ ad.block < w.heap.size := by
  have h0 : 0 < l.length := by cases l with | nil => exact absurd rfl hne | cons x l => simp
  obtain ⟨ad, e, hc⟩ := hr.at_ h0
  have := cell_lt hc
  rw [add_block] at this
  exact ⟨ad, e, this⟩
theorem ri_step {l : List Int} {cc : Nat} (hr : RI w AA cc l) (hs : Step F w w') (hf : ∀ ad, AA = some ad → l ≠ [] → ¬ F ad.block) : RI w' AA cc l :=
  ⟨hr.1, hr.2.1, hr.2.2.1, fun k hk => by
    obtain ⟨ad, e, hc⟩ := hr.at_ hk
    have hne : l ≠ [] := fun e => by rw [e] at hk; simp at hk
    have hb : (ad.add k).block < w.heap.size := cell_lt hc
    exact ⟨ad, e, (World.cell?_of_block (w := w) (hs.block _ hb (by rw [add_block]; exact hf ad e hne))).trans hc⟩⟩
theorem TAtD.more (H : TAtD w mb v AA ac ans S F A h c) : ∀ ad, AA = some ad → ans ≠ [] → ¬ More w F ad.block := by
  intro ad e hne hm
  rcases hm with hm | hm
  · exact H.rf ad e hne hm
  · obtain ⟨ad', e', hb⟩ := ri_block H.ri hne
    rw [e] at e'
    cases e'
    omega
theorem TAtD.grow (H : TAtD w mb v AA ac ans S F A h c) (hb : Below w.heap.size w w') : TAtD w' mb v AA ac ans S F A h c :=
  ⟨fun i hi => (H.hd i hi).below hb (H.hd i hi).lt, H.ri.below hb, H.rf, H.rows.keep (G := fun _ => False) (.below hb) (fun _ _ h => h) (fun _ _ _ _ h => h)⟩
theorem TAt.grow (H : TAt w mb v AA ac ans S F) (hb : Below w.heap.size w w') : TAt w' mb v AA ac ans S F := by
  obtain ⟨A, h, c, H⟩ := H
  exact ⟨A, h, c, H.grow hb⟩
theorem TNow.of (H : TAt w mb v AA ac ans S F) (hb : Below w.heap.size w w') : TNow w w' mb v AA ac ans S F := by
  obtain ⟨A, h, c, H⟩ := H
  have H2 := H.grow hb
  exact ⟨⟨A, h, c, H2.hd, H2.ri, H.more, H2.rows.mono (fun _ h => .inl h)⟩, .of_below hb⟩
theorem TNow.before (hb : Below w.heap.size w w1) (H : TNow w1 w' mb v AA ac ans S F) (hrf : ∀ ad, AA = some ad → ans ≠ [] → ¬ More w F ad.block) : TNow w w' mb v AA ac ans S F := by
  obtain ⟨⟨A, h, c, H1⟩, hs⟩ := H
  refine ⟨⟨A, h, c, H1.hd, H1.ri, hrf, H1.rows.mono (fun b hm => ?_)⟩, (Step.of_below (F := F) hb).trans hs⟩
  rcases hm with hm | hm
  · exact .inl hm
  · exact .inr (Nat.le_trans hb.size hm)
theorem TNow.after (H : TNow w w1 mb v AA ac ans S F) (hb : Below w1.heap.size w1 w') : TNow w w' mb v AA ac ans S F := ⟨H.at_.grow hb, H.step.trans (.of_below hb)⟩
/-- Two calls, one behind the other. -/
theorem TNow.trans (H : TNow w w1 mb v AA ac ans S F) (H2 : TNow w1 w' mb v2 AA ac ans T (More w F)) : TNow w w' mb v2 AA ac ans T F := by
  obtain ⟨⟨A, h, c, H1⟩, hs⟩ := H
  obtain ⟨⟨A2, h2, c2, H3⟩, hs2⟩ := H2
  exact ⟨⟨A2, h2, c2, H3.hd, H3.ri, H1.rf, H3.rows.mono (more_more hs.kept.size)⟩, hs.trans' hs2 (fun _ hb => hb)⟩
/-- A row grows. -/
theorem TAtD.app (H : TAtD w mb v AA ac ans S F A h c) {i : Nat} (hi : i < 3) {v' : Value} {n' : Nat} {xs' : List Value} (hO : Onto w w1 v' (kk i) (h i) (c i) n' xs')
    (hn : ∀ j, j < 3 → nn T j = if j = i then n' else nn S j) (hx : ∀ j, j < 3 → xx T j = if j = i then xs' else xx S j) : TNow w (w1.setCell ⟨mb, 3 + i, none⟩ v') mb v AA ac ans T F := by
  obtain ⟨⟨A', h', c', h1⟩, h2, h3⟩ := H.rows.app (n2 := fun j => if j = i then n' else nn S j) (xs2 := fun j => if j = i then xs' else xx S j) hi hO (fun _ => rfl) (fun _ => rfl)
  refine ⟨⟨A', h', c', fun j hj => h3.has _ _ (H.hd j hj) (fun hp => ?_), ri_step H.ri h2 H.rf, H.more, fun j hj => ?_, fun j hj => ?_, h1.bF, h1.rF, h1.ne, h1.dd⟩, h2⟩
  · rcases hp with hp | hp
    · simp only [Addr.mk.injEq] at hp; omega
    · exact H.rows.ne i hi hp.1 hp.2.symm
  · rw [hn j hj]; exact h1.p j hj
  · rw [hn j hj, hx j hj]; exact h1.r j hj
/-- A local is set. -/
theorem TAtD.setI (H : TAtD w mb v AA ac ans S F A h c) {i : Nat} (hi : i < S.loc.length) (x : Int) : TNow w (w.setCell ⟨h 2, i, none⟩ (.int .i64 x)) mb v AA ac ans ⟨S.acc, S.nts, S.loc.set i x⟩ F := by
  obtain ⟨h1, h2, h3⟩ := H.rows.setI (xs2 := fun j => if j = 2 then valsI (S.loc.set i x) else xx S j) (l := S.loc) rfl hi x (fun _ => rfl)
  refine ⟨⟨A, h, c, fun j hj => (H.hd j hj).other (fun e => h3 (by simp only [Addr.mk.injEq] at e; exact e.1)), ri_step H.ri h2 H.rf, H.more, fun j hj => ?_, fun j hj => ?_, .inl h1.bF, fun j hj hc => .inl (h1.rF j hj hc), h1.ne, h1.dd⟩, h2⟩
  · have : nn ⟨S.acc, S.nts, S.loc.set i x⟩ j = nn S j := by unfold nn; split <;> simp
    rw [this]; exact h1.p j hj
  · have e1 : nn ⟨S.acc, S.nts, S.loc.set i x⟩ j = nn S j := by unfold nn; split <;> simp
    have e2 : xx ⟨S.acc, S.nts, S.loc.set i x⟩ j = if j = 2 then valsI (S.loc.set i x) else xx S j := by
      match j, hj with
      | 0, _ => rfl
      | 1, _ => rfl
      | 2, _ => rfl
    rw [e1, e2]; exact h1.r j hj
/-- The head is set. -/
theorem TAtD.setH (H : TAtD w mb v AA ac ans S F A h c) {i : Nat} (hi : i < 3) {x : Value} (hv : ∀ j, j < 3 → v2 j = if j = i then x else v j) : TNow w (w.setCell ⟨mb, i, none⟩ x) mb v2 AA ac ans S F := by
  have hk := kept_set w ⟨mb, i, none⟩ x
  have hs : Step F w (w.setCell ⟨mb, i, none⟩ x) := (Step.refl F w).setCell (p := ⟨mb, i, none⟩) (.inl H.rows.bF) x
  refine ⟨⟨A, h, c, fun j hj => ?_, ri_step H.ri hs H.rf, H.more, (H.rows.keep hk (fun j hj e => ?_) (fun j hj hc q e => ?_)).mono (fun _ h => .inl h)⟩, hs⟩
  · rw [hv j hj]
    by_cases e : j = i
    · subst e; rw [if_pos rfl]; exact (H.hd j hj).same
    · rw [if_neg e]; exact (H.hd j hj).other (fun e2 => e (by simp only [Addr.mk.injEq] at e2; omega))
  · simp only [Addr.mk.injEq] at e; omega
  · simp only [Addr.mk.injEq] at e; exact H.rows.ne j hj hc e.1
end
end Go.Proofs.Ytjffgppdjdmmgaa
