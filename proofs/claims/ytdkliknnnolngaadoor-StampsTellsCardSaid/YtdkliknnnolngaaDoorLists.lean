/- Slices of slices of ints: what they read as (nil let in), cuts, what a call owns of them, append of any such. Own work. -/
import Derived.Test.YtdkliknnnolngaaDoorCycR2
import Derived.Laws.AppendOwnNone
import Derived.RegionTactic
namespace Go.Proofs.YtdkliknnnolngaaDoor
open Go.ChangeShapes Go.WideShapes Go.ChangeAt Go.RowKit Cyc

theorem infoInts : (Tryd.prog.info? 31).map (fun i => (i.zero, i.size, i.bytes)) = some (some (.slice none 0 0), 1, 24) := by kernel_rfl
/-- The slice's places hold the values vs. -/
def RV (w : World) (A : Option Addr) (c : Nat) (vs : List Value) : Prop :=
  vs.length ≤ c ∧ c ≤ maxLen ∧ (A = none → c = 0) ∧ ∀ k (h : k < vs.length), ∃ ad, A = some ad ∧ w.cell? (ad.add k) = some vs[k]
section
variable {w w' : World} {B c : Nat} {A : Option Addr} {vs us : List Value}
theorem RV.len (h : RV w A c vs) : vs.length ≤ c := h.1
theorem RV.max (h : RV w A c vs) : vs.length ≤ maxLen := Nat.le_trans h.1 h.2.1
theorem RV.at_ (h : RV w A c vs) {k : Nat} (hk : k < vs.length) : ∃ ad, A = some ad ∧ w.cell? (ad.add k) = some vs[k] := h.2.2.2 k hk
theorem RV.keep (h : RV w A c vs) (hk : ∀ p x, w.cell? p = some x → w'.cell? p = some x) : RV w' A c vs :=
  ⟨h.1, h.2.1, h.2.2.1, fun k hl => by
    obtain ⟨ad, e, hc⟩ := h.2.2.2 k hl
    exact ⟨ad, e, hk _ _ hc⟩⟩
theorem RV.below (h : RV w A c vs) (hb : Below w.heap.size w w') : RV w' A c vs := h.keep fun _ _ hc => (hb.cell (cell_lt hc)).trans hc
theorem RV.drewN (h : RV w A c vs) (n : Nat) : RV (w.drewN n) A c vs := h
theorem RV.nil (w : World) : RV w none 0 [] := ⟨Nat.le_refl _, Nat.zero_le _, fun _ => rfl, fun k hk => absurd hk (by simp)⟩
theorem RV.take (h : RV w A c vs) (k : Nat) : RV w A c (vs.take k) := by
  refine ⟨by have := h.1; rw [List.length_take]; omega, h.2.1, h.2.2.1, fun j hj => ?_⟩
  rw [List.length_take] at hj
  obtain ⟨ad, e, hc⟩ := h.2.2.2 j (by omega)
  exact ⟨ad, e, by rw [List.getElem_take]; exact hc⟩
theorem RV.cut (h : RV w A c vs) {k : Nat} (hk : k ≤ vs.length) : RV w (if c = k then A else A.map (·.add (k * 1))) (c - k) (vs.drop k) := by
  refine ⟨by rw [List.length_drop]; have := h.1; omega, by have := h.2.1; omega, fun e => ?_, fun j hj => ?_⟩
  · split at e
    · omega
    · have : A = none := by cases A <;> simp_all
      have := h.2.2.1 this; omega
  · rw [List.length_drop] at hj
    obtain ⟨ad, rfl, hc⟩ := h.2.2.2 (k + j) (by omega)
    rw [if_neg (by have := h.1; omega)]
    refine ⟨ad.add (k * 1), rfl, ?_⟩
    rw [add_add, Nat.mul_one, hc, List.getElem_drop]
end
/-- The value is a slice that reads as the ints l. -/
def VI (w : World) (v : Value) (l : List Int) : Prop := ∃ A c, v = .slice A l.length c ∧ RI w A c l
section
variable {w w' : World} {B c : Nat} {A : Option Addr} {v : Value} {l : List Int} {vs us : List Value} {L M : List (List Int)}
theorem VI.keep (h : VI w v l) (hk : ∀ p x, w.cell? p = some x → w'.cell? p = some x) : VI w' v l := by
  obtain ⟨A, c, e, hr⟩ := h
  exact ⟨A, c, e, hr.keep hk⟩
theorem VI.below (h : VI w v l) (hb : Below w.heap.size w w') : VI w' v l := h.keep fun _ _ hc => (hb.cell (cell_lt hc)).trans hc
theorem VI.of (h : RI w A c l) : VI w (.slice A l.length c) l := ⟨A, c, rfl, h⟩
theorem VI.of_len (h : RI w A c l) {n : Nat} (hn : l.length = n) : VI w (.slice A n c) l := ⟨A, c, by rw [hn], h⟩
theorem VI.one (h : VI w v l) : v.oneCell' = true := by obtain ⟨A, c, rfl, _⟩ := h; rfl
/-- The values are slices that read as the rows L. -/
def Vals (w : World) (vs : List Value) (L : List (List Int)) : Prop := vs.length = L.length ∧ ∀ (k : Nat) (l : List Int), L[k]? = some l → ∃ u, vs[k]? = some u ∧ VI w u l
theorem Vals.nil (w : World) : Vals w [] [] := ⟨rfl, fun k l h => by simp at h⟩
theorem Vals.keep (h : Vals w vs L) (hk : ∀ p x, w.cell? p = some x → w'.cell? p = some x) : Vals w' vs L :=
  ⟨h.1, fun k l hl => by
    obtain ⟨u, hu, hv⟩ := h.2 k l hl
    exact ⟨u, hu, hv.keep hk⟩⟩
theorem Vals.below (h : Vals w vs L) (hb : Below w.heap.size w w') : Vals w' vs L := h.keep fun _ _ hc => (hb.cell (cell_lt hc)).trans hc
theorem Vals.append (h : Vals w vs L) (h' : Vals w us M) : Vals w (vs ++ us) (L ++ M) := by
  refine ⟨by rw [List.length_append, List.length_append, h.1, h'.1], fun k l hl => ?_⟩
  rcases Nat.lt_or_ge k L.length with hk | hk
  · rw [List.getElem?_append_left hk] at hl
    rw [List.getElem?_append_left (by rw [h.1]; exact hk)]
    exact h.2 k l hl
  · rw [List.getElem?_append_right hk] at hl
    rw [List.getElem?_append_right (by rw [h.1]; exact hk), h.1]
    exact h'.2 _ l hl
theorem Vals.single (h : VI w v l) : Vals w [v] [l] := ⟨rfl, fun k m hm => by
  cases k with
  | zero => simp at hm; subst hm; exact ⟨v, rfl, h⟩
  | succ k => simp at hm⟩
theorem Vals.snoc (h : Vals w vs L) (hv : VI w v l) : Vals w (vs ++ [v]) (L ++ [l]) := h.append (.single hv)
theorem Vals.one (h : Vals w vs L) : ∀ u ∈ vs, u.oneCell' = true := by
  intro u hu
  obtain ⟨k, hk, rfl⟩ := List.mem_iff_getElem.1 hu
  have hk' : k < L.length := by rw [← h.1]; exact hk
  obtain ⟨u', hu', hv⟩ := h.2 k L[k] (List.getElem?_eq_getElem hk')
  rw [List.getElem?_eq_getElem hk] at hu'
  cases hu'
  exact hv.one
theorem Vals.get (h : Vals w vs L) {k : Nat} (hk : k < L.length) : ∃ A c, vs[k]? = some (.slice A L[k].length c) ∧ RI w A c L[k] := by
  obtain ⟨u, hu, A, c, rfl, hr⟩ := h.2 k L[k] (List.getElem?_eq_getElem hk)
  exact ⟨A, c, hu, hr⟩
theorem Vals.take (h : Vals w vs L) (k : Nat) : Vals w (vs.take k) (L.take k) := by
  refine ⟨by simp [h.1], fun j l hl => ?_⟩
  rw [List.getElem?_take] at hl ⊢
  split at hl
  · next hj => rw [if_pos hj]; exact h.2 j l hl
  · cases hl
theorem Vals.drop (h : Vals w vs L) (k : Nat) : Vals w (vs.drop k) (L.drop k) := by
  refine ⟨by simp [h.1], fun j l hl => ?_⟩
  rw [List.getElem?_drop] at hl ⊢
  exact h.2 _ l hl
/-- The slice's places read as the rows L. -/
def RR (w : World) (A : Option Addr) (c : Nat) (L : List (List Int)) : Prop := ∃ vs, RV w A c vs ∧ Vals w vs L
theorem RR.len (h : RR w A c L) : L.length ≤ c := by obtain ⟨vs, h1, h2⟩ := h; rw [← h2.1]; exact h1.1
theorem RR.max (h : RR w A c L) : L.length ≤ maxLen := by obtain ⟨vs, h1, h2⟩ := h; rw [← h2.1]; exact h1.max
theorem RR.at_ (h : RR w A c L) {k : Nat} (hk : k < L.length) : ∃ ad A' c', A = some ad ∧ w.cell? (ad.add k) = some (.slice A' L[k].length c') ∧ RI w A' c' L[k] := by
  obtain ⟨vs, h1, h2⟩ := h
  obtain ⟨A', c', hu, hr⟩ := h2.get hk
  have hk' : k < vs.length := by rw [h2.1]; exact hk
  obtain ⟨ad, e, hc⟩ := h1.at_ hk'
  rw [List.getElem?_eq_getElem hk'] at hu
  cases hu' : vs[k]
  all_goals (rw [hu'] at hu; try (cases hu))
  exact ⟨ad, A', c', e, by rw [hc, hu'], hr⟩
theorem RR.below (h : RR w A c L) (hb : Below w.heap.size w w') : RR w' A c L := by
  obtain ⟨vs, h1, h2⟩ := h
  exact ⟨vs, h1.below hb, h2.below hb⟩
theorem RR.drewN (h : RR w A c L) (n : Nat) : RR (w.drewN n) A c L := h
theorem RR.nil (w : World) : RR w none 0 [] := ⟨[], RV.nil w, Vals.nil w⟩
theorem RR.take (h : RR w A c L) (k : Nat) : RR w A c (L.take k) := by
  obtain ⟨vs, h1, h2⟩ := h
  exact ⟨_, h1.take k, h2.take k⟩
theorem RR.cut (h : RR w A c L) {k : Nat} (hk : k ≤ L.length) : RR w (if c = k then A else A.map (·.add (k * 1))) (c - k) (L.drop k) := by
  obtain ⟨vs, h1, h2⟩ := h
  exact ⟨_, h1.cut (by rw [h2.1]; exact hk), h2.drop k⟩
end
theorem slice_to (A : Option Addr) (n c k : Nat) (hk : k ≤ c) (w : World) : (Instr.slice 22 (.slice A n c) none (some (.int .i64 k)) none).run Tryd.prog w = .ok (.slice A k c) w := by
  obtain ⟨i0, hi, hz0, hz1, hz2⟩ := info_parts infoInts
  have hu : Tryd.prog.underlying 22 = some (.slice (Tryd.prog.elem 22)) := by kernel_rfl
  have he : Tryd.prog.elem 22 = 31 := by kernel_rfl
  rw [run_slice_h w _ A n c hu .i64 k (by omega) (by omega), he]
  have hm : A.map (fun a => a.add 0) = A := by cases A <;> simp [Addr.add]
  simp [sizeOf, typeInfo, hi, hz1, sliced, Result.andThen, hm]
/-- s[:k] -/
theorem cutTo {w : World} {A : Option Addr} {c n : Nat} {L : List (List Int)} (h : RR w A c L) (hn : L.length = n) {k : Nat} (hk : k ≤ n) :
    (∀ w : World, (Instr.slice 22 (.slice A n c) none (some (.int .i64 k)) none).run Tryd.prog w = .ok (.slice A k c) w) ∧ RR w A c (L.take k) ∧ (L.take k).length = k := by
  have hc := h.len
  refine ⟨fun w => ?_, h.take k, by rw [List.length_take]; omega⟩
  obtain ⟨i0, hi, hz0, hz1, hz2⟩ := info_parts infoInts
  have hu : Tryd.prog.underlying 22 = some (.slice (Tryd.prog.elem 22)) := by kernel_rfl
  have he : Tryd.prog.elem 22 = 31 := by kernel_rfl
  rw [run_slice_h w _ A n c hu .i64 k (by omega) (by omega), he]
  have hm : A.map (fun a => a.add 0) = A := by cases A <;> simp [Addr.add]
  simp [sizeOf, typeInfo, hi, hz1, sliced, Result.andThen, hm]
/-- s[k:] -/
theorem cutFrom {w : World} {A : Option Addr} {c n : Nat} {L : List (List Int)} (h : RR w A c L) (hn : L.length = n) {k : Nat} (hk : k ≤ n) :
    ∃ A', (∀ w : World, (Instr.slice 22 (.slice A n c) (some (.int .i64 k)) none none).run Tryd.prog w = .ok (.slice A' (n - k) (c - k)) w) ∧ RR w A' (c - k) (L.drop k) ∧ (L.drop k).length = n - k := by
  subst hn
  have hc := h.len
  refine ⟨if c = k then A else A.map (·.add (k * 1)), fun w => ?_, h.cut hk, by rw [List.length_drop]⟩
  obtain ⟨i0, hi, hz0, hz1, hz2⟩ := info_parts infoInts
  have hu : Tryd.prog.underlying 22 = some (.slice (Tryd.prog.elem 22)) := by kernel_rfl
  have he : Tryd.prog.elem 22 = 31 := by kernel_rfl
  rw [run_slice_l w _ A L.length c hu .i64 k (by omega) (by omega), he]
  simp [sizeOf, typeInfo, hi, hz1, sliced, Result.andThen]
theorem slice_from {w : World} {A : Option Addr} {c n : Nat} {vs : List Value} (h : RV w A c vs) (hn : vs.length = n) {k : Nat} (hk : k ≤ n) :
    ∃ A', (∀ w : World, (Instr.slice 22 (.slice A n c) (some (.int .i64 k)) none none).run Tryd.prog w = .ok (.slice A' (n - k) (c - k)) w) ∧ RV w A' (c - k) (vs.drop k) := by
  subst hn
  have hc := h.len
  refine ⟨if c = k then A else A.map (·.add (k * 1)), fun w => ?_, h.cut hk⟩
  obtain ⟨i0, hi, hz0, hz1, hz2⟩ := info_parts infoInts
  have hu : Tryd.prog.underlying 22 = some (.slice (Tryd.prog.elem 22)) := by kernel_rfl
  have he : Tryd.prog.elem 22 = 31 := by kernel_rfl
  rw [run_slice_l w _ A vs.length c hu .i64 k (by omega) (by omega), he]
  simp [sizeOf, typeInfo, hi, hz1, sliced, Result.andThen]
/-- Values of the call's own. -/
def OwnV (w : World) (B : Nat) (v : Value) (vs : List Value) : Prop := w.ownsRow B 31 1 v vs.length vs
theorem OwnV.reads {w : World} {B : Nat} {v : Value} {vs : List Value} (h : OwnV w B v vs) : ∃ A c, v = .slice A vs.length c ∧ RV w A c vs := by
  have hh := h
  rcases h.2 with ⟨hv, h0⟩ | ⟨g, cap, cur, hv, _, hg, hn, hm, _, _⟩
  · exact ⟨none, 0, by rw [hv, h0], by omega, Nat.zero_le _, fun _ => rfl, fun k hk => absurd hk (by omega)⟩
  · refine ⟨some ⟨g, 0, none⟩, cap, hv, hn, hm, fun e => (by cases e), fun k hk => ⟨_, rfl, ?_⟩⟩
    exact World.ownsRow.cells hh (g := g) (by rw [hv]; rfl) k _ (by simp [hk])
theorem OwnV.nil (w : World) (B : Nat) : OwnV w B (.slice none 0 0) [] := World.ownsRow_nil _ _ _ _
theorem OwnV.shape {w : World} {B : Nat} {v : Value} {vs : List Value} {L : List (List Int)} {n : Nat} (h : OwnV w B v vs) (hv : Vals w vs L) (hn : L.length = n) : ∃ A c, v = .slice A n c ∧ RR w A c L := by
  obtain ⟨A, c, e, hr⟩ := h.reads
  exact ⟨A, c, by rw [e, hv.1, hn], vs, hr, hv⟩
theorem rv_lit (w : World) (vs : List Value) (t : TypeId) (n : Nat) (hn : vs.length = n) (hm : n ≤ maxLen) (cs : Array Value) (hc : cs = vs.toArray) :
    RV (w.alloc (.cells cs t)) (some ⟨w.heap.size, 0, none⟩) n vs := by
  subst hn; subst hc
  refine ⟨Nat.le_refl _, hm, fun e => (by cases e), fun k hk => ⟨_, rfl, ?_⟩⟩
  have : (⟨w.heap.size, 0, none⟩ : Addr).add k = ⟨w.heap.size, k, none⟩ := by unfold Addr.add; split <;> simp_all
  rw [this, (Blk.new w t vs.toArray).cell]; simp [hk]
theorem OwnV.alloc {w : World} {B : Nat} {v : Value} {vs : List Value} (h : OwnV w B v vs) (o : Obj) : OwnV (w.alloc o) B v vs := World.ownsRow.alloc h o
theorem OwnV.mono {w : World} {B B' : Nat} {v : Value} {vs : List Value} (h : OwnV w B v vs) (hb : B' ≤ B) : OwnV w B' v vs := by
  refine ⟨h.1, ?_⟩
  rcases h.2 with hn | ⟨g, cap, cur, hv, hg, rest⟩
  · exact .inl hn
  · exact .inr ⟨g, cap, cur, hv, Nat.le_trans hb hg, rest⟩
/-- What a call gives that makes rows: they lie in the call's own cells. -/
def GivesV (w0 w : World) (L : List (List Int)) (e : Ending) (w' : World) : Prop :=
  ∃ v vs, e = .returned v ∧ OwnV w' w.heap.size v vs ∧ Vals w0 vs L ∧ Below w.heap.size w w'
section
variable {w : World} {ops : Array Oper} {rest : List Oper} {o : Oper} {a : Act} {Q : Exit → Act → World → Prop}
/-- append of rows -/
theorem app_vals (hgd : o.guard = none) (s x : Operand)
    (ho : o.op = .call { callee := .builtin .append, args := #[s, x], argTypes := #[22, 22] })
    (base : Nat) (v : Value) (vs : List Value) (hs : a.eval s = v) (hown : OwnV w base v vs)
    (A : Option Addr) (m c : Nat) (us : List Value) (hx : a.eval x = .slice A m c) (hr : RV w A c us) (hm : us.length = m) (h1 : ∀ u ∈ us, u.oneCell' = true)
    (hlen : vs.length + us.length ≤ 1000000) (hbase : base ≤ w.heap.size)
    (h : ∀ v' w', OwnV w' base v' (vs ++ us) → Below base w w' → wpList Tryd.prog ops Q rest (a.put o.dst v') w') : wpList Tryd.prog ops Q (o :: rest) a w := by
  subst hm
  obtain ⟨i0, hi, hz0, hz1, hz2⟩ := info_parts infoInts
  cases A with
  | none =>
    have h0 := hr.2.2.1 rfl
    have h2 := hr.1
    have : us = [] := List.eq_nil_of_length_eq_zero (by omega)
    subst this
    subst h0
    refine wpList_append_own_none hgd s x 22 ho base 31 i0 1 Tryd.underlying22 hi v vs.length _ hs hown hx ?_
    exact h v w (by simpa using hown) (Below.refl _ _)
  | some ad =>
    refine wpList_append_own w hgd s x 22 ho base 31 i0 (.slice none 0 0) 1 24 Tryd.underlying22 hi hz0 hz1 hz2 rfl (by decide) v vs.length _ hs hown ad us.length c us hx (by simp) ?_ h1 (by unfold maxLen; omega) (by omega) hbase ?_
    · intro j u hu
      have hj : j < us.length := by
        rcases Nat.lt_or_ge j us.length with h' | h'
        · exact h'
        · rw [List.getElem?_eq_none h'] at hu; cases hu
      rw [List.getElem?_eq_getElem hj] at hu
      cases hu
      obtain ⟨ad', e, hc⟩ := hr.at_ hj
      cases e
      exact hc
    · intro v' w1 hown' hgrow _
      exact h v' w1 (by unfold OwnV; rw [List.length_append]; exact hown') ((Below.refl _ _).grown hgrow hbase fun j hj => (World.ownsRow.lt hown j hj).1)
/-- append of ints -/
theorem app_ints (hgd : o.guard = none) (s x : Operand)
    (ho : o.op = .call { callee := .builtin .append, args := #[s, x], argTypes := #[31, 31] })
    (base : Nat) (v : Value) (l : List Int) (hs : a.eval s = v) (hown : OwnI w base v l)
    (A : Option Addr) (m c : Nat) (M : List Int) (hx : a.eval x = .slice A m c) (hr : RI w A c M) (hm : M.length = m)
    (hlen : l.length + M.length ≤ 1000000) (hbase : base ≤ w.heap.size)
    (h : ∀ v' w', OwnI w' base v' (l ++ M) → Below base w w' → wpList Tryd.prog ops Q rest (a.put o.dst v') w') : wpList Tryd.prog ops Q (o :: rest) a w := by
  subst hm
  obtain ⟨i0, hi, hz0, hz1, hz2⟩ := info_parts infoInt
  cases A with
  | none =>
    have h0 := hr.2.2.1 rfl
    have h2 := hr.1
    have : M = [] := List.eq_nil_of_length_eq_zero (by omega)
    subst this
    subst h0
    refine wpList_append_own_none hgd s x 31 ho base 3 i0 1 Tryd.underlying31 hi v l.length _ hs hown hx ?_
    exact h v w (by simpa using hown) (Below.refl _ _)
  | some ad =>
    refine wpList_append_own w hgd s x 31 ho base 3 i0 (.int .i64 0) 1 8 Tryd.underlying31 hi hz0 hz1 hz2 rfl (by decide) v l.length _ hs hown ad M.length c (M.map (Value.int .i64)) hx (by simp) ?_ ?_ (by unfold maxLen; omega) (by omega) hbase ?_
    · intro j u hu
      rw [List.getElem?_map] at hu
      have hj : j < M.length := by
        rcases Nat.lt_or_ge j M.length with h' | h'
        · exact h'
        · rw [List.getElem?_eq_none h'] at hu; cases hu
      rw [List.getElem?_eq_getElem hj] at hu
      cases hu
      obtain ⟨ad', e, hc⟩ := hr.at_ hj
      cases e
      exact hc
    · intro u hu
      obtain ⟨z, _, rfl⟩ := List.mem_map.1 hu
      rfl
    · intro v' w1 hown' hgrow _
      exact h v' w1 (by unfold OwnI; rw [List.length_append, List.map_append]; exact hown') ((Below.refl _ _).grown hgrow hbase fun j hj => (World.ownsRow.lt hown j hj).1)
end
theorem OwnI.below {w w' : World} {B : Nat} {v : Value} {l : List Int} (h : OwnI w B v l) (hb : Below w.heap.size w w') : OwnI w' B v l :=
  World.ownsRow.kept h (⟨hb.os, hb.tape, hb.output, hb.size, fun k hk _ => hb.block k hk⟩ : w.grownBy w' none) (by cases hv : v.ownBlock <;> simp)
theorem OwnI.alloc {w : World} {B : Nat} {v : Value} {l : List Int} (h : OwnI w B v l) (o : Obj) : OwnI (w.alloc o) B v l := World.ownsRow.alloc h o
theorem OwnI.mono {w : World} {B B' : Nat} {v : Value} {l : List Int} (h : OwnI w B v l) (hb : B' ≤ B) : OwnI w B' v l := by
  refine ⟨h.1, ?_⟩
  rcases h.2 with hn | ⟨g, cap, cur, hv, hg, rest⟩
  · exact .inl hn
  · exact .inr ⟨g, cap, cur, hv, Nat.le_trans hb hg, rest⟩
/-- A new literal of one int. -/
theorem own_one (w : World) (d : Int) (B : Nat) (hB : B ≤ w.heap.size) : OwnI (w.alloc (.cells #[.int .i64 d] 3)) B (.slice (some ⟨w.heap.size, 0, none⟩) 1 1) [d] := by
  unfold OwnI
  exact World.ownsRow_lit (e := 3) (size := 1) w #[.int .i64 d] 1 hB (by decide) (by simp)
/-- append of ints, at a step of a region that draws -/
theorem step_app_ints {w : World} {ops : Array Oper} {o : Oper} {a : Act} {K : Act → World → Prop} {Q : Exit → Act → World → Prop} {E : Prop} (hgd : o.guard = none) (s x : Operand)
    (ho : o.op = .call { callee := .builtin .append, args := #[s, x], argTypes := #[31, 31] })
    (base : Nat) (v : Value) (l : List Int) (hs : a.eval s = v) (hown : OwnI w base v l)
    (A : Option Addr) (m c : Nat) (M : List Int) (hx : a.eval x = .slice A m c) (hr : RI w A c M) (hm : M.length = m)
    (hlen : l.length + M.length ≤ 1000000) (hbase : base ≤ w.heap.size)
    (h : ∀ v' w', OwnI w' base v' (l ++ M) → Below base w w' → K (a.put o.dst v') w') :
    if Region.wanted o (yielded ops a.tmps) = true then Oper.wp Tryd.prog o a w K Q else E := by
  have hw : Region.wanted o (yielded ops a.tmps) = true := by simp [Region.wanted, hgd]
  rw [if_pos hw]
  subst hm
  obtain ⟨i0, hi, hz0, hz1, hz2⟩ := info_parts infoInt
  cases A with
  | none =>
    have h0 := hr.2.2.1 rfl
    have h2 := hr.1
    have : M = [] := List.eq_nil_of_length_eq_zero (by omega)
    subst this
    subst h0
    have hrun := run_append_owned_none (P := Tryd.prog) (w := w) base 31 o.type 3 i0 1 Tryd.underlying31 hi v l.length _ hown
    unfold Oper.wp execOp
    simp only [ho, resolve, invoke, builtin, Sem.run_bind, Sem.run_pure, Result.andThen_ok, List.map_toArray, List.map_cons, List.map_nil, hs, hx, List.length_nil, hrun]
    exact h v w (by simpa using hown) (Below.refl _ _)
  | some ad =>
    refine wp_append_own w s x 31 ho base 3 i0 (.int .i64 0) 1 8 Tryd.underlying31 hi hz0 hz1 hz2 rfl (by decide) v l.length _ hs hown ad M.length c (M.map (Value.int .i64)) hx (by simp) ?_ ?_ (by unfold maxLen; omega) (by omega) hbase ?_
    · intro j u hu
      rw [List.getElem?_map] at hu
      have hj : j < M.length := by
        rcases Nat.lt_or_ge j M.length with h' | h'
        · exact h'
        · rw [List.getElem?_eq_none h'] at hu; cases hu
      rw [List.getElem?_eq_getElem hj] at hu
      cases hu
      obtain ⟨ad', e, hc⟩ := hr.at_ hj
      cases e
      exact hc
    · intro u hu
      obtain ⟨z, _, rfl⟩ := List.mem_map.1 hu
      rfl
    · intro v' w1 hown' hgrow _
      exact h v' w1 (by unfold OwnI; rw [List.length_append, List.map_append]; exact hown') ((Below.refl _ _).grown hgrow hbase fun j hj => (World.ownsRow.lt hown j hj).1)
end Go.Proofs.YtdkliknnnolngaaDoor
