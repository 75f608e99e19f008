/- The reference's history in memory: a slice of structs with room behind it; one more. Own work. -/
import Derived.Test.YtdfkmkflcnfchaaSim8b
namespace Go.Proofs.Ytdfkmkflcnfchaa
open Go.ChangeShapes Go.WideShapes Go.ChangeAt Go.RowKit CellM

theorem infoEv : (Try.prog.info? 79).map (fun i => (i.zero, i.size, i.bytes)) = some (some (.agg #[.int .i64 0, .int .i64 0, .int .i64 0, .int .i64 0, .int .i64 0, .int .i64 0, .int .i64 0]), 7, 56) := by kernel_rfl
def cellsE (e : Ev) : List Value := [.int .i64 e.t, .int .i64 e.k, .int .i64 e.c, .int .i64 e.v, .int .i64 e.f, .int .i64 e.o, .int .i64 e.w]
def flatE (L : List Ev) : List Value := L.flatMap cellsE
theorem cellsE_len (e : Ev) : (cellsE e).length = 7 := rfl
theorem flatE_len : ∀ L : List Ev, (flatE L).length = L.length * 7
  | [] => rfl
  | e :: L => by
    show (cellsE e ++ flatE L).length = _
    rw [List.length_append, flatE_len L, cellsE_len, List.length_cons]; omega
theorem flatE_append (L M : List Ev) : flatE (L ++ M) = flatE L ++ flatE M := by unfold flatE; rw [List.flatMap_append]
theorem flatE_at : ∀ (L : List Ev) (i : Nat) (e : Ev) (q : Nat) (x : Value), L[i]? = some e → (cellsE e)[q]? = some x → (flatE L)[i * 7 + q]? = some x
  | [], _, _, _, _, h, _ => by simp at h
  | a :: L, 0, e, q, x, h, hx => by
    simp at h; subst h
    show (cellsE a ++ flatE L)[0 * 7 + q]? = some x
    have hq := (List.getElem?_eq_some_iff.1 hx).1
    rw [Nat.zero_mul, Nat.zero_add, List.getElem?_append_left hq]; exact hx
  | a :: L, i + 1, e, q, x, h, hx => by
    show (cellsE a ++ flatE L)[(i + 1) * 7 + q]? = some x
    rw [List.getElem?_append_right (by rw [cellsE_len]; omega), cellsE_len, show (i + 1) * 7 + q - 7 = i * 7 + q by omega]
    exact flatE_at L i e q x (by simpa using h) hx
theorem flatE_set : ∀ (L : List Ev) (i : Nat) (e : Ev) (n : Int), L[i]? = some e → flatE (L.set i (over8 e n)) = (flatE L).set (i * 7 + 5) (.int .i64 n)
  | [], _, _, _, h => by simp at h
  | a :: L, 0, e, n, h => by
    simp at h; subst h
    rfl
  | a :: L, i + 1, e, n, h => by
    show cellsE a ++ flatE (L.set i (over8 e n)) = (cellsE a ++ flatE L).set ((i + 1) * 7 + 5) (.int .i64 n)
    rw [flatE_set L i e n (by simpa using h), List.set_append_right _ _ (by rw [cellsE_len]; omega), cellsE_len, show (i + 1) * 7 + 5 - 7 = i * 7 + 5 by omega]
/-- .slice A L.length c reads as L; h: its block. -/
structure RowE (w : World) (A : Option Addr) (h c : Nat) (L : List Ev) : Prop where
  le : L.length ≤ c
  max : c ≤ maxLen
  addr : (c = 0 ∧ A = none) ∨ A = some ⟨h, 0, none⟩
  at_ : ∀ j x, (flatE L)[j]? = some x → Has w ⟨h, j, none⟩ x
  room : ∀ k, k < c * 7 → ∃ x, Has w ⟨h, k, none⟩ x
section
variable {w w' : World} {A : Option Addr} {h c : Nat} {L : List Ev} {F : Addr → Prop}
theorem RowE.keep (H : RowE w A h c L) (hk : Kept F w w') (hf : ∀ k, k < c * 7 → ¬ F ⟨h, k, none⟩) : RowE w' A h c L :=
  ⟨H.le, H.max, H.addr, fun j x hx => hk.has _ _ (H.at_ j x hx) (hf j (by
    have h1 := (List.getElem?_eq_some_iff.1 hx).1
    rw [flatE_len] at h1
    have := H.le
    omega)), fun k hc => by
    obtain ⟨x, hx⟩ := H.room k hc
    exact ⟨x, hk.has _ _ hx (hf k hc)⟩⟩
theorem RowE.below (H : RowE w A h c L) (hb : Below w.heap.size w w') : RowE w' A h c L := H.keep (F := fun _ => False) (.below hb) (fun _ _ h => h)
theorem RowE.nil (w : World) (h : Nat) : RowE w none h 0 [] := ⟨Nat.le_refl _, Nat.zero_le _, .inl ⟨rfl, rfl⟩, fun j x hx => by simp [flatE] at hx, fun k hk => by omega⟩
/-- An access of it. -/
theorem RowE.get (H : RowE w A h c L) {i : Nat} (hi : i < L.length) : A = some ⟨h, 0, none⟩ ∧ ∀ q x, (cellsE L[i])[q]? = some x → Has w ⟨h, i * 7 + q, none⟩ x :=
  ⟨by
    rcases H.addr with ⟨h0, _⟩ | h1
    · have := H.le; omega
    · exact h1, fun q x hx => H.at_ _ _ (flatE_at L i _ q x (List.getElem?_eq_getElem hi) hx)⟩
theorem RowE.set (H : RowE w A h c L) {i : Nat} (hi : i < L.length) (n : Int) : RowE (w.setCell ⟨h, i * 7 + 5, none⟩ (.int .i64 n)) A h c (L.set i (over8 L[i] n)) := by
  have hk := kept_set w ⟨h, i * 7 + 5, none⟩ (.int .i64 n)
  have hold := (H.get hi).2 5 _ rfl
  refine ⟨by rw [List.length_set]; exact H.le, H.max, H.addr, fun j x hx => ?_, fun k hc => ?_⟩
  · rw [flatE_set L i L[i] n (List.getElem?_eq_getElem hi), List.getElem?_set] at hx
    split at hx
    · next e =>
      subst e
      split at hx
      · cases hx; exact hold.same
      · cases hx
    · next e => exact hk.has _ _ (H.at_ j x hx) (fun e2 => e (by simp only [Addr.mk.injEq] at e2; omega))
  · obtain ⟨x, hx⟩ := H.room k hc
    exact hk.live _ _ hx
theorem RowE.own {B : Nat} {v : Value} (H : w.ownsRow B 79 7 v L.length (flatE L)) (hne : L ≠ []) : ∃ g c, B ≤ g ∧ v = .slice (some ⟨g, 0, none⟩) L.length c ∧ RowE w (some ⟨g, 0, none⟩) g c L := by
  rcases H.2 with ⟨_, h0⟩ | ⟨g, cap, cur, hv, hg, hh, hn, hm, hs, hx⟩
  · exact absurd (List.eq_nil_of_length_eq_zero h0) hne
  · have hh2 : w.heap[g]? = some (.cells cur 79 (0, 0)) := hh
    have hhas : ∀ k, k < cur.size → ∃ x, Has w ⟨g, k, none⟩ x := fun k hk => ⟨cur[k], by rw [cell_of_row _ _ k cur _ (0, 0) hh2]; exact Array.getElem?_eq_getElem hk, by simp [World.frozen?, hh2]⟩
    refine ⟨g, cap, hg, hv, hn, hm, .inr rfl, fun k x hx' => ?_, fun k hk => hhas k (by omega)⟩
    have hk := (List.getElem?_eq_some_iff.1 hx').1
    rw [flatE_len] at hk
    obtain ⟨y, hy⟩ := hhas k (by omega)
    have hc := H.cells (g := g) (by rw [hv]; rfl) k x hx'
    have : (⟨g, 0, none⟩ : Addr).add k = ⟨g, k, none⟩ := by unfold Addr.add; split <;> simp_all
    rw [this] at hc
    exact ⟨hc, hy.2⟩
/-- What an append of one access leaves. -/
structure OntoE (w w' : World) (v' : Value) (A : Option Addr) (h c : Nat) (L : List Ev) (e : Ev) : Prop where
  ex : ∃ A' h' c', v' = .slice A' (L.length + 1) c' ∧ RowE w' A' h' c' (L ++ [e]) ∧ ((h' = h ∧ L.length < c) ∨ (c ≤ L.length ∧ w.heap.size ≤ h'))
  kept : Kept (fun p => L.length < c ∧ p.block = h) w w'
  below : ∀ B, (L.length < c → B ≤ h) → B ≤ w.heap.size → Below B w w'
  block : ∀ b, b < w.heap.size → (L.length < c → b ≠ h) → w'.heap[b]? = w.heap[b]?
theorem kept_sets (b : Nat) : ∀ (vs : List Value) (o : Nat) (w : World), Kept (fun p => p.block = b ∧ o ≤ p.off ∧ p.off < o + vs.length) w (w.setCells b o vs)
  | [], o, w => ⟨fun _ _ h _ => h, fun _ x h => ⟨x, h⟩, Nat.le_refl _⟩
  | v :: vs, o, w => by
    have h1 : Kept (fun p => p.block = b ∧ o ≤ p.off ∧ p.off < o + (v :: vs).length) w (w.setCell ⟨b, o, none⟩ v) := (Kept.refl _ _).setCell ⟨rfl, Nat.le_refl _, by simp⟩ v
    exact h1.trans ((kept_sets b vs (o + 1) (w.setCell ⟨b, o, none⟩ v)).mono (fun p hp => ⟨hp.1, by omega, by rw [List.length_cons]; omega⟩))
theorem below_sets (b : Nat) {B : Nat} (hB : B ≤ b) : ∀ (vs : List Value) (o : Nat) (w : World), Below B w (w.setCells b o vs)
  | [], _, _ => .refl _ _
  | v :: vs, o, w => ((Below.refl B w).setCell (p := ⟨b, o, none⟩) hB v).trans (below_sets b hB vs (o + 1) _)
theorem block_sets (b : Nat) {k : Nat} (hk : k ≠ b) : ∀ (vs : List Value) (o : Nat) (w : World), (w.setCells b o vs).heap[k]? = w.heap[k]?
  | [], _, _ => rfl
  | v :: vs, o, w => (block_sets b hk vs (o + 1) _).trans (Below.heap_setCell w ⟨b, o, none⟩ v k hk)
theorem has_sets (b : Nat) : ∀ (vs : List Value) (o : Nat) (w : World), (∀ j, j < vs.length → ∃ x, Has w ⟨b, o + j, none⟩ x) → ∀ j y, vs[j]? = some y → Has (w.setCells b o vs) ⟨b, o + j, none⟩ y
  | [], _, _, _, j, y, hy => by simp at hy
  | v :: vs, o, w, hl, 0, y, hy => by
    simp at hy; subst hy
    obtain ⟨x, hx⟩ := hl 0 (by simp)
    exact (kept_sets b vs (o + 1) _).has _ _ hx.same (fun hp => by have := hp.2.1; simp only at this; omega)
  | v :: vs, o, w, hl, j + 1, y, hy => by
    have := has_sets b vs (o + 1) (w.setCell ⟨b, o, none⟩ v) (fun i hi => by
      obtain ⟨x, hx⟩ := hl (i + 1) (by rw [List.length_cons]; omega)
      rw [show o + (i + 1) = o + 1 + i by omega] at hx
      exact (kept_set w ⟨b, o, none⟩ v).live _ _ hx) j y (by simpa using hy)
    rw [show o + 1 + j = o + (j + 1) by omega] at this
    exact this
theorem run_app_ev (H : RowE w A h c L) (hl : L.length ≤ 1000) (e : Ev) (ad : Addr) (hnews : ∀ j u, (cellsE e)[j]? = some u → w.cell? (ad.add j) = some u) (ty : TypeId) :
    ∃ v' w', (Builtin.append_ #[64, 64] ty #[.slice A L.length c, .slice (some ad) 1 1]).run Try.prog w = .ok v' w' ∧ OntoE w w' v' A h c L e := by
  obtain ⟨i0, hi, hz0, hz1, hz2⟩ := info_parts infoEv
  have hu : Try.prog.underlying 64 = some (.slice 79) := by kernel_rfl
  have hone : ∀ u ∈ cellsE e, u.oneCell' = true := by
    intro u hu
    simp only [cellsE, List.mem_cons, List.not_mem_nil, or_false] at hu
    rcases hu with rfl | rfl | rfl | rfl | rfl | rfl | rfl <;> rfl
  have hfl : flatE L ++ cellsE e = flatE (L ++ [e]) := by rw [flatE_append]; simp [flatE]
  have hown : ∀ (w' : World) (v' : Value), w.grownBy w' none → c ≤ L.length → w'.ownsRow w.heap.size 79 7 v' (L.length + 1) (flatE L ++ cellsE e) → OntoE w w' v' A h c L e := by
    intro w' v' hg hc ho
    rw [hfl] at ho
    have ho2 : w'.ownsRow w.heap.size 79 7 v' (L ++ [e]).length (flatE (L ++ [e])) := by rw [List.length_append]; exact ho
    obtain ⟨g, c', hgB, hv, hr⟩ := RowE.own ho2 (by simp)
    exact ⟨⟨_, g, c', by rw [hv, List.length_append]; rfl, hr, .inr ⟨hc, hgB⟩⟩, (Kept.refl _ _).grown hg, fun B _ hB => Below.grown (Below.refl _ _) hg hB (fun k hk => by cases hk), fun b hb _ => hg.block b hb (fun e => by cases e)⟩
  rcases H.addr with ⟨h0, hA⟩ | hA
  · have hL : L = [] := List.eq_nil_of_length_eq_zero (by have := H.le; omega)
    subst hL; subst h0; subst hA
    obtain ⟨v', w', hrun, r1, r2, _⟩ := run_append_own (P := Try.prog) w w.heap.size 64 ty 79 i0 _ 7 56 hu hi hz0 hz1 hz2 rfl (by decide) (.slice none 0 0) 0 [] (World.ownsRow_nil w _ _ _) ad 1 1 (cellsE e) rfl hnews hone (by decide) (by decide) (Nat.le_refl _)
    exact ⟨v', w', hrun, hown w' v' r2 (Nat.le_refl _) r1⟩
  · subst hA
    by_cases hr : L.length + 1 ≤ c
    · have hsp : ∀ j, j < (cellsE e).length → ∃ x, Has w ⟨h, L.length * 7 + j, none⟩ x := fun j hj => H.room _ (by rw [cellsE_len] at hj; omega)
      have hrun := run_append_room_cells (P := Try.prog) w 64 ty 79 i0 hu hi h 0 L.length c ad 1 1 (cellsE e) (by rw [hz1]; rfl) hnews hone hr (fun j hj => by
        obtain ⟨x, hx⟩ := hsp j hj
        rw [hz1, Nat.zero_add, hx.1]; rfl) (fun j hj => by
        obtain ⟨x, hx⟩ := hsp j hj
        rw [hz1, Nat.zero_add]; exact hx.2)
      rw [hz1, Nat.zero_add] at hrun
      have hk := kept_sets h (cellsE e) (L.length * 7) w
      refine ⟨_, _, hrun, ⟨⟨some ⟨h, 0, none⟩, h, c, rfl, ⟨by simp; omega, H.max, .inr rfl, fun j x hx => ?_, fun k hk2 => ?_⟩, .inl ⟨rfl, by omega⟩⟩, hk.mono (fun p hp => ⟨by omega, hp.1⟩), fun B hB _ => below_sets h (hB (by omega)) _ _ _, fun b _ hb => block_sets h (hb (by omega)) _ _ _⟩⟩
      · rw [← hfl] at hx
        rcases Nat.lt_or_ge j (flatE L).length with hj | hj
        · rw [List.getElem?_append_left hj] at hx
          rw [flatE_len] at hj
          exact hk.has _ _ (H.at_ j x hx) (fun hp => by have := hp.2.1; simp only at this; omega)
        · rw [List.getElem?_append_right hj] at hx
          rw [flatE_len] at hj hx
          have := has_sets h (cellsE e) (L.length * 7) w hsp (j - L.length * 7) x hx
          rw [show L.length * 7 + (j - L.length * 7) = j by omega] at this
          exact this
      · obtain ⟨x, hx⟩ := H.room k hk2
        exact hk.live _ _ hx
    · obtain ⟨v', w', hrun, r1, r2⟩ := run_append_arg_grows (P := Try.prog) w 64 ty 79 i0 _ 7 56 hu hi hz0 hz1 hz2 rfl (by decide) ⟨h, 0, none⟩ L.length c (flatE L) (flatE_len L) (fun j u hj => by
        have : (⟨h, 0, none⟩ : Addr).add j = ⟨h, j, none⟩ := by unfold Addr.add; split <;> simp_all
        rw [this]; exact (H.at_ j u hj).1) ad 1 1 (cellsE e) rfl hnews (by omega) (by unfold maxLen; omega) (by omega)
      exact ⟨v', w', hrun, hown w' v' r2 (by omega) r1⟩
end
section
variable {w : World} {ops : Array Oper} {o : Oper} {a : Act} {K : Act → World → Prop} {Q : Exit → Act → World → Prop} {E : Prop}
/-- append of one access, at a step of a region that draws -/
theorem step_app_ev (hgd : o.guard = none) (s x : Operand) (ho : o.op = .call { callee := .builtin .append, args := #[s, x], argTypes := #[64, 64] })
    {A : Option Addr} {h c n : Nat} {L : List Ev} (H : RowE w A h c L) (hl : L.length ≤ 1000) (hn : L.length = n) (hs : a.eval s = .slice A n c) (e : Ev) (ad : Addr) (hx : a.eval x = .slice (some ad) 1 1)
    (hnews : ∀ j u, (cellsE e)[j]? = some u → w.cell? (ad.add j) = some u) (hK : ∀ v' w', OntoE w w' v' A h c L e → K (a.put o.dst v') w') :
    if Region.wanted o (yielded ops a.tmps) = true then Oper.wp Try.prog o a w K Q else E := by
  have hw : Region.wanted o (yielded ops a.tmps) = true := by simp [Region.wanted, hgd]
  rw [if_pos hw]
  subst hn
  obtain ⟨v', w', hrun, hO⟩ := run_app_ev H hl e ad hnews o.type
  unfold Oper.wp
  simp [execOp, ho, resolve, invoke, builtin, hs, hx, hrun, Result.andThen]
  exact hK v' w' hO
end
end Go.Proofs.Ytdfkmkflcnfchaa
