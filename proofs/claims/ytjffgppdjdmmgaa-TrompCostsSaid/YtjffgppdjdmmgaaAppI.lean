/- append of any slice of ints to a row of the call's own; s[k:], s[:k] of ints. Own work. -/
import Derived.Test.YtjffgppdjdmmgaaIntsB
import Derived.Laws.AppendOwnNone
import Derived.RegionTactic
namespace Go.Proofs.Ytjffgppdjdmmgaa
open Go.ChangeShapes Go.WideShapes Go.ChangeAt Go.RowKit

section
variable {w : World} {ops : Array Oper} {rest : List Oper} {o : Oper} {a : Act} {Q : Exit → Act → World → Prop}
/-- append of ints -/
theorem app_ints (hgd : o.guard = none) (s x : Operand)
    (ho : o.op = .call { callee := .builtin .append, args := #[s, x], argTypes := #[24, 24] })
    (base : Nat) (v : Value) (l : List Int) (hs : a.eval s = v) (hown : OwnI w base v l)
    (A : Option Addr) (m c : Nat) (M : List Int) (hx : a.eval x = .slice A m c) (hr : RI w A c M) (hm : M.length = m)
    (hlen : l.length + M.length ≤ 1000000) (hbase : base ≤ w.heap.size)
    (h : ∀ v' w', OwnI w' base v' (l ++ M) → Below base w w' → wpList Try.prog ops Q rest (a.put o.dst v') w') : wpList Try.prog ops Q (o :: rest) a w := by
  subst hm
  obtain ⟨i0, hi, hz0, hz1, hz2⟩ := info_parts infoInt
  cases A with
  | none =>
    have h0 := hr.2.2.1 rfl
    have h2 := hr.1
    have : M = [] := List.eq_nil_of_length_eq_zero (by omega)
    subst this
    subst h0
    refine wpList_append_own_none hgd s x 24 ho base 3 i0 1 Try.underlying24 hi v l.length _ hs hown hx ?_
    exact h v w (by simpa using hown) (Below.refl _ _)
  | some ad =>
    refine wpList_append_own w hgd s x 24 ho base 3 i0 (.int .i64 0) 1 8 Try.underlying24 hi hz0 hz1 hz2 rfl (by decide) v l.length _ hs hown ad M.length c (M.map (Value.int .i64)) hx (by simp) ?_ ?_ (by unfold maxLen; omega) (by omega) hbase ?_
    · intro j u hu
      rw [List.getElem?_map] at hu
      have hj : j < M.length := by
        rcases Nat.lt_or_ge j M.length with h' | h'
        · exact h'
        · rw [List.getElem?_eq_none h'] at hu; cases hu
      rw [List.getElem?_eq_getElem hj] at hu
      cases hu
      obtain ⟨ad', e, hc⟩ := hr.at_ hj
      cases e
      exact hc
    · intro u hu
      obtain ⟨z, _, rfl⟩ := List.mem_map.1 hu
      rfl
    · intro v' w1 hown' hgrow _
      exact h v' w1 (by unfold OwnI; rw [List.length_append, List.map_append]; exact hown') ((Below.refl _ _).grown hgrow hbase fun j hj => (World.ownsRow.lt hown j hj).1)
end
theorem OwnI.below {w w' : World} {B : Nat} {v : Value} {l : List Int} (h : OwnI w B v l) (hb : Below w.heap.size w w') : OwnI w' B v l :=
  World.ownsRow.kept h (⟨hb.os, hb.tape, hb.output, hb.size, fun k hk _ => hb.block k hk⟩ : w.grownBy w' none) (by cases hv : v.ownBlock <;> simp)
theorem OwnI.alloc {w : World} {B : Nat} {v : Value} {l : List Int} (h : OwnI w B v l) (o : Obj) : OwnI (w.alloc o) B v l := World.ownsRow.alloc h o
theorem OwnI.mono {w : World} {B B' : Nat} {v : Value} {l : List Int} (h : OwnI w B v l) (hb : B' ≤ B) : OwnI w B' v l := by
  refine ⟨h.1, ?_⟩
  rcases h.2 with hn | ⟨g, cap, cur, hv, hg, rest⟩
  · exact .inl hn
  · exact .inr ⟨g, cap, cur, hv, Nat.le_trans hb hg, rest⟩
/-- A new literal of one int. -/
theorem own_one (w : World) (d : Int) (B : Nat) (hB : B ≤ w.heap.size) : OwnI (w.alloc (.cells #[.int .i64 d] 3)) B (.slice (some ⟨w.heap.size, 0, none⟩) 1 1) [d] := by
  unfold OwnI
  exact World.ownsRow_lit (e := 3) (size := 1) w #[.int .i64 d] 1 hB (by decide) (by simp)
/-- append of ints, at a step of a region that draws -/
theorem step_app_ints {w : World} {ops : Array Oper} {o : Oper} {a : Act} {K : Act → World → Prop} {Q : Exit → Act → World → Prop} {E : Prop} (hgd : o.guard = none) (s x : Operand)
    (ho : o.op = .call { callee := .builtin .append, args := #[s, x], argTypes := #[24, 24] })
    (base : Nat) (v : Value) (l : List Int) (hs : a.eval s = v) (hown : OwnI w base v l)
    (A : Option Addr) (m c : Nat) (M : List Int) (hx : a.eval x = .slice A m c) (hr : RI w A c M) (hm : M.length = m)
    (hlen : l.length + M.length ≤ 1000000) (hbase : base ≤ w.heap.size)
    (h : ∀ v' w', OwnI w' base v' (l ++ M) → Below base w w' → K (a.put o.dst v') w') :
    if Region.wanted o (yielded ops a.tmps) = true then Oper.wp Try.prog o a w K Q else E := by
  have hw : Region.wanted o (yielded ops a.tmps) = true := by simp [Region.wanted, hgd]
  rw [if_pos hw]
  subst hm
  obtain ⟨i0, hi, hz0, hz1, hz2⟩ := info_parts infoInt
  cases A with
  | none =>
    have h0 := hr.2.2.1 rfl
    have h2 := hr.1
    have : M = [] := List.eq_nil_of_length_eq_zero (by omega)
    subst this
    subst h0
    have hrun := run_append_owned_none (P := Try.prog) (w := w) base 24 o.type 3 i0 1 Try.underlying24 hi v l.length _ hown
    unfold Oper.wp execOp
    simp only [ho, resolve, invoke, builtin, Sem.run_bind, Sem.run_pure, Result.andThen_ok, List.map_toArray, List.map_cons, List.map_nil, hs, hx, List.length_nil, hrun]
    exact h v w (by simpa using hown) (Below.refl _ _)
  | some ad =>
    refine wp_append_own w s x 24 ho base 3 i0 (.int .i64 0) 1 8 Try.underlying24 hi hz0 hz1 hz2 rfl (by decide) v l.length _ hs hown ad M.length c (M.map (Value.int .i64)) hx (by simp) ?_ ?_ (by unfold maxLen; omega) (by omega) hbase ?_
    · intro j u hu
      rw [List.getElem?_map] at hu
      have hj : j < M.length := by
        rcases Nat.lt_or_ge j M.length with h' | h'
        · exact h'
        · rw [List.getElem?_eq_none h'] at hu; cases hu
      rw [List.getElem?_eq_getElem hj] at hu
      cases hu
      obtain ⟨ad', e, hc⟩ := hr.at_ hj
      cases e
      exact hc
    · intro u hu
      obtain ⟨z, _, rfl⟩ := List.mem_map.1 hu
      rfl
    · intro v' w1 hown' hgrow _
      exact h v' w1 (by unfold OwnI; rw [List.length_append, List.map_append]; exact hown') ((Below.refl _ _).grown hgrow hbase fun j hj => (World.ownsRow.lt hown j hj).1)
theorem RI.take {w : World} {A : Option Addr} {c : Nat} {l : List Int} (h : RI w A c l) (k : Nat) : RI w A c (l.take k) := by
  refine ⟨by have := h.1; rw [List.length_take]; omega, h.2.1, h.2.2.1, fun j hj => ?_⟩
  rw [List.length_take] at hj
  obtain ⟨ad, e, hc⟩ := h.2.2.2 j (by omega)
  exact ⟨ad, e, by rw [List.getElem_take]; exact hc⟩
/-- s[:k] -/
theorem cutToI {w : World} {A : Option Addr} {c n : Nat} {l : List Int} (h : RI w A c l) (hn : l.length = n) {k : Nat} (hk : k ≤ n) :
    (∀ w : World, (Instr.slice 24 (.slice A n c) none (some (.int .i64 k)) none).run Try.prog w = .ok (.slice A k c) w) ∧ RI w A c (l.take k) ∧ (l.take k).length = k := by
  have hc := h.len
  refine ⟨fun w => ?_, h.take k, by rw [List.length_take]; omega⟩
  obtain ⟨i0, hi, hz0, hz1, hz2⟩ := info_parts infoInt
  have hu : Try.prog.underlying 24 = some (.slice (Try.prog.elem 24)) := by kernel_rfl
  have he : Try.prog.elem 24 = 3 := by kernel_rfl
  rw [run_slice_h w _ A n c hu .i64 k (by omega) (by omega), he]
  have hm : A.map (fun a => a.add 0) = A := by cases A <;> simp [Addr.add]
  simp [sizeOf, typeInfo, hi, hz1, sliced, Result.andThen, hm]
/-- s[k:] -/
theorem cutFromI {w : World} {A : Option Addr} {c n : Nat} {l : List Int} (h : RI w A c l) (hn : l.length = n) {k : Nat} (hk : k ≤ n) :
    ∃ A', (∀ w : World, (Instr.slice 24 (.slice A n c) (some (.int .i64 k)) none none).run Try.prog w = .ok (.slice A' (n - k) (c - k)) w) ∧ RI w A' (c - k) (l.drop k) ∧ (l.drop k).length = n - k := by
  subst hn
  have hc := h.len
  refine ⟨if c = k then A else A.map (·.add (k * 1)), fun w => ?_, h.cut hk, by rw [List.length_drop]⟩
  obtain ⟨i0, hi, hz0, hz1, hz2⟩ := info_parts infoInt
  have hu : Try.prog.underlying 24 = some (.slice (Try.prog.elem 24)) := by kernel_rfl
  have he : Try.prog.elem 24 = 3 := by kernel_rfl
  rw [run_slice_l w _ A l.length c hu .i64 k (by omega) (by omega), he]
  simp [sizeOf, typeInfo, hi, hz1, sliced, Result.andThen]
end Go.Proofs.Ytjffgppdjdmmgaa
