/- Rows that grow: by one element, by noughts; one element set; three rows side by side behind an object. Own work. -/
import Derived.Test.YtjffgppdjdmmgaaRowK
import Derived.Laws.Append
namespace Go.Proofs.Ytjffgppdjdmmgaa
open Go.ChangeShapes Go.WideShapes Go.ChangeAt Go.RowKit CellM

/-- What a growing append leaves: n' elements, the cells xs'. -/
structure Onto (w w' : World) (v' : Value) (k : Nat) (h c n' : Nat) (xs' : List Value) : Prop where
  ex : ∃ A' h' c', v' = .slice A' n' c' ∧ RowK w' k A' h' c' n' xs' ∧ ((h' = h ∧ c' = c ∧ c ≠ 0) ∨ w.heap.size ≤ h')
  kept : Kept (fun p => c ≠ 0 ∧ p.block = h) w w'
  below : ∀ B, (c ≠ 0 → B ≤ h) → B ≤ w.heap.size → Below B w w'
  block : ∀ b, b < w.heap.size → (c ≠ 0 → b ≠ h) → w'.heap[b]? = w.heap[b]?
theorem OntoK.onto {w w' : World} {v' : Value} {k : Nat} {A : Option Addr} {h c n : Nat} {xs ys : List Value} (H : OntoK w w' v' k A h c n xs ys) : Onto w w' v' k h c (n + 1) (xs ++ ys) := by
  obtain ⟨A', h', c', hv, hr, hp⟩ := H.ex
  refine ⟨⟨A', h', c', hv, hr, ?_⟩, H.kept.mono (fun p hp => ⟨by omega, hp.2⟩), fun B hB hs => H.below B (fun hn => hB (by omega)) hs, fun b hb hn => H.block b hb (fun hc => hn (by omega))⟩
  rcases hp with ⟨h1, h2, h3⟩ | ⟨_, h1⟩
  · exact .inl ⟨h1, h2, by omega⟩
  · exact .inr h1
/-- A row of the call's own, empty ones let in. -/
theorem RowK.ofOwn {w : World} {B k n : Nat} {T : TypeId} {v : Value} {xs : List Value} (H : w.ownsRow B T k v n xs) : ∃ A h c, v = .slice A n c ∧ RowK w k A h c n xs ∧ (c ≠ 0 → B ≤ h) := by
  have hl := H.1
  rcases H.2 with ⟨hv, h0⟩ | ⟨g, cap, cur, hv, hg, hh, hn, hm, hs, hx⟩
  · subst h0
    obtain rfl : xs = [] := List.eq_nil_of_length_eq_zero (by simpa using hl)
    exact ⟨none, 0, 0, hv, RowK.nil _ _ _, fun h => absurd rfl h⟩
  · have hh2 : w.heap[g]? = some (.cells cur T (0, 0)) := hh
    have hhas : ∀ j, j < cur.size → ∃ x, Has w ⟨g, j, none⟩ x := fun j hj => ⟨cur[j], by rw [cell_of_row _ _ j cur _ (0, 0) hh2]; exact Array.getElem?_eq_getElem hj, by simp [World.frozen?, hh2]⟩
    refine ⟨some ⟨g, 0, none⟩, g, cap, hv, ⟨hl, hn, hm, .inr rfl, fun j x hx' => ?_, fun j hj => hhas j (by omega)⟩, fun _ => hg⟩
    have hj := (List.getElem?_eq_some_iff.1 hx').1
    rw [hl] at hj
    obtain ⟨y, hy⟩ := hhas j (by
      have := Nat.mul_le_mul_right k hn
      omega)
    have hc := H.cells (g := g) (by rw [hv]; rfl) j x hx'
    have : (⟨g, 0, none⟩ : Addr).add j = ⟨g, j, none⟩ := by unfold Addr.add; split <;> simp_all
    rw [this] at hc
    exact ⟨hc, hy.2⟩
theorem zeroCells_list (z : Value) (n : Nat) : (Builtin.zeroCells #[z] n).toList = List.replicate n z := by
  refine List.ext_getElem (by simp [Builtin.zeroCells]) (fun i h1 h2 => ?_)
  simp [Builtin.zeroCells, Nat.mod_one]
theorem valsI_len (l : List Int) : (valsI l).length = l.length := by unfold valsI; simp
theorem valsI_app (l m : List Int) : valsI (l ++ m) = valsI l ++ valsI m := by unfold valsI; simp
theorem valsI_zeros (m : Nat) : valsI (List.replicate m 0) = List.replicate m (.int .i64 0) := by unfold valsI; simp
/-- append(x, make([]int, m)...) -/
theorem run_app_zeros {w : World} {A : Option Addr} {h c n : Nat} {l : List Int} (H : RowK w 1 A h c n (valsI l)) (m : Nat) (h0 : 0 < m) (hs : n + m ≤ 1000000) (ty : TypeId) :
    ∃ v' w', (Builtin.append_ #[24, 3] ty #[.slice A n c, .int .i64 m]).run Try.prog w = .ok v' w' ∧ Onto w w' v' 1 h c (n + m) (valsI (l ++ List.replicate m 0)) := by
  obtain ⟨i0, hi, hz0, hz1, hz2⟩ := info_parts infoInt
  have hw : IntKind.i64.wrap (m : Int) = (m : Int) := by rw [IntKind.wrap_i64]; omega
  have n1 : ¬ (m : Int) < 0 := by omega
  have hn : m ≠ 0 := by omega
  have h48 : ¬ ((m : Int) * (i0.bytes : Int) > 281474976710656) := by rw [hz2]; omega
  have hlen : l.length = n := by have := H.len; rw [valsI_len] at this; omega
  have hpl : (valsI (l ++ List.replicate m 0)).length = (n + m) * 1 := by rw [valsI_len]; simp; omega
  by_cases hr : n + m ≤ c
  · have hA : A = some ⟨h, 0, none⟩ := by
      rcases H.addr with ⟨h1, _⟩ | h1
      · omega
      · exact h1
    subst hA
    have hsp : ∀ j, j < (List.replicate m (Value.int .i64 0)).length → ∃ x, Has w ⟨h, n + j, none⟩ x := fun j hj => H.room _ (by simp at hj; omega)
    have hst := run_storeCells_cells (P := Try.prog) h n (List.replicate m (Value.int .i64 0)) 0 w (fun j hj => by
      obtain ⟨x, hx⟩ := hsp j hj
      rw [Nat.add_zero, hx.1]; rfl) (fun j hj => by
      obtain ⟨x, hx⟩ := hsp j hj
      rw [Nat.add_zero]; exact hx.2) (fun u hu => by rw [List.eq_of_mem_replicate hu]; rfl)
    rw [Nat.add_zero] at hst
    have hzl : (Builtin.zeroCells (Value.int .i64 0).cells m).toList = List.replicate m (.int .i64 0) := zeroCells_list _ _
    have hkk := kept_sets h (List.replicate m (Value.int .i64 0)) n w
    refine ⟨.slice (some ⟨h, 0, none⟩) (n + m) c, w.setCells h n (List.replicate m (.int .i64 0)), ?_, ⟨⟨_, h, c, rfl, ⟨hpl, hr, H.max, .inr rfl, fun j x hx => ?_, fun j hj => ?_⟩, .inl ⟨rfl, rfl, by omega⟩⟩, hkk.mono (fun p hp => ⟨by omega, hp.1⟩), fun B hB _ => below_sets h (hB (by omega)) _ _ _, fun b _ hb => block_sets h (hb (by omega)) _ _ _⟩⟩
    · have hm48 : ¬ ((m : Int) * (i0.bytes : Int) > 2 ^ 48) := h48
      simp [Builtin.append_, run_underlying Try.underlying24, run_underlying Try.underlying3, asInt, asIntOf, sizeOf, typeInfo, zeroValue, hi, hz0, hz1, hw, n1, hn, hr, h48, Addr.add_lit, hzl, hst]
    · rw [valsI_app, valsI_zeros] at hx
      rcases Nat.lt_or_ge j (valsI l).length with hj | hj
      · rw [List.getElem?_append_left hj] at hx
        rw [valsI_len, hlen] at hj
        exact hkk.has _ _ (H.at_ j x hx) (fun hp => by have := hp.2.1; simp only at this; omega)
      · rw [List.getElem?_append_right hj] at hx
        rw [valsI_len, hlen] at hj hx
        have := has_sets h _ n w hsp (j - n) x hx
        rw [show n + (j - n) = j by omega] at this
        exact this
    · obtain ⟨x, hx⟩ := H.room j hj
      exact hkk.live _ _ hx
  · have hfit : Builtin.nextslicecap (n + m) c * i0.bytes ≤ 281474976710656 := growslice_fits (by omega) (by rw [hz2]; omega)
    have h48' : ¬ (281474976710656 < Builtin.nextslicecap (n + m) c * i0.bytes) := by omega
    have h63' : ¬ (9223372036854775807 < ((n : Int) + (m : Int))) := by omega
    have hge := grownCap_ge w (n + m) c 3
    have hcm : grownCap w (n + m) c 3 ≤ maxLen := grownCap_le_maxLen w (n + m) c 3 (by unfold maxLen; omega)
    have hfo : (Builtin.firstCells 1 n (.slice A n c)).run Try.prog w.drew = .ok (valsI l).toArray w.drew := by
      rcases H.addr with ⟨h1, hA⟩ | hA
      · have h2 := H.le
        have : l = [] := List.eq_nil_of_length_eq_zero (by omega)
        subst hA; subst this
        rw [run_firstCells_none]; rfl
      · subst hA
        refine run_firstCells_some (P := Try.prog) w.drew 1 n _ n c (valsI l) H.len (fun j x hx => ?_)
        have : (⟨h, 0, none⟩ : Addr).add j = ⟨h, j, none⟩ := by unfold Addr.add; split <;> simp_all
        rw [this]
        exact (H.at_ j x hx).1
    have hzl : (Builtin.zeroCells (Value.int .i64 0).cells m).toList = List.replicate m (.int .i64 0) := zeroCells_list _ _
    have hown : (w.drew.alloc (.cells ((valsI l).toArray ++ Builtin.zeroCells (Value.int .i64 0).cells m ++ Builtin.zeroCells (Value.int .i64 0).cells (grownCap w (n + m) c 3 - (n + m))) 3)).ownsRow w.heap.size 3 1 (.slice (some ⟨w.heap.size, 0, none⟩) (n + m) (grownCap w (n + m) c 3)) (n + m) (valsI (l ++ List.replicate m 0)) := by
      refine ⟨hpl, .inr ⟨w.heap.size, _, _, rfl, Nat.le_refl _, heap_alloc_new w.drew _, hge, hcm, ?_, ?_⟩⟩
      · simp only [Array.size_append, List.size_toArray, size_zeroCells, valsI_len, hlen, show (Value.int .i64 0).cells.size = 1 from rfl]
        omega
      · rw [Array.toList_append, Array.toList_append, hzl, valsI_app, valsI_zeros]
        refine List.take_left' ?_
        simp [valsI_len, hlen]
    obtain ⟨A', h', c', hv, hrk, hB⟩ := RowK.ofOwn hown
    refine ⟨_, _, ?_, ⟨⟨A', h', c', hv, hrk, .inr (hB ?_)⟩, ((Kept.refl _ w).drewN 1).alloc _, fun B _ hs => ((Below.refl _ _).drew).alloc hs _, fun b hb _ => heap_alloc_old w.drew _ hb⟩⟩
    · simp [Builtin.append_, run_underlying Try.underlying24, run_underlying Try.underlying3, asInt, asIntOf, sizeOf, typeInfo, zeroValue, hi, hz0, hz1, hw, n1, hn, hr, h48, h48', h63', Question.forced, hfo, newRow, grownCap]
    · have := hrk.le; omega
/-- s[i] = v -/
theorem RowK.setI {w : World} {A : Option Addr} {h c n : Nat} {l : List Int} (H : RowK w 1 A h c n (valsI l)) {i : Nat} (hi : i < n) (v : Int) : RowK (w.setCell ⟨h, i, none⟩ (.int .i64 v)) 1 A h c n (valsI (l.set i v)) := by
  have hlen : l.length = n := by have := H.len; rw [valsI_len] at this; omega
  refine ⟨by rw [valsI_len, List.length_set]; omega, H.le, H.max, H.addr, fun j x hx => ?_, fun j hj => ?_⟩
  · by_cases e : i = j
    · subst e
      have hx' : x = .int .i64 v := by
        unfold valsI at hx
        rw [List.getElem?_map, List.getElem?_set_self (by omega)] at hx
        simpa using hx.symm
      subst hx'
      obtain ⟨y, hy⟩ := H.room i (by have := H.le; omega)
      exact hy.same
    · unfold valsI at hx
      rw [List.getElem?_map, List.getElem?_set_ne e] at hx
      exact (H.at_ j x (by unfold valsI; rw [List.getElem?_map]; exact hx)).other (fun e2 => e (by simp only [Addr.mk.injEq] at e2; omega))
  · obtain ⟨y, hy⟩ := H.room j hj
    exact (kept_set w ⟨h, i, none⟩ (.int .i64 v)).live _ _ hy
end Go.Proofs.Ytjffgppdjdmmgaa
