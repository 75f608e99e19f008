/- Several cells stored at once. Own work. -/
import Derived.Test.YtjffgppdjdmmgaaHas
namespace Go.Proofs.Ytjffgppdjdmmgaa
open Go.ChangeShapes Go.WideShapes Go.ChangeAt Go.RowKit CellM

theorem kept_sets (b : Nat) : ∀ (vs : List Value) (o : Nat) (w : World), Kept (fun p => p.block = b ∧ o ≤ p.off ∧ p.off < o + vs.length) w (w.setCells b o vs)
  | [], o, w => ⟨fun _ _ h _ => h, fun _ x h => ⟨x, h⟩, Nat.le_refl _⟩
  | v :: vs, o, w => by
    have h1 : Kept (fun p => p.block = b ∧ o ≤ p.off ∧ p.off < o + (v :: vs).length) w (w.setCell ⟨b, o, none⟩ v) := (Kept.refl _ _).setCell ⟨rfl, Nat.le_refl _, by simp⟩ v
    exact h1.trans ((kept_sets b vs (o + 1) (w.setCell ⟨b, o, none⟩ v)).mono (fun p hp => ⟨hp.1, by omega, by rw [List.length_cons]; omega⟩))
theorem below_sets (b : Nat) {B : Nat} (hB : B ≤ b) : ∀ (vs : List Value) (o : Nat) (w : World), Below B w (w.setCells b o vs)
  | [], _, _ => .refl _ _
  | v :: vs, o, w => ((Below.refl B w).setCell (p := ⟨b, o, none⟩) hB v).trans (below_sets b hB vs (o + 1) _)
theorem block_sets (b : Nat) {k : Nat} (hk : k ≠ b) : ∀ (vs : List Value) (o : Nat) (w : World), (w.setCells b o vs).heap[k]? = w.heap[k]?
  | [], _, _ => rfl
  | v :: vs, o, w => (block_sets b hk vs (o + 1) _).trans (Below.heap_setCell w ⟨b, o, none⟩ v k hk)
theorem has_sets (b : Nat) : ∀ (vs : List Value) (o : Nat) (w : World), (∀ j, j < vs.length → ∃ x, Has w ⟨b, o + j, none⟩ x) → ∀ j y, vs[j]? = some y → Has (w.setCells b o vs) ⟨b, o + j, none⟩ y
  | [], _, _, _, j, y, hy => by simp at hy
  | v :: vs, o, w, hl, 0, y, hy => by
    simp at hy; subst hy
    obtain ⟨x, hx⟩ := hl 0 (by simp)
    exact (kept_sets b vs (o + 1) _).has _ _ hx.same (fun hp => by have := hp.2.1; simp only at this; omega)
  | v :: vs, o, w, hl, j + 1, y, hy => by
    have := has_sets b vs (o + 1) (w.setCell ⟨b, o, none⟩ v) (fun i hi => by
      obtain ⟨x, hx⟩ := hl (i + 1) (by rw [List.length_cons]; omega)
      rw [show o + (i + 1) = o + 1 + i by omega] at hx
      exact (kept_set w ⟨b, o, none⟩ v).live _ _ hx) j y (by simpa using hy)
    rw [show o + 1 + j = o + (j + 1) by omega] at this
    exact this
end Go.Proofs.Ytjffgppdjdmmgaa
