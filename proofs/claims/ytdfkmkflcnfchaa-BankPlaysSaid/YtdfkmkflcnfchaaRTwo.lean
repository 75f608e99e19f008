/- The reference's Begin whole; both banks side by side. Own work. -/
import Derived.Test.YtdfkmkflcnfchaaRBegB
import Derived.Test.YtdfkmkflcnfchaaRUsed
namespace Go.Proofs.Ytdfkmkflcnfchaa
open Go.ChangeShapes Go.WideShapes Go.ChangeAt Go.RowKit CellM

theorem beginRB_is (w : World) (rb : Nat) (SA : Option Addr) (len sc : Nat) (X : Bk) (R : Int → Rs) (i : Nat) (G : Nat → Prop) (t k cl v : Int) (H : RBAt w rb (.slice SA len sc) X.no R G) (hS : SimB X R i) (hlen : X.L.length = len) (hr : RS w SA sc X.L) (hi : i ≤ 90) :
    Calls Try.prog 10 #[.pointer (some ⟨rb, 0, none⟩), .int .i64 t, .agg #[.int .i64 k, .int .i64 cl, .int .i64 v]] w fun e w' => e = .returned (.int .i64 (errBB X t k cl)) ∧ RBNow w w' rb (.slice SA len sc) (begBB X t k cl v).no (rbeg X R t k cl v) G := by
  by_cases hin : inB X cl = true
  · cases hbu : busyB X t with
    | some n => exact beginRB_busy w rb SA len sc X R i G t k cl v H hS hlen hr hin hbu
    | none =>
      by_cases hee : errB (X.c cl) t k = 0
      · exact beginRB_ok w rb SA len sc X R i G t k cl v H hS hlen hr hi hin hbu hee
      · by_cases ht : 0 ≤ t ∧ t < 8
        · have hT : isT t = true := by unfold isT; simp; omega
          have hk0 : ((X.c cl).d t.toNat).k = 0 := by
            by_cases h : ((X.c cl).d t.toNat).k = 0
            · exact h
            · have h2 := (hS.good.busy t.toNat cl (by omega)).1 h
              unfold busyB at hbu
              rw [if_pos hT, h2] at hbu
              cases hbu
          have hk : k ≠ 1 ∧ k ≠ 2 := by
            refine ⟨fun e => hee ?_, fun e => hee ?_⟩
            all_goals
              unfold errB
              rw [if_neg (by rw [hT]; simp; omega), if_neg (by simp [hk0])]
          have he1 : errB (X.c cl) t k = 1 := by unfold errB; rw [if_pos (.inr hk)]
          exact beginRB_argK w rb SA len sc X R i G t k cl v H hS hlen hr hin hbu he1 ht (by omega)
        · have hT : isT t = false := by unfold isT; simp; omega
          have he1 : errB (X.c cl) t k = 1 := by unfold errB; rw [if_pos (.inl hT)]
          exact beginRB_argT w rb SA len sc X R i G t k cl v H hS hlen hr hin hbu he1 ht
  · exact beginRB_out w rb SA len sc X R i G t k cl v H hS hlen hr (by simpa using hin)
def busyI (o : Option Int) : Int := match o with
  | some n => n
  | none => -1
theorem finBB_no (X : Bk) (t : Int) : (finBB X t).no = X.no := by unfold finBB; split <;> rfl
theorem finBB_L (X : Bk) (t : Int) : (finBB X t).L = X.L := by unfold finBB; split <;> rfl
theorem begBB_L (X : Bk) (t k cl v : Int) : (begBB X t k cl v).L = X.L := by unfold begBB; split <;> rfl
section
variable {B : Nat} {w0 w w' : World} {P : World → (Nat → Prop) → Prop} {bx : Nat} {cs : Array Value} {rb i : Nat} {SA : Option Addr} {len sc : Nat} {X : Bk} {R : Int → Rs} {no : List Int}
theorem Two.calls_endR (H : Two B w0 w P (RBP rb (.slice SA len sc) X.no R) bx cs) (kP : Frames P) (hS : SimB X R i) (hi : i ≤ 90) (t draw : Int) : Calls Try.prog 8 #[.pointer (some ⟨rb, 0, none⟩), .int .i64 t, .int .i64 draw] w fun e w' => e = .returned (.tuple #[.int .i64 (finVB X t draw), .int .i64 (errEB X t)]) ∧ Two B w0 w' P (RBP rb (.slice SA len sc) X.no (rfin X R t)) bx cs := by
  obtain ⟨F, G, H⟩ := H
  exact (endRB_is w rb _ X R i G t draw H.r hS hi).mono fun _ _ ⟨h1, h2⟩ => ⟨h1, (H.swap.now (rbp_frames _ _ _ _) kP h2.at_ h2.step).swap⟩
theorem Two.calls_begR (H : Two B w0 w P (RBP rb (.slice SA len sc) X.no R) bx cs) (kP : Frames P) (hS : SimB X R i) (hi : i ≤ 90) (hlen : X.L.length = len) (hr : RS w SA sc X.L) (t k cl v : Int) : Calls Try.prog 10 #[.pointer (some ⟨rb, 0, none⟩), .int .i64 t, .agg #[.int .i64 k, .int .i64 cl, .int .i64 v]] w fun e w' => e = .returned (.int .i64 (errBB X t k cl)) ∧ Two B w0 w' P (RBP rb (.slice SA len sc) (begBB X t k cl v).no (rbeg X R t k cl v)) bx cs := by
  obtain ⟨F, G, H⟩ := H
  exact (beginRB_is w rb SA len sc X R i G t k cl v H.r hS hlen hr hi).mono fun _ _ ⟨h1, h2⟩ => ⟨h1, (H.swap.now (rbp_frames _ _ _ _) kP h2.at_ h2.step).swap⟩
theorem Two.calls_busyR (H : Two B w0 w P (RBP rb (.slice SA len sc) X.no R) bx cs) (hS : SimB X R i) (t : Int) (o : Option Int) (ho : busyB X t = o) : Calls Try.prog 12 #[.pointer (some ⟨rb, 0, none⟩), .int .i64 t] w fun e w' => e = .returned (.int .i64 (busyI o)) ∧ w = w' := by
  obtain ⟨F, G, H⟩ := H
  obtain ⟨NA, CA, nh, nc, ch, cc, rp, Gc, hD⟩ := H.r
  have := busyRB_is hD t
  rw [hS.busy t, ho] at this
  exact this
theorem Two.calls_valueR (H : Two B w0 w P (RBP rb (.slice SA len sc) X.no R) bx cs) (hS : SimB X R i) (n : Int) : Calls Try.prog 14 #[.pointer (some ⟨rb, 0, none⟩), .int .i64 n] w fun e w' => e = .returned (.int .i64 (X.c n).value) ∧ w = w' := by
  obtain ⟨F, G, H⟩ := H
  obtain ⟨NA, CA, nh, nc, ch, cc, rp, Gc, hD⟩ := H.r
  exact valueRB_is hD n _ (hS.value n) (fun h => hS.good.value h)
theorem Two.calls_usedR (H : Two B w0 w P (RBP rb (.slice SA len sc) X.no R) bx cs) (kP : Frames P) (hS : SimB X R i) (hi : i ≤ 90) : Calls Try.prog 17 #[.pointer (some ⟨rb, 0, none⟩)] w fun e w' => ∃ A c, e = .returned (.slice A X.no.length c) ∧ RI w' A c (sortI X.no) ∧ Two B w0 w' P (RBP rb (.slice SA len sc) X.no R) bx cs ∧ Below w.heap.size w w' := by
  have H1 := H
  obtain ⟨F, G, H⟩ := H
  obtain ⟨NA, CA, nh, nc, ch, cc, rp, Gc, hD⟩ := H.r
  exact (usedRB_is hD (by have := hS.nol; omega)).mono fun _ _ ⟨A, c, h1, h2, h3⟩ => ⟨A, c, h1, h2, H1.grow kP (rbp_frames _ _ _ _) h3, h3⟩
end
/-- The reference's bank is made. -/
theorem newRB (w : World) (SV : Value) (R : Int → Rs) (t : TypeId) (cs : Array Value) (hc : cs = #[SV, .slice none 0 0, .slice none 0 0]) : RBAt (w.alloc (.cells cs t)) w.heap.size SV [] R (fun b => w.heap.size ≤ b) := by
  subst hc
  exact ⟨none, none, 0, 0, 0, 0, fun _ => 0, fun _ _ => False, has_new _ _ _ 0 _ rfl, has_new _ _ _ 1 _ rfl, has_new _ _ _ 2 _ rfl, RowK.nil _ _ _, RowK.nil _ _ _, fun n hn => by simp at hn, Nat.le_refl _, fun h => absurd rfl h, fun h => absurd rfl h, fun h => absurd rfl h, fun n hn => by simp at hn, fun n hn => by simp at hn, fun n hn => by simp at hn⟩
/-- The loop's state, i calls made. -/
def PlAt (B : Nat) (w0 w : World) (ba rb bx : Nat) (SA : Option Addr) (len sc : Nat) (L : List Strip) (cs : Array Value) (i : Nat) : Prop :=
  ∃ X R q, Two B w0 w (BP ba X q) (RBP rb (.slice SA len sc) X.no R) bx cs ∧ SimB X R i ∧ q ≤ i ∧ X.L = L
end Go.Proofs.Ytdfkmkflcnfchaa
