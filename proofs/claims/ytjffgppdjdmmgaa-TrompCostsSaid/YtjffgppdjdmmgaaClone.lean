/- slices.Clone of ints. Own work. -/
import Derived.Test.YtjffgppdjdmmgaaAppI
namespace Go.Proofs.Ytjffgppdjdmmgaa
open Go.ChangeShapes Go.WideShapes Go.ChangeAt Go.RowKit

/-- A row of ints of the call's own. -/
def GivesI (w : World) (l : List Int) (e : Ending) (w' : World) : Prop := ∃ v, e = .returned v ∧ OwnI w' w.heap.size v l ∧ Below w.heap.size w w'
theorem eql_nil_i (w : World) (A : Option Addr) (n c : Nat) : (binOp .eql 24 (.slice A n c) (.slice none 0 0)).run Try.prog w = .ok (.bool A.isNone) w :=
  Lib.run_eql_slice_nil w _ _ A n c 0 0 Try.underlying24
theorem clone_is (A : Option Addr) (c n : Nat) (l : List Int) (hn : l.length = n) (h1000 : n ≤ 1000) (w : World) (hr : RI w A c l) :
    Calls Try.prog 43 #[.slice A n c] w (GivesI w l) := by
  subst hn
  have R := Lib.hid hr; clear hr
  cases A with
  | none =>
    have h0 := R.out.2.2.1 rfl
    have h1 := R.out.1
    obtain rfl : l = [] := List.eq_nil_of_length_eq_zero (by omega)
    subst h0
    have q : ∀ w, (binOp .eql 24 (.slice none 0 0) (.slice none 0 0)).run Try.prog w = .ok (.bool true) w := fun w => eql_nil_i w none 0 0
    go_enter Try.func43, Try.ntmps43
    go_wp2_with fail
    go_ret
    exact ⟨_, rfl, OwnI.nil _ _, Below.refl _ _⟩
  | some ad =>
    have hO : OwnI (w.alloc (.cells #[] 3)) w.heap.size (.slice (some ⟨w.heap.size, 0, none⟩) 0 0) [] := by
      unfold OwnI
      exact World.ownsRow_lit (e := 3) (size := 1) w #[] 0 (Nat.le_refl _) (by decide) (by simp)
    have q : ∀ w, (binOp .eql 24 (.slice (some ad) l.length c) (.slice none 0 0)).run Try.prog w = .ok (.bool false) w := fun w => eql_nil_i w (some ad) l.length c
    go_enter Try.func43, Try.ntmps43
    go_wp2_with (at_builtin; refine app_ints rfl _ _ rfl w.heap.size _ [] rfl hO (some ad) l.length c l rfl (R.out.alloc _) rfl ?c1 ?c2 ?_)
    case c1 => simp; omega
    case c2 => simp
    intro v' w1 hown' hB1
    have h2 : Below w.heap.size w w1 := ((Below.refl w.heap.size w).alloc (Nat.le_refl _) _).trans hB1
    have h3 : OwnI w1 w.heap.size v' l := by simpa using hown'
    clear hB1 hown'
    go_wp2
    go_ret
    exact ⟨_, rfl, h3, h2⟩
end Go.Proofs.Ytjffgppdjdmmgaa
