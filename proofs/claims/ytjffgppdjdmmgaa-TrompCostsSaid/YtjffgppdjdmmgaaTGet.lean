/- tape's Mem: Get; a deferred closure that recovers in a region that draws its order; end. Own work. -/
import Derived.Test.YtjffgppdjdmmgaaTMem
import Derived.Recover
namespace Go.Proofs.Ytjffgppdjdmmgaa
open Go.ChangeShapes Go.WideShapes Go.ChangeAt Go.RowKit CellM TapeM

section
variable {w : World} {mb : Nat} {ph : Int} {AA : Option Addr} {ac : Nat} {ans : List Int} {S : TS} {F : Nat → Prop}
theorem getM_is (H : PT w mb ph AA ac ans S F) (i : Int) (x : Int) (hx : getL S.loc i = x) : Calls Try.prog 29 #[.pointer (some ⟨mb, 0, none⟩), .int .i64 i] w fun e w' => e = .returned (.int .i64 x) ∧ w = w' := by
  obtain ⟨A, h, c, hD⟩ := H
  have p5 : w.cell? ⟨mb, 5, none⟩ = some (.slice (A 2) S.loc.length (c 2)) := (hD.rows.p 2 (by decide)).1
  have hmax : S.loc.length ≤ maxLen := Nat.le_trans (hD.rows.r 2 (by decide)).le (hD.rows.r 2 (by decide)).max
  unfold maxLen at hmax
  unfold getL at hx
  by_cases h0 : i < 0
  · rw [if_neg (by omega)] at hx
    subst hx
    clear hD
    go_enter Try.func29, Try.ntmps29
    go_wp2_with fail
    go_ret
    exact ⟨rfl, rfl⟩
  · obtain ⟨k, rfl⟩ := Int.eq_ofNat_of_zero_le (show 0 ≤ i by omega)
    by_cases h1 : k < S.loc.length
    · rw [if_pos (by omega)] at hx
      obtain ⟨g5, hh⟩ := hD.place h1
      rw [p5] at g5
      have hA : A 2 = some ⟨h 2, 0, none⟩ := by simp only [Option.some.injEq, Value.slice.injEq] at g5; exact g5.1
      rw [hA] at p5
      have e1 := hh.1
      have hx' : S.loc[k] = x := by rw [← hx]; simp [List.getD, h1]
      rw [hx'] at e1
      clear hD hx hh g5 hA hx' h0
      go_enter Try.func29, Try.ntmps29
      go_wp2_with fail
      go_ret
      exact ⟨rfl, rfl⟩
    · rw [if_neg (by omega)] at hx
      subst hx
      have d1 : (S.loc.length : Int) ≤ k := by omega
      clear hD
      go_enter Try.func29, Try.ntmps29
      go_wp2_with fail
      go_ret
      exact ⟨rfl, rfl⟩
end
/-- A region that draws its order, in a deferred call. -/
theorem wpS_region_draw {P : Program} {id : Nat} {ops : Array Oper} {Q : Exit → Act → List Frame → World → Prop} {a : Act} {cs : List Frame} {w : World}
    (h : ∀ t, wpOpsS P ops Q (Region.schedule (P.follows .mixedOrders) ops t) a cs { w with drawn := w.drawn + 1 }) : (Code.region id ops true).wpS P Q a cs w :=
  fun b k hb hr => let ⟨e, a', cs', w', q, r⟩ := wp_opsS _ a cs _ (h _) b k hb hr; ⟨e, a', cs', w', q, .of_steps (.one step_region_draw) r⟩
/-- .. of three operations, the last one behind the two others. -/
theorem wpS_draw3 {P : Program} {id : Nat} {ops : Array Oper} {Q : Exit → Act → List Frame → World → Prop} {a : Act} {cs : List Frame} {w : World} (hsz : ops.size = 3) (hm : P.follows .mixedOrders = true)
    (h0 : Region.ready .any ops #[false, false, false] = [0, 1]) (h1 : Region.ready .any ops #[true, false, false] = [1]) (h2 : Region.ready .any ops #[false, true, false] = [0]) (h3 : Region.ready .any ops #[true, true, false] = [2])
    (ha : wpOpsS P ops Q [0, 1, 2] a cs w.drew) (hb : wpOpsS P ops Q [1, 0, 2] a cs w.drew) : (Code.region id ops true).wpS P Q a cs w := by
  refine wpS_region_draw fun t => ?_
  have e : ∀ (fuel t : Nat) (listed : Array Bool) (acc : List Nat), Region.linearise.go .any ops (fuel + 1) t listed acc =
      match (Region.ready .any ops listed)[t % (Region.ready .any ops listed).length]? with
      | some i => Region.linearise.go .any ops fuel (t / (Region.ready .any ops listed).length) (listed.setIfInBounds i true) (i :: acc)
      | none => acc.reverse := fun _ _ _ _ => rfl
  have z : ∀ (t : Nat) (listed : Array Bool) (acc : List Nat), Region.linearise.go .any ops 0 t listed acc = acc.reverse := fun _ _ _ => rfl
  have r : Array.replicate 3 false = #[false, false, false] := rfl
  have hs : Region.schedule (P.follows .mixedOrders) ops t = [0, 1, 2] ∨ Region.schedule (P.follows .mixedOrders) ops t = [1, 0, 2] := by
    simp only [Region.schedule, hm, Bool.true_or, if_true, Region.linearise, hsz, r]
    rw [e, h0]
    rcases Nat.mod_two_eq_zero_or_one t with h | h
    · left
      simp only [List.length_cons, List.length_nil, Nat.zero_add, h]
      simp only [List.getElem?_cons_zero]
      rw [show (#[false, false, false] : Array Bool).setIfInBounds 0 true = #[true, false, false] from rfl, e, h1]
      simp only [List.length_cons, List.length_nil, Nat.zero_add, Nat.mod_one, List.getElem?_cons_zero]
      rw [show (#[true, false, false] : Array Bool).setIfInBounds 1 true = #[true, true, false] from rfl, e, h3]
      simp only [List.length_cons, List.length_nil, Nat.zero_add, Nat.mod_one, List.getElem?_cons_zero, z]
      rfl
    · right
      simp only [List.length_cons, List.length_nil, Nat.zero_add, h]
      simp only [List.getElem?_cons_succ, List.getElem?_cons_zero]
      rw [show (#[false, false, false] : Array Bool).setIfInBounds 1 true = #[false, true, false] from rfl, e, h2]
      simp only [List.length_cons, List.length_nil, Nat.zero_add, Nat.mod_one, List.getElem?_cons_zero]
      rw [show (#[false, true, false] : Array Bool).setIfInBounds 0 true = #[true, true, false] from rfl, e, h3]
      simp only [List.length_cons, List.length_nil, Nat.zero_add, Nat.mod_one, List.getElem?_cons_zero, z]
      rfl
  rcases hs with h | h
  · rw [h]; exact ha
  · rw [h]; exact hb
end Go.Proofs.Ytjffgppdjdmmgaa
