/- told: an outcome as a value. Own work. -/
import Derived.Test.YtjffgppdjdmmgaaTOut
namespace Go.Proofs.Ytjffgppdjdmmgaa
open Go.ChangeShapes Go.WideShapes Go.ChangeAt Go.RowKit CellM TapeM

def outV (d : Bool) (A1 A2 A3 : Option Addr) (n1 n2 n3 c1 c2 c3 : Nat) : Value := .agg #[.bool d, .slice A1 n1 c1, .slice A2 n2 c2, .slice A3 n3 c3]
/-- The outcome o: done or not, its accesses, notes, locals. -/
structure OutD (w : World) (S : TS) (A1 A2 A3 : Option Addr) (h1 h2 c1 c2 c3 : Nat) : Prop where
  r1 : RowK w 3 A1 h1 c1 S.acc.length (flatAc S.acc)
  r2 : RowK w 2 A2 h2 c2 S.nts.length (flatNt S.nts)
  r3 : RI w A3 c3 (short S.loc)
def OutAt (w : World) (o : Value) (d : Bool) (S : TS) : Prop := ∃ A1 A2 A3 h1 h2 c1 c2 c3, o = outV d A1 A2 A3 S.acc.length S.nts.length (shN S.loc) c1 c2 c3 ∧ OutD w S A1 A2 A3 h1 h2 c1 c2 c3
theorem OutD.below {w w' : World} {S : TS} {A1 A2 A3 : Option Addr} {h1 h2 c1 c2 c3 : Nat} (H : OutD w S A1 A2 A3 h1 h2 c1 c2 c3) (hb : Below w.heap.size w w') : OutD w' S A1 A2 A3 h1 h2 c1 c2 c3 := ⟨H.r1.below hb, H.r2.below hb, H.r3.below hb⟩
theorem OutAt.below {w w' : World} {o : Value} {d : Bool} {S : TS} (H : OutAt w o d S) (hb : Below w.heap.size w w') : OutAt w' o d S := by
  obtain ⟨A1, A2, A3, h1, h2, c1, c2, c3, e, H⟩ := H
  exact ⟨A1, A2, A3, h1, h2, c1, c2, c3, e, H.below hb⟩
/-- .. whatever becomes of what lies before B. -/
def OutB (w : World) (B : Nat) (o : Value) (d : Bool) (S : TS) : Prop := ∀ w', Kept (fun p => p.block < B) w w' → OutAt w' o d S
theorem OutB.at_ {w : World} {B : Nat} {o : Value} {d : Bool} {S : TS} (H : OutB w B o d S) : OutAt w o d S := H w (Kept.refl _ _)
/-- .. whatever becomes of the block mb, and of what is none of F's. -/
def OutK (w : World) (mb : Nat) (F : Nat → Prop) (o : Value) (d : Bool) (S : TS) : Prop := ∀ w', Kept (fun p => p.block = mb ∨ ¬ F p.block) w w' → OutAt w' o d S
section
variable {w : World} {mb : Nat} {ph : Int} {AA : Option Addr} {ac : Nat} {ans : List Int} {S : TS} {F : Nat → Prop}
set_option maxHeartbeats 2000000 in
theorem told_is (H : PT w mb ph AA ac ans S F) (d : Bool) (hd : (ph != 2) = d) :
    Calls Try.prog 27 #[.pointer (some ⟨mb, 0, none⟩)] w fun e w' => ∃ A1 A2 A3 c1 c2 c3, e = .returned (outV d A1 A2 A3 S.acc.length S.nts.length (shN S.loc) c1 c2 c3) ∧ OutK w' mb F (outV d A1 A2 A3 S.acc.length S.nts.length (shN S.loc) c1 c2 c3) d S ∧ Below w.heap.size w w' := by
  have hmb := H.lt
  have c0 := H.c0.1
  obtain ⟨A, h, c, hD⟩ := H
  have c2 : w.cell? ⟨mb, 2, none⟩ = some (.bool false) := (hD.hd 2 (by decide)).1
  have c3 : w.cell? ⟨mb, 3, none⟩ = some (.slice (A 0) S.acc.length (c 0)) := (hD.rows.p 0 (by decide)).1
  have c4 : w.cell? ⟨mb, 4, none⟩ = some (.slice (A 1) S.nts.length (c 1)) := (hD.rows.p 1 (by decide)).1
  have c5 : w.cell? ⟨mb, 5, none⟩ = some (.slice (A 2) S.loc.length (c 2)) := (hD.rows.p 2 (by decide)).1
  have hl3 : RI w (A 2) (c 2) S.loc := (hD.rows.r 2 (by decide)).ri.2
  have HU := Lib.hid (fun (wx : World) (hb : Below w.heap.size w wx) => upTo_is wx (A 2) (c 2) S.loc.length S.loc rfl (hl3.below hb) _ rfl)
  have HO := Lib.hid (fun (wx : World) (hk : Kept (fun p => p.block = mb ∨ ¬ F p.block) w wx) => by
    have hne : ∀ i, i < 3 → ∀ j, j < c i * kk i → ¬ ((⟨h i, j, none⟩ : Addr).block = mb ∨ ¬ F (⟨h i, j, none⟩ : Addr).block) := fun i hi j hj hh => by
      have hc : c i ≠ 0 := fun e => by rw [e] at hj; omega
      rcases hh with hh | hh
      · exact hD.rows.ne i hi hc hh
      · exact hh (hD.rows.rF i hi hc)
    exact (show OutD wx S (A 0) (A 1) (A 2) (h 0) (h 1) (c 0) (c 1) (c 2) from ⟨(hD.rows.r 0 (by decide)).keep hk (hne 0 (by decide)), (hD.rows.r 1 (by decide)).keep hk (hne 1 (by decide)), (((hD.rows.r 2 (by decide)).keep hk (hne 2 (by decide))).ri.2.take _)⟩))
  have HDd := Lib.hid hd
  clear hD hl3 hd
  go_enter Try.func27, Try.ntmps27
  go_wp2_with fail
  refine (HU.out _ (((Below.refl _ _).alloc (Nat.le_refl _) _).alloc (by simp) _)).mono ?_; rintro e w' ⟨rfl, rfl⟩
  go_wp2_with fail
  refine bodyPost_ret (v := outV (ph != 2) (A 0) (A 1) (A 2) S.acc.length S.nts.length (shN S.loc) (c 0) (c 1) (c 2)) (by simp [results, Try.results27, go_sem, outV]) rfl ?_
  rw [HDd.out]
  have hb : Below w.heap.size w ((w.alloc (.cells #[.bool d, .slice (A 0) S.acc.length (c 0), .slice (A 1) S.nts.length (c 1), .slice (A 2) (shN S.loc) (c 2)] 30)).alloc (.cells #[.bool d, .slice (A 0) S.acc.length (c 0), .slice (A 1) S.nts.length (c 1), .slice (A 2) (shN S.loc) (c 2)] 30)) := ((Below.refl _ _).alloc (Nat.le_refl _) _).alloc (by simp) _
  exact ⟨_, _, _, _, _, _, rfl, fun wx hk => ⟨_, _, _, _, _, _, _, _, rfl, HO.out wx ((Kept.below hb).trans hk)⟩, hb⟩
end
end Go.Proofs.Ytjffgppdjdmmgaa
