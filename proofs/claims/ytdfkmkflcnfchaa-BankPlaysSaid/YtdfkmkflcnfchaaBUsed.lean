/- The bank's Used: the map's keys, sorted. Own work. -/
import Derived.Test.YtdfkmkflcnfchaaBEnd
import Derived.Shelf.AbstractIn
namespace Go.Proofs.Ytdfkmkflcnfchaa
open Go.ChangeShapes Go.WideShapes Go.ChangeAt Go.RowKit CellM Go.Maps Go.Sort Go.Shelf

def sortI (l : List Int) : List Int := l.mergeSort fun x y => decide (x ≤ y)
theorem sortI_perm {l m : List Int} (h : l.Perm m) : sortI l = sortI m := mergeSort_of_perm_i h
theorem sortI_len (l : List Int) : (sortI l).length = l.length := List.length_mergeSort _
theorem keys_perm {w : World} {mb q : Nat} {D : DataW Unit} {no : List Int} {pb : Int → Nat} (h : w.ownsMap Try.prog 3 Rp mb q D) (hm : MapOf D no pb) (hn : no.Nodup) : no.Perm (intKeys D) :=
  CollectedI.perm (left := fun _ => false) ⟨hn, fun x => by rw [← hm.has x]; simp⟩ h keyedI (by kernel_rfl) (fun _ => rfl)
/-- slices.Sort's two contracts, at the fence that asks nothing. -/
theorem sortsA (m : Nat) : AnyZI.SortsIn Try.prog Try.sortedA_ren Fence.wide m :=
  ⟨fun blk off cap ss W hH hblk hsz => callsIn_wide.2 (Try.slices_Sort_int blk off cap ss W hH hblk hsz),
   fun p cap W => callsIn_wide.2 (Try.slices_Sort_int_none p cap W)⟩
set_option maxRecDepth 20000 in
set_option maxHeartbeats 2000000 in
theorem usedD_is (w : World) (bb mb q : Nat) (D : DataW Unit) (hm : Has w ⟨bb, 2, none⟩ (.map (some mb))) (hown : w.ownsMap Try.prog 3 Rp mb q D) (hq : q ≤ 1000000) :
    Calls Try.prog 16 #[.pointer (some ⟨bb, 0, none⟩)] w fun e w' => ∃ (v : Value) (ss : List Int), e = .returned v ∧ ss.Perm (intKeys D) ∧
      w'.ownsRow w.heap.size 3 1 v ss.length ((ss.mergeSort (fun x y => decide (x ≤ y))).map encZ) ∧ Below w.heap.size w w' := by
  have c2 := hm.1
  have hsz := hown.size_le
  have hmax : Maps.size D ≤ maxLen := by unfold maxLen; omega
  have hbytes : Maps.size D * 8 ≤ 140737488355328 := by omega
  refine (callsIn_wide (n := 6)).1 ?_
  have hbl := hown.lt
  have hseq : SeqGives Fence.wide 2 Try.prog 46 #[.pointer (some ⟨w.heap.size, 0, none⟩)] encZ (fun ss => ss.Perm (intKeys D)) (Maps.size D) (w.alloc (.cells #[.map (some mb)] 54)) :=
    AnyZI.keys_gives (ρ := Try.keysA_ren) { Try.keysA with } Fence.wide _ trivial rfl (by omega) w.heap.size mb q D _ (by simp) (by simp) (by
      obtain ⟨es, clock, hb, Ft, hs, hD⟩ := hown
      exact ⟨es, clock, (Below.heap_alloc _ _ mb hbl).trans hb, Ft, hs, hD⟩)
  have cK : ∀ mb W, CallsIn Fence.wide 5 Try.prog 32 #[.map mb] W fun e w' => e = .returned (.func (.func 46) #[] #[.pointer (some ⟨W.heap.size, 0, none⟩)]) ∧ w' = W.alloc (.cells #[.map mb] 54) := fun mb W => AnyZI.keys_in Try.keysA Fence.wide 5 trivial rfl mb W
  have cS := AnyZI.sorted_in Try.sortedA Fence.wide 5 trivial trivial trivial trivial rfl (by omega) (sortsA _) (enters_of Try.func45 (by kernel_rfl) rfl) 46 #[.pointer (some ⟨w.heap.size, 0, none⟩)] trivial (enters_of Try.func46 (by kernel_rfl) rfl) _ _ hmax hbytes _ hseq
  change CallsIn _ _ Try.prog 31 _ _ _ at cS
  have hfK : Fence.wide.fn 32 := trivial
  have hfS : Fence.wide.fn 31 := trivial
  refine callsIn_of_wp Try.func16 rfl trivial ?_ rfl
  simp only [Try.ntmps16, List.size_toArray, List.length_cons, List.length_nil, Nat.reduceAdd, Nat.reduceSub, Array.replicate_succ, Array.replicate_zero, List.push_toArray, List.append_toArray, List.nil_append, List.cons_append]
  gi_wp2_with (first
    | (gi_at_call 32; refine (cK _ _).mono ?_; rintro e w' ⟨rfl, rfl⟩)
    | (gi_at_call 31; refine cS.mono ?_; rintro e w' ⟨v, ss, rfl, hS, hrow, _, hb⟩))
  go_ret
  exact ⟨v, ss, rfl, hS, ownsRow_base_a hrow (by simp), ((Below.refl _ w).alloc (Nat.le_refl _) _).trans (hb.mono (by simp))⟩
theorem used_is (w : World) (bb : Nat) (X : Bk) (q m : Nat) (F : Nat → Prop) (H : BAt w bb X q F) (hG : GoodB X m) (hq : q ≤ 1000000) :
    Calls Try.prog 16 #[.pointer (some ⟨bb, 0, none⟩)] w fun e w' => ∃ A c, e = .returned (.slice A X.no.length c) ∧ RI w' A c (sortI X.no) ∧ Below w.heap.size w w' := by
  obtain ⟨SA, EA, sh, sc, eh, ec, mb, D, pb, Fc, H⟩ := H
  refine (usedD_is w bb mb q D H.fix.m H.mo hq).mono ?_
  rintro e w' ⟨v, ss, rfl, hS, hrow, hb⟩
  have hp := keys_perm H.mo H.mp hG.nodup
  have e1 : sortI ss = sortI X.no := sortI_perm (hS.trans hp.symm)
  have e2 : ss.length = X.no.length := (hS.trans hp.symm).length_eq
  have hO : OwnI w' w.heap.size v (sortI X.no) := by
    unfold OwnI
    rw [sortI_len, ← e2, ← e1]; exact hrow
  obtain ⟨A, c, rfl, hr⟩ := hO.reads
  exact ⟨A, c, by rw [sortI_len], hr, hb⟩
end Go.Proofs.Ytdfkmkflcnfchaa
