/- Contracts of stamps' calls that make rows, two: others, newStamp. Own work. -/
import Derived.Test.YtdkliknnnolngaaDoorStQ
import Derived.StillTailTactics
import Derived.Deep.RegionHeld3
namespace Go.Proofs.YtdkliknnnolngaaDoor
open Go.ChangeShapes Go.WideShapes Go.ChangeAt Go.RowKit Cyc

theorem others_is (A : Option Addr) (c n me : Nat) (L : List (List Int)) (hn : L.length = n) (h1000 : n ≤ 1000) (hme : me < n) (w : World) (vs : List Value) (hv : RV w A c vs) (hV : Vals w vs L) :
    Calls Tryd.prog 29 #[.slice A n c, .int .i64 me] w (GivesV w w (L.eraseIdx me)) := by
  have hR : RR w A c L := ⟨vs, hv, hV⟩
  have hlv : vs.length = n := by rw [hV.1, hn]
  have hmax := hR.max
  unfold maxLen at hmax
  have q1 := slice_to A n c me (by have := hR.len; omega)
  obtain ⟨A', q2, hv2⟩ := slice_from hv hlv (k := me + 1) (by omega)
  rw [show ((me + 1 : Nat) : Int) = IntKind.i64.wrap ((me : Int) + 1) from by rw [IntKind.wrap_i64]; omega] at q2
  go_enter Tryd.func29, Tryd.ntmps29
  go_wp2_with fail
  go_still_tail 7, (by kernel_rfl)
  obtain ⟨w2, hw2⟩ : ∃ w2, w2 = w.drew := ⟨_, rfl⟩
  change wpList _ _ _ _ _ w.drew
  rw [← hw2]
  have hB2 : Below w.heap.size w w2 := by rw [hw2]; exact (Below.refl _ _).drew
  have hs2 : w2.heap.size = w.heap.size := by rw [hw2]; rfl
  clear hw2
  have hal := below_alloc w2
  go_wp2_with fail
  have hcell := rv_lit w2 [Value.slice A me c, Value.slice A' (n - (me + 1)) (c - (me + 1))] 22 2 rfl (by decide) _ rfl
  rw [hs2] at hcell
  have hB3 : Below w.heap.size w (w2.alloc (.cells #[Value.slice A me c, Value.slice A' (n - (me + 1)) (c - (me + 1))] 22)) := hB2.alloc (by omega) _
  refine (concat_is ⟨w.heap.size, 0, none⟩ A A' 2 me (n - (me + 1)) c (c - (me + 1)) (vs.take me) (vs.drop (me + 1)) (by rw [List.length_take]; omega) (by rw [List.length_drop]; omega) (by omega) _ hcell ((hv.take me).below hB3) (hv2.below hB3)
    (fun u hu => hV.one u (List.mem_of_mem_take hu)) (fun u hu => hV.one u (List.mem_of_mem_drop hu))).mono ?_
  rintro e w' ⟨v, rfl, hown, hB4⟩
  have hs3 := hB3.size
  have h4 : OwnV w' w.heap.size v (vs.take me ++ vs.drop (me + 1)) := hown.mono hs3
  have h5 : Below w.heap.size w w' := hB3.trans (hB4.mono hs3)
  have h6 : Vals w (vs.take me ++ vs.drop (me + 1)) (L.eraseIdx me) := by rw [← erase_cut]; exact (hV.take me).append (hV.drop (me + 1))
  clear hown hB4 hB3 hcell hB2
  go_wp2_with fail
  go_ret
  exact ⟨v, _, rfl, h4, h6, h5⟩
end Go.Proofs.YtdkliknnnolngaaDoor
