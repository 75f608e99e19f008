/- make([]int, n). Own work. -/
import Derived.Test.YthijoklafbnhlaaIntsB
import Derived.Laws.MakeOwn
namespace Go.Proofs.Ythijoklafbnhlaa
open Go.ChangeShapes Go.WideShapes Go.ChangeAt Go.RowKit

/-- n numbers 0, as cells. -/
def zeroCells (k : Nat) : Array Value := ((List.replicate k 0).map (Value.int .i64)).toArray
theorem made_zeros (k : Nat) : madeCells (Value.int .i64 0).cells (k * 1) = zeroCells k := by
  apply Array.ext
  · simp [madeCells, zeroCells]
  · intro i h1 h2
    simp [madeCells, zeroCells, Value.cells, Nat.mod_one]
theorem zeros_run (k : Nat) (hk : k ≤ 100000) (w : World) : (Instr.makeSlice 24 (.int .i64 (k : Int)) (.int .i64 (k : Int))).run Try.prog w = .ok (.slice (some ⟨w.heap.size, 0, none⟩) k k) (w.alloc (.cells (zeroCells k) 3)) := by
  obtain ⟨i0, hi, hz0, hz1, hz2⟩ := info_parts infoInt
  have := run_make (P := Try.prog) w 24 3 i0 (.int .i64 0) Try.underlying24 hi hz0 .i64 .i64 k k (by omega) (by omega) (by rw [hz2]; omega) (by omega)
  rw [hz1, show ((k : Int)).toNat = k from rfl, made_zeros] at this
  exact this
theorem zeros_ri (k : Nat) (hk : k ≤ 100000) (w : World) : RI (w.alloc (.cells (zeroCells k) 3)) (some ⟨w.heap.size, 0, none⟩) k (List.replicate k 0) := ri_lit w (List.replicate k 0) k (by simp) (by unfold maxLen; omega) _ rfl
end Go.Proofs.Ythijoklafbnhlaa
