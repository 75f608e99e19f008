/- Contracts of cycle's calls that make memory, one: Zeros. Own work. -/
import Derived.Test.YtdkliknnnolngaaDoorCycP
namespace Go.Proofs.YtdkliknnnolngaaDoor
open Go.ChangeShapes Go.WideShapes Go.ChangeAt Go.RowKit Cyc

/-- n numbers 0, as cells. -/
def zeroCells (k : Nat) : Array Value := ((List.replicate k 0).map (Value.int .i64)).toArray
theorem made_zeros (k : Nat) : madeCells (Value.int .i64 0).cells (k * 1) = zeroCells k := by
  apply Array.ext
  · simp [madeCells, zeroCells]
  · intro i h1 h2
    simp [madeCells, zeroCells, Value.cells, Nat.mod_one]
theorem zeros_run (k : Nat) (hk : k ≤ 8) (w : World) : (Instr.makeSlice 31 (.int .i64 (k : Int)) (.int .i64 (k : Int))).run Tryd.prog w = .ok (.slice (some ⟨w.heap.size, 0, none⟩) k k) (w.alloc (.cells (zeroCells k) 3)) := by
  obtain ⟨i0, hi, hz0, hz1, hz2⟩ := info_parts infoInt
  have := run_make (P := Tryd.prog) w 31 3 i0 (.int .i64 0) Tryd.underlying31 hi hz0 .i64 .i64 k k (by omega) (by omega) (by rw [hz2]; omega) (by omega)
  rw [hz1, show ((k : Int)).toNat = k from rfl, made_zeros] at this
  exact this
theorem zeros_is (n : Int) (k : Nat) (hk : min (max n 0) 8 = (k : Int)) (w : World) :
    Calls Tryd.prog 23 #[.int .i64 n] w fun e w' => e = .returned (.slice (some ⟨w.heap.size, 0, none⟩) k k) ∧ w' = w.alloc (.cells (zeroCells k) 3) := by
  by_cases h0 : n < 0
  · obtain rfl : k = 0 := by omega
    have hrun : ∀ w : World, (Instr.makeSlice 31 (.int .i64 0) (.int .i64 0)).run Tryd.prog w = .ok (.slice (some ⟨w.heap.size, 0, none⟩) 0 0) (w.alloc (.cells (zeroCells 0) 3)) := zeros_run 0 (by decide)
    clear hk
    go_enter Tryd.func23, Tryd.ntmps23
    go_wp2_with fail
    go_ret
    exact ⟨rfl, rfl⟩
  · by_cases h8 : 8 < n
    · obtain rfl : k = 8 := by omega
      have h1 : 0 ≤ n := by omega
      have hrun : ∀ w : World, (Instr.makeSlice 31 (.int .i64 8) (.int .i64 8)).run Tryd.prog w = .ok (.slice (some ⟨w.heap.size, 0, none⟩) 8 8) (w.alloc (.cells (zeroCells 8) 3)) := zeros_run 8 (by decide)
      clear hk
      go_enter Tryd.func23, Tryd.ntmps23
      go_wp2_with fail
      go_ret
      exact ⟨rfl, rfl⟩
    · obtain rfl : n = (k : Int) := by omega
      have h2 : (k : Int) ≤ 8 := by omega
      have hrun := zeros_run k (by omega)
      clear hk
      go_enter Tryd.func23, Tryd.ntmps23
      go_wp2_with fail
      go_ret
      exact ⟨rfl, rfl⟩
theorem zeros_ri (w : World) (k : Nat) (hk : k ≤ 8) : RI (w.alloc (.cells (zeroCells k) 3)) (some ⟨w.heap.size, 0, none⟩) k (List.replicate k 0) :=
  (Blk.new w 3 (zeroCells k)).ints (by simp) (by unfold maxLen; omega)

end Go.Proofs.YtdkliknnnolngaaDoor
