/- cell's New. Own work. -/
import Derived.Test.YtdfkmkflcnfchaaEnd8
namespace Go.Proofs.Ytdfkmkflcnfchaa
open Go.ChangeShapes Go.WideShapes Go.ChangeAt Go.RowKit CellM

theorem made64 : madeCells (Value.int .i64 0).cells (64 * 1) = Array.replicate 64 (.int .i64 0) := by
  apply Array.ext
  · simp [madeCells]
  · intro i h1 h2
    simp [madeCells, Value.cells, Nat.mod_one]
theorem make64 (w : World) : (Instr.makeSlice 30 (.int .i64 64) (.int .i64 64)).run Try.prog w = .ok (.slice (some ⟨w.heap.size, 0, none⟩) 64 64) (w.alloc (.cells (Array.replicate 64 (.int .i64 0)) 3)) := by
  obtain ⟨i0, hi, hz0, hz1, hz2⟩ := info_parts infoInt
  have := run_make (P := Try.prog) w 30 3 i0 (.int .i64 0) Try.underlying30 hi hz0 .i64 .i64 64 64 (by omega) (by omega) (by rw [hz2]; omega) (by omega)
  rw [hz1, show ((64 : Int)).toNat = 64 from rfl, made64] at this
  exact this
/-- The cells of a new one. -/
def cells0 (kind top : Int) (R : Value) : Array Value :=
  #[.int .i64 kind, .int .i64 top, .int .i64 0, .int .i64 0, .int .i64 0, .bool false, .slice none 0 0, .int .i64 0, .int .i64 0, .bool false, .slice none 0 0, .int .i64 0, .int .i64 0, .bool false, .slice none 0 0, .int .i64 0, .int .i64 0, .bool false, .slice none 0 0,
    .int .i64 0, .int .i64 0, .bool false, .slice none 0 0, .int .i64 0, .int .i64 0, .bool false, .slice none 0 0, .int .i64 0, .int .i64 0, .bool false, .slice none 0 0, .int .i64 0, .int .i64 0, .bool false, .slice none 0 0, R]
theorem alloc_size (w : World) (o : Obj) : (w.alloc o).heap.size = w.heap.size + 1 := by simp
theorem has_at {w : World} {cs : Array Value} {t : TypeId} {g i : Nat} {x : Value} (hg : g = w.heap.size) (hx : cs[i]? = some x) : Has (w.alloc (.cells cs t)) ⟨g, i, none⟩ x := by
  subst hg; exact has_new _ _ _ _ _ hx
theorem below_two {w w' : World} (h : Below w.heap.size w w') (o : Obj) : Below w.heap.size w (w'.alloc o) := h.alloc h.size o
theorem new_at {w w' : World} {kind top : Int} {R : Value} {ty : TypeId} {rb : Nat} (hk : Kept (fun _ => False) (w.alloc (.cells (cells0 kind (cap 1099511627776 top) R) ty)) w')
    (hR : kind = 2 → R = .slice (some ⟨rb, 0, none⟩) 64 64 ∧ ∀ j, j < 64 → ∃ x, Has w' ⟨rb, j, none⟩ x) (hrb : rb = w.heap.size + 1) : PAt w' w.heap.size (new kind top) (fun b => w.heap.size ≤ b) := by
  have hh : ∀ i x, (cells0 kind (cap 1099511627776 top) R)[i]? = some x → Has w' ⟨w.heap.size, i, none⟩ x := fun i x hx => hk.has _ _ (has_new _ _ _ i x hx) (fun h => h)
  refine ⟨rb, fun _ => .slice none 0 0, fun _ => ⟨0, 0, 0⟩, hh 0 _ rfl, hh 1 _ rfl, hh 2 _ rfl, fun t ht => ?_, fun h => ?_, fun h => (hR h).2, fun t _ h => absurd rfl h, fun _ _ _ => rfl, Nat.le_refl _, fun _ => by omega, fun t _ h => absurd rfl h, by omega, fun t _ h => absurd rfl h, fun t u _ _ _ h => absurd rfl h⟩
  · have h9 : t = 0 ∨ t = 1 ∨ t = 2 ∨ t = 3 ∨ t = 4 ∨ t = 5 ∨ t = 6 ∨ t = 7 := by omega
    rcases h9 with rfl | rfl | rfl | rfl | rfl | rfl | rfl | rfl <;> exact ⟨hh _ _ rfl, hh _ _ rfl, hh _ _ rfl, hh _ _ rfl⟩
  · have := hh 35 R rfl
    rw [(hR h).1] at this
    exact this
set_option maxRecDepth 20000 in
set_option maxHeartbeats 2000000 in
theorem new_is (w : World) (kind top : Int) : Calls Try.prog 40 #[.int .i64 kind, .int .i64 top] w fun e w' => e = .returned (.pointer (some ⟨w.heap.size, 0, none⟩)) ∧ PAt w' w.heap.size (new kind top) (fun b => w.heap.size ≤ b) ∧ Below w.heap.size w w' := by
  have hcc : cap (cap 1099511627776 1099511627776) top = cap 1099511627776 top := rfl
  by_cases h2 : kind = 2
  · subst h2
    have hmk := make64
    go_enter Try.func40, Try.ntmps40
    go_wp2_with fail
    refine (clamp_is _ _ _ hcc _).mono ?_; rintro e w' ⟨rfl, rfl⟩
    go_wp2_with fail
    go_ret
    refine ⟨rfl, new_at (rb := w.heap.size + 1) (R := .slice (some ⟨w.heap.size + 1, 0, none⟩) 64 64) (ty := 76) ((Kept.refl _ _).alloc _) (fun _ => ⟨rfl, fun j hj => ⟨.int .i64 0, ?_⟩⟩) rfl, below_two (below_two (.refl _ _) _) _⟩
    exact has_at (alloc_size _ _).symm (by simp [hj])
  · have d2 : (kind == 2) = false := by simp [h2]
    go_enter Try.func40, Try.ntmps40
    go_wp2_with fail
    refine (clamp_is _ _ _ hcc _).mono ?_; rintro e w' ⟨rfl, rfl⟩
    go_wp2_with fail
    go_ret
    exact ⟨rfl, new_at (rb := w.heap.size + 1) (R := .slice none 0 0) (ty := 76) (Kept.refl _ _) (fun h => absurd h h2) rfl, (Below.refl _ _).alloc (Nat.le_refl _) _⟩
end Go.Proofs.Ytdfkmkflcnfchaa
