/- tape's perform: an operation done till it ends or stops. Own work. -/
import Derived.Test.YtjffgppdjdmmgaaTGet
import Derived.LaidEqlPtr
namespace Go.Proofs.Ytjffgppdjdmmgaa
open Go.ChangeShapes Go.WideShapes Go.ChangeAt Go.RowKit CellM TapeM

theorem assert_nil (w : World) : (Instr.typeAssert .nilIface 20 72 true).run Try.prog w = .ok (.tuple #[.agg #[.pointer none], .bool false]) w := by kernel_rfl
theorem assert_stop (w : World) (mb : Nat) : (Instr.typeAssert (.iface 72 (.agg #[.pointer (some ⟨mb, 0, none⟩)])) 20 72 true).run Try.prog w = .ok (.tuple #[.agg #[.pointer (some ⟨mb, 0, none⟩)], .bool true]) w := by kernel_rfl
theorem infoMem : ∃ j, Try.prog.info? 56 = some j := by
  have h : (Try.prog.info? 56).isSome = true := by kernel_rfl
  exact Option.isSome_iff_exists.1 h
theorem eql_mem (a : Addr) (w : World) : (binOp .eql 33 (.pointer (some a)) (.pointer (some a))).run Try.prog w = .ok (.bool true) w := by
  obtain ⟨j, hj⟩ := infoMem
  exact run_eql_ptr_same (P := Try.prog) w a (by kernel_rfl) hj
theorem end_nil (w : World) (mb : Nat) : Calls Try.prog 46 #[.pointer (some ⟨mb, 0, none⟩), .nilIface] w fun e w' => e = .returned (.tuple #[]) ∧ Below w.heap.size w w' := by
  have ha := assert_nil
  go_enter Try.func46, Try.ntmps46
  go_wp2_with fail
  first | go_end0 | refine bodyPost_ret (results_none rfl _ _ _) rfl ?_
  exact ⟨rfl, (Below.refl _ _).alloc (Nat.le_refl _) _⟩
theorem end_stop (w : World) (mb : Nat) : Calls Try.prog 46 #[.pointer (some ⟨mb, 0, none⟩), stopV mb] w fun e w' => e = .returned (.tuple #[]) ∧ Below w.heap.size w w' := by
  unfold stopV
  have ha := fun w => assert_stop w mb
  have hq := fun w => eql_mem ⟨mb, 0, none⟩ w
  go_enter Try.func46, Try.ntmps46
  go_wp2_with fail
  first | go_end0 | refine bodyPost_ret (results_none rfl _ _ _) rfl ?_
  exact ⟨rfl, (Below.refl _ _).alloc (Nat.le_refl _) _⟩
theorem catch_idle (w : World) (pb mb : Nat) (hc : w.cell? ⟨pb, 0, none⟩ = some (.pointer (some ⟨mb, 0, none⟩))) :
    CallsD Try.prog 45 #[.pointer (some ⟨pb, 0, none⟩)] .returning w fun e u' w' => e = .returned (.tuple #[]) ∧ u' = .returning ∧ Below w.heap.size w w' := by
  refine callsD_of_wpS Try.func45 rfl fun c₀ cs hu => ?_
  refine wpS_draw3 rfl (by kernel_rfl) (by kernel_rfl) (by kernel_rfl) (by kernel_rfl) (by kernel_rfl) ?_ ?_
  all_goals
    simp [wpOpsS, go_sem, recoverD, hu, hc]
    refine (end_nil _ _).mono ?_
    rintro e w' ⟨rfl, hb⟩
    exact ⟨rfl, .returning, by cases c₀; simp_all, .tuple #[], by simp [results, Try.results45], rfl, rfl, ((Below.refl _ _).drew).trans hb⟩
theorem catch_stop (w : World) (pb mb : Nat) (hc : w.cell? ⟨pb, 0, none⟩ = some (.pointer (some ⟨mb, 0, none⟩))) :
    CallsD Try.prog 45 #[.pointer (some ⟨pb, 0, none⟩)] (.panicking [{ v := stopV mb, recovered := false }]) w fun e u' w' => e = .returned (.tuple #[]) ∧ u' = .panicking [{ v := stopV mb, recovered := true }] ∧ Below w.heap.size w w' := by
  refine callsD_of_wpS Try.func45 rfl fun c₀ cs hu => ?_
  refine wpS_draw3 rfl (by kernel_rfl) (by kernel_rfl) (by kernel_rfl) (by kernel_rfl) (by kernel_rfl) ?_ ?_
  all_goals
    simp [wpOpsS, go_sem, recoverD, hu, hc]
    refine (end_stop _ _).mono ?_
    rintro e w' ⟨rfl, hb⟩
    exact ⟨rfl, .panicking [{ v := stopV mb, recovered := true }], rfl, .tuple #[], by simp [results, Try.results45], rfl, rfl, ((Below.refl _ _).drew).trans hb⟩
end Go.Proofs.Ytjffgppdjdmmgaa
