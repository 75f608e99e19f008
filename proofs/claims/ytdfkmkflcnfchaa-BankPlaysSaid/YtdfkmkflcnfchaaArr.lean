/- The array of accesses read whole, an access of it, the cut of the room. Own work. -/
import Derived.Test.YtdfkmkflcnfchaaAt
namespace Go.Proofs.Ytdfkmkflcnfchaa
open Go.ChangeShapes Go.WideShapes Go.ChangeAt Go.RowKit CellM

/-- The array of accesses, as it is read whole. -/
def arrD (d : Nat → CellM.Acc) (V : Nat → Value) : Array Value :=
  ((List.range 32).map fun j => if j % 4 = 0 then .int .i64 (d (j / 4)).k else if j % 4 = 1 then .int .i64 (d (j / 4)).w else if j % 4 = 2 then .bool (d (j / 4)).m else V (j / 4)).toArray
theorem infoArr : (Try.prog.info? 74).map (·.size) = some 32 := by kernel_rfl
theorem load_arr {w : World} {cb rb : Nat} {S : St} {V : Nat → Value} {pl : Nat → Pl} {F : Nat → Prop} (H : PAtD w cb rb S V pl F) :
    (loadVar 74 ⟨cb, 3, none⟩).run Try.prog w = .ok (.agg (arrD S.d V)) w := by
  have hl : (loadCells ⟨cb, 3, none⟩ 32).run Try.prog w = .ok (arrD S.d V) w := by
    refine run_loadCells w _ 32 _ (fun j hj => ?_)
    have hadd : (⟨cb, 3, none⟩ : Addr).add j = ⟨cb, 3 + j, none⟩ := by unfold Addr.add; split <;> simp_all
    rw [hadd]
    have ha := H.acc (j / 4) (by omega)
    have h4 : j % 4 = 0 ∨ j % 4 = 1 ∨ j % 4 = 2 ∨ j % 4 = 3 := by omega
    rcases h4 with h | h | h | h
    · have e : 3 + j = 3 + j / 4 * 4 := by omega
      rw [e, if_pos h]; exact ha.k.1
    · have e : 3 + j = 3 + j / 4 * 4 + 1 := by omega
      rw [e, if_neg (by omega), if_pos h]; exact ha.w_.1
    · have e : 3 + j = 3 + j / 4 * 4 + 2 := by omega
      rw [e, if_neg (by omega), if_neg (by omega), if_pos h]; exact ha.m.1
    · have e : 3 + j = 3 + j / 4 * 4 + 3 := by omega
      rw [e, if_neg (by omega), if_neg (by omega), if_neg (by omega)]; exact ha.c.1
  have hu : Try.prog.underlying 74 = some (.array 8 73) := by kernel_rfl
  have hagg : (isAgg 74).run Try.prog w = .ok true w := by
    unfold isAgg
    rw [Sem.run_bind, run_underlying hu w]
    rfl
  have hq := infoArr
  cases hi : Try.prog.info? 74 with
  | none => rw [hi] at hq; cases hq
  | some i =>
    have hs : i.size = 32 := by simpa [hi] using hq
    simp [loadVar, Sem.run_bind, hagg, sizeOf, typeInfo, hi, hs, hl]
/-- The whole array, for the walk. -/
theorem wpList_load_arr {ops : Array Oper} {rest : List Oper} {o : Oper} {a : Act} {w : World} {Q : Exit → Act → World → Prop} (hgd : o.guard = none) (x : Operand) (ho : o.op = .load 74 x) {cb : Nat} {d : Nat → CellM.Acc} {V : Nat → Value}
    (hx : a.eval x = .pointer (some ⟨cb, 3, none⟩)) (hl : (loadVar 74 ⟨cb, 3, none⟩).run Try.prog w = .ok (.agg (arrD d V)) w)
    (h : wpList Try.prog ops Q rest (a.put o.dst (.agg (arrD d V))) w) : wpList Try.prog ops Q (o :: rest) a w := by
  refine wpList_plain hgd fun _ hK => ?_
  unfold Oper.wp execOp
  simp only [ho, hx, Instr.loadAt, Instr.sureAddr, Sem.run_bind, Sem.run_pure, Result.andThen_ok, hl]
  exact hK _ _ h
theorem infoAcc : (Try.prog.info? 73).map (·.size) = some 4 := by kernel_rfl
theorem index_arr (d : Nat → CellM.Acc) (V : Nat → Value) (t : Nat) (ht : t < 8) (w : World) :
    (Instr.index 74 (.agg (arrD d V)) (.int .i64 t)).run Try.prog w = .ok (.agg #[.int .i64 (d t).k, .int .i64 (d t).w, .bool (d t).m, V t]) w := by
  have hu : Try.prog.underlying 74 = some (.array 8 73) := by kernel_rfl
  have hS : ((Try.prog.underlying 73).map fun d => match d with | .struct _ => true | _ => false) = some true := by kernel_rfl
  obtain ⟨fs, hud⟩ : ∃ fs, Try.prog.underlying 73 = some (.struct fs) := by
    cases h : Try.prog.underlying 73 with
    | none => rw [h] at hS; cases hS
    | some d =>
      rw [h] at hS
      cases d
      case struct fs => exact ⟨fs, rfl⟩
      all_goals cases hS
  have hagg : (isAgg 73).run Try.prog w = .ok true w := by
    unfold isAgg
    rw [Sem.run_bind, run_underlying hud w]
    rfl
  have hq := infoAcc
  cases hi : Try.prog.info? 73 with
  | none => rw [hi] at hq; cases hq
  | some i =>
    have hs : i.size = 4 := by simpa [hi] using hq
    have h8 : (0 : Int) ≤ t ∧ (t : Int) < 8 := by omega
    simp only [Instr.index, asIntOf, Sem.run_bind, Sem.run_pure, Result.andThen_ok, run_underlying hu w]
    simp [h8, sizeOf, typeInfo, hi, hs, part, hagg, Sem.run_bind, Result.andThen]
    have h9 : t = 0 ∨ t = 1 ∨ t = 2 ∨ t = 3 ∨ t = 4 ∨ t = 5 ∨ t = 6 ∨ t = 7 := by omega
    rcases h9 with rfl | rfl | rfl | rfl | rfl | rfl | rfl | rfl <;> rfl
theorem slice3 (rb t : Nat) (ht : t < 8) (w : World) :
    (Instr.slice 30 (.slice (some ⟨rb, 0, none⟩) 64 64) (some (.int .i64 (t * 8))) (some (.int .i64 (t * 8))) (some (.int .i64 (t * 8 + 8)))).run Try.prog w = .ok (.slice (some ⟨rb, t * 8, none⟩) 0 8) w := by
  obtain ⟨i0, hi, hz0, hz1, hz2⟩ := info_parts infoInt
  have hu : Try.prog.underlying 30 = some (.slice (Try.prog.elem 30)) := by kernel_rfl
  have he : Try.prog.elem 30 = 3 := by kernel_rfl
  rw [run_slice_any w _ _ _ _ hu, he]
  have e1 : ((t : Int) * 8 + 8).toNat = t * 8 + 8 := by omega
  have e2 : ((t : Int) * 8).toNat = t * 8 := by omega
  have h1 : (0 : Int) ≤ (t : Int) * 8 + 8 ∧ (t : Int) * 8 + 8 ≤ 64 := by omega
  have h2 : (0 : Int) ≤ (t : Int) * 8 ∧ (t : Int) * 8 ≤ 64 := by omega
  have hadd : (⟨rb, 0, none⟩ : Addr).add (t * 8) = ⟨rb, t * 8, none⟩ := by unfold Addr.add; split <;> simp_all
  have h3 : (t : Int) * 8 ≤ (t : Int) * 8 + 8 := by omega
  simp [Instr.sliceBounds, Instr.sliceBound, asIntOf, Sem.run_bind, Result.andThen, sizeOf, typeInfo, hi, hz1, sliced, h1, h2, h3, e1, e2, hadd]
end Go.Proofs.Ytdfkmkflcnfchaa
