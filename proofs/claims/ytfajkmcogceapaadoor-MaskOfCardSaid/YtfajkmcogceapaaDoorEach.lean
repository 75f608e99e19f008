/- mask.Each: the iterator, and whoever goes through it to the end. Own work. -/
import Derived.RangeFuncNested
import Derived.RangeFuncBound
import Derived.RangeFuncCalls
import Derived.RangeFuncLeaves
import Derived.RangeFuncBox
import Derived.Shelf.Abstract
import Derived.Shelf.RegionOpen
import Derived.WalkKit
import Derived.OwnWalkIn
import Derived.TacticsInMore
import Derived.LoopNIn
import Derived.LoopIn
import Derived.Maps.AppendAt
import Derived.Test.YtfajkmcogceapaaDoorRef02
namespace Go.Proofs.YtfajkmcogceapaaDoor
open Go.RowKit Go.Shelf Bits
attribute [local go_sem] Oper.semAt_some

/-- The set's threads, each with its bound. -/
def lowF (l : List Nat) : List (Fin 64) := l.filterMap fun t => if h : t < 64 then some ⟨t, h⟩ else none
def setF (s : Nat) : List (Fin 64) := lowF (setL s)
theorem lowF_val : ∀ l : List Nat, (∀ t ∈ l, t < 64) → (lowF l).map (fun x : Fin 64 => x.val) = l
  | [], _ => rfl
  | t :: r, h => by
    have ht := h t (by simp)
    have := lowF_val r fun x hx => h x (by simp [hx])
    unfold lowF at *
    rw [List.filterMap_cons, dif_pos ht]
    simp only [List.map_cons]
    rw [this]
theorem setF_val (s : Nat) : (setF s).map (fun x : Fin 64 => x.val) = setL s := lowF_val _ fun t ht => ((mem_setL s t).1 ht).1
theorem setF_len (s : Nat) : (setF s).length ≤ 64 := by
  have := congrArg List.length (setF_val s)
  rw [List.length_map] at this
  rw [this]; exact setL_len s
theorem setF_zero : setF 0 = [] := by unfold setF; rw [setL_zero]; rfl
def low (x : Nat) (h0 : x ≠ 0) (h : x < 18446744073709551616) : Fin 64 := ⟨Lib.ctz 64 x, by obtain ⟨m, _, hk⟩ := lowest h0 h; exact hk⟩
theorem setF_step {x : Nat} (h0 : x ≠ 0) (h : x < 18446744073709551616) : setF x = low x h0 h :: setF (x &&& (x - 1)) := by
  obtain ⟨m, _, hk⟩ := lowest h0 h
  unfold setF
  rw [(setL_step h0 h).1]
  unfold lowF
  rw [List.filterMap_cons, dif_pos hk]
  rfl
abbrev encT (x : Fin 64) : Value := .int .i64 ((x.val : Nat) : Int)
theorem setF_enc (s : Nat) : (setF s).map encT = (setI s).map (Value.int .i64) := by
  rw [setI_eq, ← setF_val, List.map_map, List.map_map]; rfl
theorem setF_lenI (s : Nat) : (setF s).length = (setI s).length := by
  have := congrArg List.length (setF_enc s)
  simpa using this

theorem tab_below {w w' : World} (h : Tab w) {B : Nat} (hg : 0 < B) (hb : Below B w w') : Tab w' :=
  fun j hj => (hb.cell (p := ⟨0, j, none⟩) hg).trans (h j hj)
theorem tab_lt {w : World} (h : Tab w) : 0 < w.heap.size := cell_lt (h 0 (by decide))

theorem next_eq {x : Nat} (h0 : x ≠ 0) (h : x < 18446744073709551616) : bits .and .u64 (x : Int) ((x : Int) - 1) = ((x &&& (x - 1) : Nat) : Int) := by
  have e : (x : Int) - 1 = ((x - 1 : Nat) : Int) := by omega
  rw [e, u64_and_nat _ _ h (by omega)]

set_option maxRecDepth 100000 in
set_option maxHeartbeats 1000000 in
theorem each1_in (n : Nat) (hn : 1 ≤ n) (l Bn n₀ s : Nat) (hs : s < 18446744073709551616) (hg : 0 < n₀) (J Jx : List (Fin 64) → World → Prop)
    (hY : ∀ pre x W, J pre W → pre.length < 64 → YieldAt Fence.wide (n - 1) Tryd.prog l #[encT x] W fun e W' =>
      (e = .returned (.bool true) ∧ J (pre ++ [x]) W' ∧ Below n₀ W W') ∨ (e = .returned (.bool false) ∧ Jx (pre ++ [x]) W'))
    (W : World) (hBn : W.cell? ⟨Bn, 0, none⟩ = some (.int .u64 s)) (hT : Tab W) (h0 : J [] W) :
    CallsIn Fence.wide n Tryd.prog 31 #[.func (.yield l) #[] #[], .pointer (some ⟨Bn, 0, none⟩)] W fun e W' => (∃ v, e = .returned v) ∧
      ((∃ ys, ys = setF s ∧ J ys W') ∨ (∃ pre, pre <+: setF s ∧ Jx pre W')) := by
  refine callsIn_of_wp Tryd.func31 rfl trivial ?_ rfl
  simp only [Tryd.ntmps31, List.size_toArray, List.length_cons, List.length_nil, Nat.reduceAdd, Nat.reduceSub, Array.replicate_succ, Array.replicate_zero, List.push_toArray, List.append_toArray, List.nil_append, List.cons_append]
  have T := Lib.hid hT; clear hT
  gi_wp2
  gi_loopw [3] (fun p wr => ∃ (pre : List (Fin 64)) (x : Nat), p = .int .u64 x ∧ x < 18446744073709551616 ∧ setF s = pre ++ setF x ∧ J pre wr ∧ Tab wr)
    (fun p _ => (intOf p).toNat)
  case atStart => exact ⟨[], s, rfl, hs, rfl, h0, T.out⟩
  case round =>
    obtain ⟨pre, x, rfl, hx, hpre, hJ, hT⟩ := hrel
    by_cases hx0 : x = 0
    · subst hx0
      rw [setF_zero, List.append_nil] at hpre
      have P := Lib.hid hpre; clear hpre hT
      gi_wp2
      go_end0
      exact ⟨⟨_, rfl⟩, .inl ⟨pre, P.out.symm, hJ⟩⟩
    · have hstep := setF_step hx0 hx
      have hdec := (setL_step hx0 hx).2
      have hlen : pre.length < 64 := by
        have h1 := setF_len s
        rw [hpre, hstep] at h1
        simp only [List.length_append, List.length_cons] at h1
        omega
      have htz : ∀ w, Tab w → Calls Tryd.prog 32 #[.int .u64 x] w fun e w' => e = .returned (.int .i64 (((low x hx0 hx).val : Nat) : Int)) ∧ w = w' := fun w ht => tz_any x hx hx0 w ht
      rw [hstep] at hpre
      have hnext := Lib.hid (next_eq hx0 hx)
      generalize low x hx0 hx = t at *
      obtain ⟨fn, tmps, assign, body, hy, hR⟩ := hY pre t wr hJ hlen
      have hne : ((x : Int) != 0) = true := by simp; omega
      have hne2 : ((x : Int) == 0) = false := by simp; omega
      have hge : 1 ≤ (x : Int) := by omega
      have P := Lib.hid hpre; clear hpre hstep
      have T2 := Lib.hid hT; clear hT
      have Z := Lib.hid htz; clear htz hx0
      gi_wp2_with fail
      refine ⟨trivial, (callsIn_wide.2 (Z.out _ T2.out)).mono ?_⟩
      rintro e w' ⟨rfl, rfl⟩
      gi_wp2_with fail
      refine hR.mono ?_
      rintro e W3 (⟨rfl, hJ3, hk3⟩ | ⟨rfl, hJx3⟩)
      · have T3 := Lib.hid (tab_below T2.out hg hk3)
        gi_wp2
        go_roundw
        case rel => exact ⟨pre ++ [t], x &&& (x - 1), by rw [hnext.out], by omega, by rw [P.out]; simp, hJ3, T3.out⟩
        case measure => rw [hnext.out]; simp [intOf]; omega
      · gi_wp2
        refine bodyPost_ret (results_none rfl _ _ _) rfl ?_
        exact ⟨⟨_, rfl⟩, .inr ⟨pre ++ [t], ⟨setF (x &&& (x - 1)), by rw [P.out]; simp⟩, hJx3⟩⟩
set_option maxHeartbeats 1000000 in
theorem eachF_in (n : Nat) (s : Nat) (w : World) :
    CallsIn Fence.wide n Tryd.prog 21 #[.int .u64 s] w fun e w' => e = .returned (.func (.func 31) #[] #[.pointer (some ⟨w.heap.size, 0, none⟩)]) ∧ w' = w.alloc (.cells #[.int .u64 s] 22) := by
  refine callsIn_of_wp Tryd.func21 rfl trivial ?_ rfl
  simp only [Tryd.ntmps21, List.size_toArray, List.length_cons, List.length_nil, Nat.reduceAdd, Nat.reduceSub, Array.replicate_succ, Array.replicate_zero, List.push_toArray, List.append_toArray, List.nil_append, List.cons_append]
  gi_wp2
  go_ret
  exact ⟨rfl, rfl⟩
theorem each_stops (n : Nat) (hn : 1 ≤ n) (Bn n₀ s : Nat) (hs : s < 18446744073709551616) (w : World) (hg : 0 < n₀) (hBn : Bn < w.heap.size)
    (hc : w.cell? ⟨Bn, 0, none⟩ = some (.int .u64 s)) (hT : Tab w) :
    SeqStopsK Fence.wide n Tryd.prog 31 #[.pointer (some ⟨Bn, 0, none⟩)] (fun x : Fin 64 => #[encT x]) (Below n₀) (fun ys => ys = setF s) (fun pre => pre <+: setF s) 64 w := fun l J Jx W hW _ _ hY h0 =>
  each1_in n hn l Bn n₀ s hs hg J Jx hY W ((hW.cell (p := ⟨Bn, 0, none⟩) hBn).trans hc) (tab_below hT (by omega) hW) h0
end Go.Proofs.YtfajkmcogceapaaDoor
