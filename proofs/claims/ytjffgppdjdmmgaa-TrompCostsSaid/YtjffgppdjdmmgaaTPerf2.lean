/- tape's perform: the whole. Own work. -/
import Derived.Test.YtjffgppdjdmmgaaTPerf
namespace Go.Proofs.Ytjffgppdjdmmgaa
open Go.ChangeShapes Go.WideShapes Go.ChangeAt Go.RowKit CellM TapeM

/-- How an operation ends. -/
def Ends (R : Res) (mk : Int → Value) (w w' : World) (mb : Nat) (AA : Option Addr) (ac : Nat) (ans : List Int) (F : Nat → Prop) (e : Ending) : Prop := match R with
  | .go T x => e = .returned (mk x) ∧ PN w w' mb 1 AA ac ans T F
  | .stop T => e = .panicked [{ v := stopV mb, recovered := false }] ∧ PN w w' mb 2 AA ac ans T F
/-- .. and what is told of it. -/
def Told (R : Res) (mk : Int → Value) (z : Value) (w w' : World) (mb : Nat) (AA : Option Addr) (ac : Nat) (ans : List Int) (F : Nat → Prop) (e : Ending) : Prop := match R with
  | .go T x => e = .returned (mk x) ∧ PN w w' mb 1 AA ac ans T F
  | .stop T => e = .returned z ∧ PN w w' mb 2 AA ac ans T F
section
variable {w : World} {mb : Nat} {AA : Option Addr} {ac : Nat} {ans : List Int} {S : TS} {F : Nat → Prop}
theorem PT.more (H : PT w mb 1 AA ac ans S F) : ∀ ad, AA = some ad → ans ≠ [] → ¬ More w F ad.block := by
  obtain ⟨A, h, c, H⟩ := H
  exact H.more
theorem neq_nilFunc (fn : FuncId) (cap : Array Value) (w : World) : (binOp .neq 36 (.func (.func fn) #[] cap) .nilFunc).run Try.prog w = .ok (.bool true) w := by kernel_rfl
set_option maxHeartbeats 2000000 in
theorem perform_is (R : Res) (fn : FuncId) (cap : Array Value) (hcf : ∀ args w, (callFunc fn args).run Try.prog w = .ok (.enter fn args) w) (H : PT w mb 1 AA ac ans S F) (hF : ∀ b, F b → b < w.heap.size)
    (HC : ∀ w1, Below w.heap.size w w1 → Calls Try.prog fn (#[.pointer (some ⟨mb, 0, none⟩)] ++ cap) w1 fun e w' => Ends R (Value.int .i64) w1 w' mb AA ac ans F e) :
    Calls Try.prog 26 #[.func (.func fn) #[] cap, .pointer (some ⟨mb, 0, none⟩)] w fun e w' => Told R (Value.int .i64) (.int .i64 0) w w' mb AA ac ans F e := by
  have hmf : ∀ (fn : Fn) (first cap : Array Value) (w : World), (Instr.makeFunc fn first cap).run Try.prog w = .ok (.func fn first cap) w := fun _ _ _ _ => rfl
  have hnq := fun w => neq_nilFunc fn cap w
  have HC := Lib.hid HC
  have HF := Lib.hid hF
  go_enter_defers Try.func26, Try.ntmps26
  go_wp2_with fail
  have hb1 : Below w.heap.size w (w.alloc (Obj.cells #[Value.pointer (some ⟨mb, 0, none⟩)] 33)) := below_alloc w _
  have hbox : Has (w.alloc (Obj.cells #[Value.pointer (some ⟨mb, 0, none⟩)] 33)) ⟨w.heap.size, 0, none⟩ (.pointer (some ⟨mb, 0, none⟩)) := has_new w _ _ 0 _ rfl
  have hno : ¬ F w.heap.size := fun h => Nat.lt_irrefl _ (HF.out _ h)
  refine (HC.out _ hb1).mono ?_
  intro e w' hE
  cases R with
  | go T x =>
    obtain ⟨rfl, hN⟩ := hE
    have hx := (hN.step.kept.has _ _ hbox hno).1
    have HN := Lib.hid (TNow.before hb1 hN H.more)
    clear hN hb1 hbox
    go_wp2_with fail
    refine leaves_cons (f := 45) (args := #[.pointer (some ⟨w.heap.size, 0, none⟩)]) (by simp) (by simp [go_sem]) ?_
    refine (catch_idle w' w.heap.size mb hx).mono ?_
    rintro e u' w'' ⟨rfl, rfl, hb⟩
    simp [Leaves, settle, results, Try.results26, go_sem]
    exact ⟨rfl, HN.out.after hb⟩
  | stop T =>
    obtain ⟨rfl, hN⟩ := hE
    have hx := (hN.step.kept.has _ _ hbox hno).1
    have HN := Lib.hid (TNow.before hb1 hN H.more)
    clear hN hb1 hbox
    refine leaves_cons (f := 45) (args := #[.pointer (some ⟨w.heap.size, 0, none⟩)]) (by simp) (by simp [go_sem]) ?_
    refine (catch_stop w' w.heap.size mb hx).mono ?_
    rintro e u' w'' ⟨rfl, rfl, hb⟩
    simp [Leaves, settle, results, Try.results26, go_sem]
    exact ⟨rfl, HN.out.after hb⟩
end
end Go.Proofs.Ytjffgppdjdmmgaa
