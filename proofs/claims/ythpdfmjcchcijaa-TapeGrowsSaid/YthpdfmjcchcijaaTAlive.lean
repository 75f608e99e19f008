/- The chapter's example: its two operations. Own work. -/
import Derived.Test.YthpdfmjcchcijaaTPlayS
import Derived.Test.YthpdfmjcchcijaaTGet
import Derived.Test.YthpdfmjcchcijaaTMem2
import Derived.Test.YthpdfmjcchcijaaTDoB
namespace Go.Proofs.Ythpdfmjcchcijaa
open Go.ChangeShapes Go.WideShapes Go.ChangeAt Go.RowKit CellM TapeM

theorem enters {P : Program} {f : FuncId} {fn : Func} {c : Code} (hf : P.funcs[f]? = some fn) (hname : (fn.name == "runtime.NumGoroutine") = false) (hb : fn.body = some c) (args : Array Value) (w : World) :
    (callFunc f args).run P w = .ok (.enter f args) w := by
  have h1 : fn.name ≠ "runtime.NumGoroutine" := by simpa using hname
  simp [callFunc, hf, h1, hb]
def T1 : TS := ⟨[⟨1, 3, 0⟩, ⟨2, 4, 7⟩], [⟨1, 0⟩], [0, 0, 9]⟩
def T2 : TS := ⟨[⟨1, 1, 0⟩], [], [5]⟩
def endS : ByteArray := { data := #[101, 110, 100] }
theorem enter20 (args : Array Value) (w : World) : (callFunc 20 args).run Try.prog w = .ok (.enter 20 args) w := enters Try.func20 (by kernel_rfl) rfl args w
theorem enter25 (args : Array Value) (w : World) : (callFunc 25 args).run Try.prog w = .ok (.enter 25 args) w := enters Try.func25 (by kernel_rfl) rfl args w
section
variable {w : World} {mb : Nat} {AA : Option Addr} {ac : Nat} {F : Nat → Prop}
set_option maxHeartbeats 4000000 in
theorem alive1_is (H : PT w mb 1 AA ac [7] ⟨[], [], []⟩ F) :
    Calls Try.prog 20 #[.pointer (some ⟨mb, 0, none⟩)] w fun e w' => Ends (.stop T1) (fun _ => .string endS) w w' mb AA ac [7] F e := by
  have H0 := Lib.hid (noteM_is H (by decide) 1)
  go_enter Try.func20, Try.ntmps20
  go_wp2_with fail
  refine H0.out.mono ?_; rintro e w1 ⟨rfl, hN⟩
  have HN1 := Lib.hid hN
  have H1 := Lib.hid (setM_is (hN.next (Below.refl _ _)) (by decide) 2 9)
  clear hN
  go_wp2_with fail
  refine H1.out.mono ?_; rintro e w2 ⟨rfl, hN⟩
  have hN2 := HN1.out.back (Below.refl _ _) hN
  have HN2 := Lib.hid hN2
  have H2 := Lib.hid (readM_go (hN2.next (Below.refl _ _)) (by decide) (by decide) 3 7 rfl)
  clear hN hN2
  go_wp2_with fail
  refine H2.out.mono ?_; rintro e w3 ⟨rfl, hN⟩
  have hN3 := HN2.out.back (Below.refl _ _) hN
  have HN3 := Lib.hid hN3
  have H3 := Lib.hid (writeM_stop (hN3.next (Below.refl _ _)) (by decide) (by decide) 4 7)
  clear hN hN3
  go_wp2_with fail
  refine H3.out.mono ?_; rintro e w4 ⟨rfl, hN⟩
  have hN4 := HN3.out.back (Below.refl _ _) hN
  exact ⟨rfl, rfl, hN4⟩
theorem alive2_is (H : PT w mb 1 AA ac [7, 8] ⟨[], [], [5]⟩ F) :
    Calls Try.prog 25 #[.pointer (some ⟨mb, 0, none⟩)] w fun e w' => Ends (.go T2 12) (Value.int .i64) w w' mb AA ac [7, 8] F e := by
  have H0 := Lib.hid (readM_go H (by decide) (by decide) 1 7 rfl)
  go_enter Try.func25, Try.ntmps25
  go_wp2_with fail
  refine H0.out.mono ?_; rintro e w1 ⟨rfl, hN⟩
  have HN1 := Lib.hid hN
  have H1 := Lib.hid (getM_is (hN.next (Below.refl _ _)) 0 5 rfl)
  clear hN
  go_wp2_with fail
  refine H1.out.mono ?_; rintro e w2 ⟨rfl, rfl⟩
  go_wp2_with fail
  go_ret
  exact ⟨rfl, HN1.out⟩
end
end Go.Proofs.Ythpdfmjcchcijaa
