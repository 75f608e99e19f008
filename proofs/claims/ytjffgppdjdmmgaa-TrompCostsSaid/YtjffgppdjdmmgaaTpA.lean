/- The chapter's example: its plays; Strips, Locals. Own work. -/
import Derived.Test.YtjffgppdjdmmgaaTpW
import Derived.Test.YtjffgppdjdmmgaaTPlayT
import Derived.Test.YtjffgppdjdmmgaaTSame
namespace Go.Proofs.Ytjffgppdjdmmgaa
open Go.ChangeShapes Go.WideShapes Go.ChangeAt Go.RowKit CellM TapeM

theorem stripsT_is (w : World) : Calls Try.prog 22 #[] w fun e w' => ∃ g, e = .returned (.slice (some ⟨g, 0, none⟩) 1 1) ∧ BoxAt w' g #[.int .i64 3, .int .i64 1, .int .i64 1] ∧ Below w.heap.size w w' := by
  go_enter Try.func22, Try.ntmps22
  go_wp2_with fail
  go_ret
  exact ⟨_, rfl, BoxAt.new _ _ _, below_alloc _ _⟩
theorem localsT_is (w : World) : Calls Try.prog 21 #[] w fun e w' => e = .returned (.int .i64 4) ∧ w = w' := by
  go_enter Try.func21, Try.ntmps21
  go_wp2_with fail
  go_ret
  exact ⟨rfl, rfl⟩
/-- Writing v, and 0 as an answer. -/
def oneW (b l v : Int) : Tr Int := (wrTp b l v).bind fun _ => .ret 0
def oneR (b l : Int) : Tr Int := (rdTp b l).bind .ret
theorem oneW_nb (b l v : Int) : (oneW b l v).nb 0 := Tr.nb_bind (f := fun _ => Tr.ret 0) (m := 0) (fun _ => trivial) _ (n := 0) (wrTp_nb _ _ _)
theorem oneR_nb (b l : Int) : (oneR b l).nb 0 := Tr.nb_bind (f := Tr.ret) (m := 0) (fun _ => trivial) _ (n := 0) (rdTp_nb _ _)
theorem near2 : Near 2 0 := by unfold Near; omega
theorem enterA1 (args : Array Value) (w : World) : (callFunc 18 args).run Try.prog w = .ok (.enter 18 args) w := enters Try.func18 (by kernel_rfl) rfl args w
theorem enterA2 (args : Array Value) (w : World) : (callFunc 19 args).run Try.prog w = .ok (.enter 19 args) w := enters Try.func19 (by kernel_rfl) rfl args w
theorem enterA3 (args : Array Value) (w : World) : (callFunc 20 args).run Try.prog w = .ok (.enter 20 args) w := enters Try.func20 (by kernel_rfl) rfl args w
def aliveR1 : Res := .go ⟨[⟨1, 3, 0⟩], [], []⟩ 0
def aliveR2 : Res := .go ⟨[⟨2, 2, 1⟩, ⟨1, 4, 0⟩, ⟨2, 3, 1⟩], [], [1, 1]⟩ 0
def aliveR3 : Res := .go ⟨[⟨1, 3, 0⟩, ⟨1, 2, 0⟩, ⟨1, 3, 0⟩, ⟨2, 4, 1⟩, ⟨1, 2, 0⟩, ⟨1, 3, 0⟩], [], [0, 0, 1, 1]⟩ 1
theorem alive1_run : (oneR 2 0).run [0] ⟨[], [], short []⟩ = aliveR1 := by kernel_rfl
theorem alive2_run : (oneW 2 0 1).run [0, 0, 0] ⟨[], [], short []⟩ = aliveR2 := by kernel_rfl
theorem alive3_run : (oneR 2 0).run [1, 1, 1, 0, 1, 1, 1] ⟨[], [], short []⟩ = aliveR3 := by kernel_rfl
theorem alive1_is {C : Ctx} {K : Nat → Prop} {R : Res} (b2 : Nat) (h2 : BoxAt C.w b2 #[.int .i64 4, .int .i64 2, .int .i64 0, .int .i64 0, .int .i64 0, .int .i64 0, .int .i64 0]) (H : Now C C.w K (oneR 2 0) R) :
    Calls Try.prog 18 #[.pointer (some ⟨C.mb, 0, none⟩), .pointer (some ⟨b2, 0, none⟩)] C.w fun e w' => Goes C C.w w' K (Value.int .i64) Tr.ret R e := by
  have y0 := (h2 0 _ rfl).1
  have y1 := (h2 1 _ rfl).1
  have y2 := (h2 2 _ rfl).1
  have y3 := (h2 3 _ rfl).1
  have y4 := (h2 4 _ rfl).1
  have y5 := (h2 5 _ rfl).1
  have y6 := (h2 6 _ rfl).1
  have HM := Lib.hid (H.call (rdTp_does 4 2 0 0 0 0 0 near2) (Below.refl _ _))
  clear h2 H
  go_enter Try.func18, Try.ntmps18
  go_wp2_with fail
  refine HM.out.mono ?_
  rintro e w1 (⟨x, rfl, hN, hK⟩ | ⟨rfl, hs⟩)
  · have HF := Lib.hid (And.intro (hN.less (K := K) (fun b h => .inl h)) (hK.less (K := K) (fun b h => .inl h)))
    clear hN hK
    go_wp2_with fail
    go_ret
    exact .inl ⟨x, rfl, HF.out.1, HF.out.2⟩
  · exact ⟨rfl, .inr ⟨rfl, hs⟩⟩
theorem alive2_is {C : Ctx} {K : Nat → Prop} {R : Res} (b2 : Nat) (h2 : BoxAt C.w b2 #[.int .i64 4, .int .i64 2, .int .i64 0, .int .i64 0, .int .i64 0, .int .i64 0, .int .i64 0]) (H : Now C C.w K (oneW 2 0 1) R) :
    Calls Try.prog 19 #[.pointer (some ⟨C.mb, 0, none⟩), .pointer (some ⟨b2, 0, none⟩)] C.w fun e w' => Goes C C.w w' K (Value.int .i64) Tr.ret R e := by
  have y0 := (h2 0 _ rfl).1
  have y1 := (h2 1 _ rfl).1
  have y2 := (h2 2 _ rfl).1
  have y3 := (h2 3 _ rfl).1
  have y4 := (h2 4 _ rfl).1
  have y5 := (h2 5 _ rfl).1
  have y6 := (h2 6 _ rfl).1
  have HM := Lib.hid (H.call (wrTp_does 4 2 0 0 0 0 0 1 near2) (Below.refl _ _))
  clear h2 H
  go_enter Try.func19, Try.ntmps19
  go_wp2_with fail
  refine HM.out.mono ?_
  rintro e w1 (⟨x, rfl, hN, hK⟩ | ⟨rfl, hs⟩)
  · have HF := Lib.hid (And.intro (hN.less (K := K) (fun b h => .inl h)) (hK.less (K := K) (fun b h => .inl h)))
    clear hN hK
    go_wp2_with fail
    go_ret
    exact .inl ⟨0, rfl, HF.out.1, HF.out.2⟩
  · exact ⟨rfl, .inr ⟨rfl, hs⟩⟩
theorem alive3_is {C : Ctx} {K : Nat → Prop} {R : Res} (b2 : Nat) (h2 : BoxAt C.w b2 #[.int .i64 4, .int .i64 2, .int .i64 0, .int .i64 0, .int .i64 0, .int .i64 0, .int .i64 0]) (H : Now C C.w K (oneR 2 0) R) :
    Calls Try.prog 20 #[.pointer (some ⟨C.mb, 0, none⟩), .pointer (some ⟨b2, 0, none⟩)] C.w fun e w' => Goes C C.w w' K (Value.int .i64) Tr.ret R e := by
  have y0 := (h2 0 _ rfl).1
  have y1 := (h2 1 _ rfl).1
  have y2 := (h2 2 _ rfl).1
  have y3 := (h2 3 _ rfl).1
  have y4 := (h2 4 _ rfl).1
  have y5 := (h2 5 _ rfl).1
  have y6 := (h2 6 _ rfl).1
  have HM := Lib.hid (H.call (rdTp_does 4 2 0 0 0 0 0 near2) (Below.refl _ _))
  clear h2 H
  go_enter Try.func20, Try.ntmps20
  go_wp2_with fail
  refine HM.out.mono ?_
  rintro e w1 (⟨x, rfl, hN, hK⟩ | ⟨rfl, hs⟩)
  · have HF := Lib.hid (And.intro (hN.less (K := K) (fun b h => .inl h)) (hK.less (K := K) (fun b h => .inl h)))
    clear hN hK
    go_wp2_with fail
    go_ret
    exact .inl ⟨x, rfl, HF.out.1, HF.out.2⟩
  · exact ⟨rfl, .inr ⟨rfl, hs⟩⟩
theorem aliveOut1 (w : World) (AA : Option Addr) (hr : RI w AA 1 [0]) (b2 : Nat) (h2 : BoxAt w b2 #[.int .i64 4, .int .i64 2, .int .i64 0, .int .i64 0, .int .i64 0, .int .i64 0, .int .i64 0]) :
    Calls Try.prog 7 #[.func (.func 18) #[] #[.pointer (some ⟨b2, 0, none⟩)], .slice none 0 0, .slice AA 1 1] w fun e w' =>
      ∃ A2 A3 m2 m3 g c1 c2 c3, e = .returned (.tuple #[.int .i64 0, .agg #[.bool true, .slice (some ⟨g, 0, none⟩) 1 c1, .slice A2 m2 c2, .slice A3 m3 c3]]) ∧
        w'.cell? ⟨g, 1, none⟩ = some (.int .i64 3) ∧ Below w.heap.size w w' := by
  refine (playT_is (oneR 2 0) 0 (oneR_nb _ _) (by decide) 18 #[.pointer (some ⟨b2, 0, none⟩)] enterA1 (lo := []) (ans := [0]) rfl rfl (by decide) (by decide) (RI.nil w) hr aliveR1 alive1_run
    (fun C hC hb H => alive1_is b2 (h2.grow hb) H)).mono ?_
  rintro e w1 ⟨o, rfl, hOB, hB⟩
  obtain ⟨A1, A2, A3, g1, g2, c1, c2, c3, rfl, hD⟩ := hOB.at_
  obtain ⟨hA, e0, e1, e2⟩ := row_ac hD.r1 rfl (k := 0) (by decide)
  refine ⟨A2, A3, aliveR1.st.nts.length, shN aliveR1.st.loc, g1, c1, c2, c3, ?_, e1, hB⟩
  rw [hA]
  rfl
theorem aliveOut2 (w : World) (AA : Option Addr) (hr : RI w AA 3 [0, 0, 0]) (b2 : Nat) (h2 : BoxAt w b2 #[.int .i64 4, .int .i64 2, .int .i64 0, .int .i64 0, .int .i64 0, .int .i64 0, .int .i64 0]) :
    Calls Try.prog 7 #[.func (.func 19) #[] #[.pointer (some ⟨b2, 0, none⟩)], .slice none 0 0, .slice AA 3 3] w fun e w' =>
      ∃ A2 A3 m2 m3 g c1 c2 c3, e = .returned (.tuple #[.int .i64 0, .agg #[.bool true, .slice (some ⟨g, 0, none⟩) 3 c1, .slice A2 m2 c2, .slice A3 m3 c3]]) ∧
        (w'.cell? ⟨g, 6, none⟩ = some (.int .i64 2) ∧ w'.cell? ⟨g, 7, none⟩ = some (.int .i64 3) ∧ w'.cell? ⟨g, 8, none⟩ = some (.int .i64 1)) ∧ Below w.heap.size w w' := by
  refine (playT_is (oneW 2 0 1) 0 (oneW_nb _ _ _) (by decide) 19 #[.pointer (some ⟨b2, 0, none⟩)] enterA2 (lo := []) (ans := [0, 0, 0]) rfl rfl (by decide) (by decide) (RI.nil w) hr aliveR2 alive2_run
    (fun C hC hb H => alive2_is b2 (h2.grow hb) H)).mono ?_
  rintro e w1 ⟨o, rfl, hOB, hB⟩
  obtain ⟨A1, A2, A3, g1, g2, c1, c2, c3, rfl, hD⟩ := hOB.at_
  obtain ⟨hA, e0, e1, e2⟩ := row_ac hD.r1 rfl (k := 2) (by decide)
  refine ⟨A2, A3, aliveR2.st.nts.length, shN aliveR2.st.loc, g1, c1, c2, c3, ?_, ⟨e0, e1, e2⟩, hB⟩
  rw [hA]
  rfl
theorem aliveOut3 (w : World) (AA : Option Addr) (hr : RI w AA 7 [1, 1, 1, 0, 1, 1, 1]) (b2 : Nat) (h2 : BoxAt w b2 #[.int .i64 4, .int .i64 2, .int .i64 0, .int .i64 0, .int .i64 0, .int .i64 0, .int .i64 0]) :
    Calls Try.prog 7 #[.func (.func 20) #[] #[.pointer (some ⟨b2, 0, none⟩)], .slice none 0 0, .slice AA 7 7] w fun e w' =>
      ∃ A2 A3 m2 m3 g c1 c2 c3, e = .returned (.tuple #[.int .i64 1, .agg #[.bool true, .slice (some ⟨g, 0, none⟩) 6 c1, .slice A2 m2 c2, .slice A3 m3 c3]]) ∧
        True ∧ Below w.heap.size w w' := by
  refine (playT_is (oneR 2 0) 0 (oneR_nb _ _) (by decide) 20 #[.pointer (some ⟨b2, 0, none⟩)] enterA3 (lo := []) (ans := [1, 1, 1, 0, 1, 1, 1]) rfl rfl (by decide) (by decide) (RI.nil w) hr aliveR3 alive3_run
    (fun C hC hb H => alive3_is b2 (h2.grow hb) H)).mono ?_
  rintro e w1 ⟨o, rfl, hOB, hB⟩
  obtain ⟨A1, A2, A3, g1, g2, c1, c2, c3, rfl, hD⟩ := hOB.at_
  obtain ⟨hA, e0, e1, e2⟩ := row_ac hD.r1 rfl (k := 0) (by decide)
  refine ⟨A2, A3, aliveR3.st.nts.length, shN aliveR3.st.loc, g1, c1, c2, c3, ?_, trivial, hB⟩
  rw [hA]
  rfl
end Go.Proofs.Ytjffgppdjdmmgaa
