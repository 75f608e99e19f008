/- The chapter's example: its plays. Own work. -/
import Derived.Test.YthijoklafbnhlaaUnW
import Derived.Test.YthijoklafbnhlaaTPlayT
import Derived.Test.YthijoklafbnhlaaTSame
namespace Go.Proofs.Ythijoklafbnhlaa
open Go.ChangeShapes Go.WideShapes Go.ChangeAt Go.RowKit CellM TapeM

/-- Writing v, and 0 as an answer. -/
def oneW (b l tp v : Int) : Tr Int := (wrUn b l (cap (cap 255 tp) v).toNat).bind fun _ => .ret 0
def oneR (b tp : Int) : Tr Int := (rdUn b (cap 255 tp).toNat).bind .ret
theorem oneW_nb (b l tp v : Int) : (oneW b l tp v).nb 0 := Tr.nb_bind (f := fun _ => Tr.ret 0) (m := 0) (fun _ => trivial) _ (n := 0) (wrUn_nb _ _ _)
theorem oneR_nb (b tp : Int) : (oneR b tp).nb 0 := Tr.nb_bind (f := Tr.ret) (m := 0) (fun _ => trivial) _ (n := 0) (rdUn_nb _ _)
theorem near0 : Near 0 0 := by unfold Near; omega
theorem enterA1 (args : Array Value) (w : World) : (callFunc 21 args).run Try.prog w = .ok (.enter 21 args) w := enters Try.func21 (by kernel_rfl) rfl args w
theorem enterA2 (args : Array Value) (w : World) : (callFunc 22 args).run Try.prog w = .ok (.enter 22 args) w := enters Try.func22 (by kernel_rfl) rfl args w
def aliveR1 : Res := .go ⟨[⟨2, 2, 1⟩, ⟨2, 0, 1⟩], [], [1, 0, 1]⟩ 0
def aliveR2 : Res := .go ⟨[⟨1, 0, 0⟩, ⟨1, 1, 0⟩, ⟨1, 2, 0⟩], [], []⟩ 2
theorem alive1_run : (oneW 0 0 3 2).run [0, 0, 0] ⟨[], [], short []⟩ = aliveR1 := by
  have e : (cap (cap 255 3) 2).toNat = 2 := by decide
  unfold oneW
  rw [e]
  rfl
theorem alive2_run : (oneR 0 3).run [1, 0, 1] ⟨[], [], short []⟩ = aliveR2 := by
  have e : (cap 255 3).toNat = 3 := by decide
  unfold oneR
  rw [e]
  rfl
theorem aliveW_is {C : Ctx} {K : Nat → Prop} {R : Res} (b2 : Nat) (h2 : BoxAt C.w b2 #[.int .i64 3, .int .i64 0, .int .i64 0, .int .i64 0, .int .i64 0, .int .i64 0, .int .i64 3]) (H : Now C C.w K (oneW 0 0 3 2) R) :
    Calls Try.prog 21 #[.pointer (some ⟨C.mb, 0, none⟩), .pointer (some ⟨b2, 0, none⟩)] C.w fun e w' => Goes C C.w w' K (Value.int .i64) Tr.ret R e := by
  have y0 := (h2 0 _ rfl).1
  have y1 := (h2 1 _ rfl).1
  have y2 := (h2 2 _ rfl).1
  have y3 := (h2 3 _ rfl).1
  have y4 := (h2 4 _ rfl).1
  have y5 := (h2 5 _ rfl).1
  have y6 := (h2 6 _ rfl).1
  have HM := Lib.hid (H.call (wrUn_does 3 0 0 0 0 0 3 2 near0) (Below.refl _ _))
  clear h2 H
  go_enter Try.func21, Try.ntmps21
  go_wp2_with fail
  refine HM.out.mono ?_
  rintro e w1 (⟨x, rfl, hN, hK⟩ | ⟨rfl, hs⟩)
  · have HF := Lib.hid (And.intro (hN.less (K := K) (fun b h => .inl h)) (hK.less (K := K) (fun b h => .inl h)))
    clear hN hK
    go_wp2_with fail
    go_ret
    exact .inl ⟨0, rfl, HF.out.1, HF.out.2⟩
  · exact ⟨rfl, .inr ⟨rfl, hs⟩⟩
theorem aliveR_is {C : Ctx} {K : Nat → Prop} {R : Res} (b2 : Nat) (h2 : BoxAt C.w b2 #[.int .i64 3, .int .i64 0, .int .i64 0, .int .i64 0, .int .i64 0, .int .i64 0, .int .i64 3]) (H : Now C C.w K (oneR 0 3) R) :
    Calls Try.prog 22 #[.pointer (some ⟨C.mb, 0, none⟩), .pointer (some ⟨b2, 0, none⟩)] C.w fun e w' => Goes C C.w w' K (Value.int .i64) Tr.ret R e := by
  have y0 := (h2 0 _ rfl).1
  have y1 := (h2 1 _ rfl).1
  have y2 := (h2 2 _ rfl).1
  have y3 := (h2 3 _ rfl).1
  have y4 := (h2 4 _ rfl).1
  have y5 := (h2 5 _ rfl).1
  have y6 := (h2 6 _ rfl).1
  have HM := Lib.hid (H.call (rdUn_does 3 0 0 0 0 0 3 near0) (Below.refl _ _))
  clear h2 H
  go_enter Try.func22, Try.ntmps22
  go_wp2_with fail
  refine HM.out.mono ?_
  rintro e w1 (⟨x, rfl, hN, hK⟩ | ⟨rfl, hs⟩)
  · have HF := Lib.hid (And.intro (hN.less (K := K) (fun b h => .inl h)) (hK.less (K := K) (fun b h => .inl h)))
    clear hN hK
    go_wp2_with fail
    go_ret
    exact .inl ⟨x, rfl, HF.out.1, HF.out.2⟩
  · exact ⟨rfl, .inr ⟨rfl, hs⟩⟩
/-- What the plays give, written out. -/
theorem aliveOut1 (w : World) (AA : Option Addr) (hr : RI w AA 3 [0, 0, 0]) (b2 : Nat) (h2 : BoxAt w b2 #[.int .i64 3, .int .i64 0, .int .i64 0, .int .i64 0, .int .i64 0, .int .i64 0, .int .i64 3]) :
    Calls Try.prog 7 #[.func (.func 21) #[] #[.pointer (some ⟨b2, 0, none⟩)], .slice none 0 0, .slice AA 3 3] w fun e w' =>
      ∃ A2 A3 m2 m3 g c1 c2 c3, e = .returned (.tuple #[.int .i64 0, .agg #[.bool true, .slice (some ⟨g, 0, none⟩) 2 c1, .slice A2 m2 c2, .slice A3 m3 c3]]) ∧
        ((w'.cell? ⟨g, 0, none⟩ = some (.int .i64 2) ∧ w'.cell? ⟨g, 1, none⟩ = some (.int .i64 2) ∧ w'.cell? ⟨g, 2, none⟩ = some (.int .i64 1)) ∧ w'.cell? ⟨g, 3, none⟩ = some (.int .i64 2) ∧ w'.cell? ⟨g, 4, none⟩ = some (.int .i64 0) ∧ w'.cell? ⟨g, 5, none⟩ = some (.int .i64 1)) ∧ Below w.heap.size w w' := by
  refine (playT_is (oneW 0 0 3 2) 0 (oneW_nb _ _ _ _) (by decide) 21 #[.pointer (some ⟨b2, 0, none⟩)] enterA1 (lo := []) (ans := [0, 0, 0]) rfl rfl (by decide) (by decide) (RI.nil w) hr aliveR1 alive1_run
    (fun C hC hb H => aliveW_is b2 (h2.grow hb) H)).mono ?_
  rintro e w1 ⟨o, rfl, hOB, hB⟩
  obtain ⟨A1, A2, A3, g1, g2, c1, c2, c3, rfl, hD⟩ := hOB.at_
  obtain ⟨hA, e0, e1, e2⟩ := row_ac hD.r1 rfl (k := 0) (by decide)
  obtain ⟨_, e3, e4, e5⟩ := row_ac hD.r1 rfl (k := 1) (by decide)
  refine ⟨A2, A3, 0, 3, g1, c1, c2, c3, ?_, ⟨⟨e0, e1, e2⟩, e3, e4, e5⟩, hB⟩
  rw [hA]
  rfl
theorem aliveOut2 (w : World) (AA : Option Addr) (hr : RI w AA 3 [1, 0, 1]) (b2 : Nat) (h2 : BoxAt w b2 #[.int .i64 3, .int .i64 0, .int .i64 0, .int .i64 0, .int .i64 0, .int .i64 0, .int .i64 3]) :
    Calls Try.prog 7 #[.func (.func 22) #[] #[.pointer (some ⟨b2, 0, none⟩)], .slice none 0 0, .slice AA 3 3] w fun e w' =>
      ∃ A1 A2 A3 m1 m2 m3 c1 c2 c3, e = .returned (.tuple #[.int .i64 2, .agg #[.bool true, .slice A1 m1 c1, .slice A2 m2 c2, .slice A3 m3 c3]]) ∧ Below w.heap.size w w' := by
  refine (playT_is (oneR 0 3) 0 (oneR_nb _ _) (by decide) 22 #[.pointer (some ⟨b2, 0, none⟩)] enterA2 (lo := []) (ans := [1, 0, 1]) rfl rfl (by decide) (by decide) (RI.nil w) hr aliveR2 alive2_run
    (fun C hC hb H => aliveR_is b2 (h2.grow hb) H)).mono ?_
  rintro e w1 ⟨o, rfl, hOB, hB⟩
  obtain ⟨A1, A2, A3, g1, g2, c1, c2, c3, rfl, hD⟩ := hOB.at_
  exact ⟨_, _, _, _, _, _, _, _, _, rfl, hB⟩
end Go.Proofs.Ythijoklafbnhlaa
