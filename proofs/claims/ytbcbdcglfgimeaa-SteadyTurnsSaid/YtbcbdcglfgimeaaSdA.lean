/- The chapter's example. Own work. -/
import Derived.Test.YtbcbdcglfgimeaaSdC
import Derived.Test.YtbcbdcglfgimeaaTPlayT
namespace Go.Proofs.Ytbcbdcglfgimeaa
open Go.ChangeShapes Go.WideShapes Go.ChangeAt Go.RowKit CellM TapeM

def aliveT : Tr Int := (wrSd 3 2 1).bind fun _ => (wrSd 3 2 9).bind fun _ => (rdSd 3).bind .ret
theorem aliveT_nb : aliveT.nb 0 := Tr.nb_bind (m := 0) (fun _ => Tr.nb_bind (m := 0) (fun _ => Tr.nb_bind (f := Tr.ret) (m := 0) (fun _ => trivial) _ (n := 0) (rdSd_nb _)) _ (n := 0) (bitI_nb _ _ _)) _ (n := 0) (bitI_nb _ _ _)
theorem enter17 (args : Array Value) (w : World) : (callFunc 17 args).run Try.prog w = .ok (.enter 17 args) w := enters Try.func17 (by kernel_rfl) rfl args w
def aliveR : Res := .go ⟨[⟨2, 3, 1⟩, ⟨1, 3, 0⟩], [], [0, 0, 1]⟩ 1
theorem aliveT_run : aliveT.run [0, 1] ⟨[], [], short []⟩ = aliveR := by rfl
def regA : Array Value := #[.int .i64 2, .int .i64 3, .int .i64 2, .int .i64 0, .int .i64 0, .int .i64 0, .int .i64 0]
theorem aliveClo {C : Ctx} {K : Nat → Prop} {R : Res} (b2 : Nat) (h2 : BoxAt C.w b2 #[.int .i64 2, .int .i64 3, .int .i64 2, .int .i64 0, .int .i64 0, .int .i64 0, .int .i64 0]) (l2 : b2 < C.base) (H : Now C C.w K aliveT R) :
    Calls Try.prog 17 #[.pointer (some ⟨C.mb, 0, none⟩), .pointer (some ⟨b2, 0, none⟩)] C.w fun e w' => Goes C C.w w' K (Value.int .i64) Tr.ret R e := by
  have HB := Lib.hid (fun (wr : World) (hbw : Below C.base C.w wr) => h2.below hbw l2)
  have y := h2
  have y0 := (h2 0 _ rfl).1
  have y1 := (h2 1 _ rfl).1
  have y2 := (h2 2 _ rfl).1
  have y3 := (h2 3 _ rfl).1
  have y4 := (h2 4 _ rfl).1
  have y5 := (h2 5 _ rfl).1
  have y6 := (h2 6 _ rfl).1
  have HM := Lib.hid (H.call (wrSd_does 2 3 2 0 0 0 0 1) (Below.refl _ _))
  clear h2 y H
  go_enter Try.func17, Try.ntmps17
  go_wp2_with fail
  refine HM.out.mono ?_
  rintro e w1 (⟨x, rfl, hN, hK⟩ | ⟨rfl, hs⟩)
  · have hbx := HB.out w1 hN.below
    have z0 := (hbx 0 _ rfl).1
    have z1 := (hbx 1 _ rfl).1
    have z2 := (hbx 2 _ rfl).1
    have z3 := (hbx 3 _ rfl).1
    have z4 := (hbx 4 _ rfl).1
    have z5 := (hbx 5 _ rfl).1
    have z6 := (hbx 6 _ rfl).1
    have HM2 := Lib.hid ((hN.less (K := K) (fun b h => .inl h)).call (wrSd_does 2 3 2 0 0 0 0 9) (Below.refl _ _))
    have HK := Lib.hid (hK.less (K := K) (fun b h => .inl h))
    clear hN hK HM y0 y1 y2 y3 y4 y5 y6 hbx
    go_wp2_with fail
    refine HM2.out.mono ?_
    rintro e w2 (⟨x, rfl, hN, hK⟩ | ⟨rfl, hs⟩)
    · have hbx := HB.out w2 hN.below
      have y0 := (hbx 0 _ rfl).1
      have y1 := (hbx 1 _ rfl).1
      have y2 := (hbx 2 _ rfl).1
      have y3 := (hbx 3 _ rfl).1
      have y4 := (hbx 4 _ rfl).1
      have y5 := (hbx 5 _ rfl).1
      have y6 := (hbx 6 _ rfl).1
      have HM3 := Lib.hid ((hN.less (K := K) (fun b h => .inl h)).call (rdSd_does 2 3 2 0 0 0 0) (Below.refl _ _))
      have HK2 := Lib.hid (HK.out.trans (hK.less (K := K) (fun b h => .inl h)))
      clear hN hK HM2 z0 z1 z2 z3 z4 z5 z6 hbx
      go_wp2_with fail
      refine HM3.out.mono ?_
      rintro e w3 (⟨x, rfl, hN, hK⟩ | ⟨rfl, hs⟩)
      · have HF := Lib.hid (And.intro (hN.less (K := K) (fun b h => .inl h)) (HK2.out.trans (hK.less (K := K) (fun b h => .inl h))))
        clear hN hK
        go_wp2_with fail
        go_ret
        exact .inl ⟨x, rfl, HF.out.1, HF.out.2⟩
      · exact ⟨rfl, .inr ⟨rfl, hs⟩⟩
    · exact ⟨rfl, .inr ⟨rfl, hs⟩⟩
  · exact ⟨rfl, .inr ⟨rfl, hs⟩⟩
theorem alivePlay_is (w : World) (AA : Option Addr) (hr : RI w AA 2 [0, 1]) (b2 : Nat) (h2 : BoxAt w b2 #[.int .i64 2, .int .i64 3, .int .i64 2, .int .i64 0, .int .i64 0, .int .i64 0, .int .i64 0]) :
    Calls Try.prog 7 #[.func (.func 17) #[] #[.pointer (some ⟨b2, 0, none⟩)], .slice none 0 0, .slice AA 2 2] w fun e w' => Plays aliveR (Value.int .i64) (.int .i64 0) w w' e :=
  playT_is aliveT 0 aliveT_nb (by decide) 17 #[.pointer (some ⟨b2, 0, none⟩)] enter17 (lo := []) (ans := [0, 1]) rfl rfl (by decide) (by decide) (RI.nil w) hr aliveR aliveT_run
    (fun C hC hb H => aliveClo b2 (h2.grow hb) (by rw [hC]; exact (h2 0 _ rfl).lt) H)
end Go.Proofs.Ytbcbdcglfgimeaa
