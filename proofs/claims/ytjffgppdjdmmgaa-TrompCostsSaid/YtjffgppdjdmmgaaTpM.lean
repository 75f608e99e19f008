/- TrompCosts' plays: what a write costs, what a read. Own work. -/
import Derived.Test.YtjffgppdjdmmgaaTpA
namespace Go.Proofs.Ytjffgppdjdmmgaa
open Go.ChangeShapes Go.WideShapes Go.ChangeAt Go.RowKit CellM TapeM
namespace TapeM
theorem oneW_run (v : Int) (ans : List Int) (lo : List Int) (h : 3 ≤ ans.length) : ∃ T x, (oneW 10 0 v).run ans ⟨[], [], lo⟩ = .go T x ∧ T.acc.length ≤ 3 ∧ ∀ a ∈ T.acc, WrAc a := by
  obtain ⟨T, x, h1, h2⟩ := Tr.run_cost ans (oneW 10 0 v) ⟨[], [], lo⟩ 3 (Tr.cost_bind (f := fun _ => Tr.ret 0) (m := 0) (fun _ => trivial) _ (n := 3) (wrTp_cost 10 0 v)) (by simp; omega)
  refine ⟨T, x, h1, by simpa using h2, ?_⟩
  have h3 := Tr.run_only (P := WrAc) ans (oneW 10 0 v) ⟨[], [], lo⟩ (Tr.only_bind (f := fun _ => Tr.ret 0) (fun _ => trivial) _ (wrTp_only 0 v)) (by simp)
  rw [h1] at h3
  exact h3
theorem oneR_run (ans : List Int) (lo : List Int) (h : 7 ≤ ans.length) : ∃ T x, (oneR 10 0).run ans ⟨[], [], lo⟩ = .go T x ∧ T.acc.length ≤ 7 ∧ 1 ≤ T.acc.length ∧ ∀ a ∈ T.acc, RdAc a := by
  obtain ⟨T, x, h1, h2⟩ := Tr.run_cost ans (oneR 10 0) ⟨[], [], lo⟩ 7 (Tr.cost_bind (f := Tr.ret) (m := 0) (fun _ => trivial) _ (n := 7) (rdTp_cost 10 0)) (by simp; omega)
  refine ⟨T, x, h1, by simpa using h2, ?_, ?_⟩
  · obtain ⟨k, hk⟩ : ∃ k, oneR 10 0 = .ask ⟨1, 10 + 1, 0⟩ k := ⟨_, rfl⟩
    rw [hk, Tr.run_ask, asks_go (show ([] : List Ac).length < ans.length by simp; omega)] at h1
    have h3 := (Tr.run_grows ans (k (ans.getD ([] : List Ac).length 0)) (askT ⟨[], [], lo⟩ ⟨1, 10 + 1, 0⟩)).1.length_le
    rw [h1] at h3
    exact h3
  · have h3 := Tr.run_only (P := RdAc) ans (oneR 10 0) ⟨[], [], lo⟩ (Tr.only_bind (f := Tr.ret) (fun _ => trivial) _ (rdTp_only 0)) (by simp)
    rw [h1] at h3
    exact h3
end TapeM
theorem near10 : Near 10 0 := by unfold Near; omega
theorem enterC1 (args : Array Value) (w : World) : (callFunc 16 args).run Try.prog w = .ok (.enter 16 args) w := enters Try.func16 (by kernel_rfl) rfl args w
theorem enterC2 (args : Array Value) (w : World) : (callFunc 17 args).run Try.prog w = .ok (.enter 17 args) w := enters Try.func17 (by kernel_rfl) rfl args w
theorem costW_is {C : Ctx} {K : Nat → Prop} {R : Res} (b2 b3 : Nat) (v : Int) (h2 : BoxAt C.w b2 #[.int .i64 4, .int .i64 10, .int .i64 0, .int .i64 0, .int .i64 0, .int .i64 0, .int .i64 0]) (h3 : Has C.w ⟨b3, 0, none⟩ (.int .i64 v)) (H : Now C C.w K (oneW 10 0 v) R) :
    Calls Try.prog 16 #[.pointer (some ⟨C.mb, 0, none⟩), .pointer (some ⟨b2, 0, none⟩), .pointer (some ⟨b3, 0, none⟩)] C.w fun e w' => Goes C C.w w' K (Value.int .i64) Tr.ret R e := by
  have y0 := (h2 0 _ rfl).1
  have y1 := (h2 1 _ rfl).1
  have y2 := (h2 2 _ rfl).1
  have y3 := (h2 3 _ rfl).1
  have y4 := (h2 4 _ rfl).1
  have y5 := (h2 5 _ rfl).1
  have y6 := (h2 6 _ rfl).1
  have x0 := h3.1
  have HM := Lib.hid (H.call (wrTp_does 4 10 0 0 0 0 0 v near10) (Below.refl _ _))
  clear h2 H h3
  go_enter Try.func16, Try.ntmps16
  go_wp2_with fail
  refine HM.out.mono ?_
  rintro e w1 (⟨x, rfl, hN, hK⟩ | ⟨rfl, hs⟩)
  · have HF := Lib.hid (And.intro (hN.less (K := K) (fun b h => .inl h)) (hK.less (K := K) (fun b h => .inl h)))
    clear hN hK
    go_wp2_with fail
    go_ret
    exact .inl ⟨0, rfl, HF.out.1, HF.out.2⟩
  · exact ⟨rfl, .inr ⟨rfl, hs⟩⟩
theorem costR_is {C : Ctx} {K : Nat → Prop} {R : Res} (b2 : Nat) (h2 : BoxAt C.w b2 #[.int .i64 4, .int .i64 10, .int .i64 0, .int .i64 0, .int .i64 0, .int .i64 0, .int .i64 0]) (H : Now C C.w K (oneR 10 0) R) :
    Calls Try.prog 17 #[.pointer (some ⟨C.mb, 0, none⟩), .pointer (some ⟨b2, 0, none⟩)] C.w fun e w' => Goes C C.w w' K (Value.int .i64) Tr.ret R e := by
  have y0 := (h2 0 _ rfl).1
  have y1 := (h2 1 _ rfl).1
  have y2 := (h2 2 _ rfl).1
  have y3 := (h2 3 _ rfl).1
  have y4 := (h2 4 _ rfl).1
  have y5 := (h2 5 _ rfl).1
  have y6 := (h2 6 _ rfl).1
  have HM := Lib.hid (H.call (rdTp_does 4 10 0 0 0 0 0 near10) (Below.refl _ _))
  clear h2 H
  go_enter Try.func17, Try.ntmps17
  go_wp2_with fail
  refine HM.out.mono ?_
  rintro e w1 (⟨x, rfl, hN, hK⟩ | ⟨rfl, hs⟩)
  · have HF := Lib.hid (And.intro (hN.less (K := K) (fun b h => .inl h)) (hK.less (K := K) (fun b h => .inl h)))
    clear hN hK
    go_wp2_with fail
    go_ret
    exact .inl ⟨x, rfl, HF.out.1, HF.out.2⟩
  · exact ⟨rfl, .inr ⟨rfl, hs⟩⟩
/-- What a play gives: accesses of a kind. -/
def Gave (w : World) (o : Value) (n k : Nat) (P : Ac → Prop) : Prop := ∃ A1 A2 A3 m1 m2 m3 c1 c2 c3 g acc, o = .agg #[.bool true, .slice A1 m1 c1, .slice A2 m2 c2, .slice A3 m3 c3] ∧ acc.length = m1 ∧ k ≤ m1 ∧ m1 ≤ n ∧ (∀ a ∈ acc, P a) ∧ RowK w 3 A1 g c1 m1 (flatAc acc)
theorem Gave.below {w w' : World} {o : Value} {n k : Nat} {P : Ac → Prop} (h : Gave w o n k P) (hb : Below w.heap.size w w') : Gave w' o n k P := by
  obtain ⟨A1, A2, A3, m1, m2, m3, c1, c2, c3, g, acc, h1, h2, h3, h4, h5, h6⟩ := h
  exact ⟨A1, A2, A3, m1, m2, m3, c1, c2, c3, g, acc, h1, h2, h3, h4, h5, h6.below hb⟩
section
variable {w : World} {A1 AA : Option Addr} {c1 ac n1 m : Nat} {lo ans : List Int}
theorem playCostW (b2 b3 : Nat) (v : Int) (hn1 : lo.length = n1) (hm : ans.length = m) (h1 : n1 ≤ 1000) (h3 : 8 ≤ m) (h4 : m ≤ 90000) (hl : RI w A1 c1 lo) (hr : RI w AA ac ans)
    (hb2 : BoxAt w b2 #[.int .i64 4, .int .i64 10, .int .i64 0, .int .i64 0, .int .i64 0, .int .i64 0, .int .i64 0]) (hb3 : Has w ⟨b3, 0, none⟩ (.int .i64 v)) :
    Calls Try.prog 7 #[.func (.func 16) #[] #[.pointer (some ⟨b2, 0, none⟩), .pointer (some ⟨b3, 0, none⟩)], .slice A1 n1 c1, .slice AA m ac] w fun e w' =>
      ∃ x o, e = .returned (.tuple #[.int .i64 x, o]) ∧ Gave w' o 3 0 WrAc ∧ Below w.heap.size w w' := by
  obtain ⟨T, x, e1, e2, e3⟩ := oneW_run v ans (short lo) (by omega)
  refine (playT_is (oneW 10 0 v) 0 (oneW_nb _ _ _) (by decide) 16 #[.pointer (some ⟨b2, 0, none⟩), .pointer (some ⟨b3, 0, none⟩)] enterC1 hn1 hm h1 h4 hl hr (.go T x) e1
    (fun C hC hb H => costW_is b2 b3 v (hb2.grow hb) (hb3.below hb hb3.lt) H)).mono ?_
  rintro e w1 ⟨o, rfl, hOB, hB⟩
  obtain ⟨B1, B2, B3, g1, g2, d1, d2, d3, rfl, hD⟩ := hOB.at_
  exact ⟨x, _, rfl, ⟨B1, B2, B3, _, _, _, d1, d2, d3, g1, T.acc, rfl, rfl, Nat.zero_le _, e2, e3, hD.r1⟩, hB⟩
theorem playCostR (b2 : Nat) (hn1 : lo.length = n1) (hm : ans.length = m) (h1 : n1 ≤ 1000) (h3 : 8 ≤ m) (h4 : m ≤ 90000) (hl : RI w A1 c1 lo) (hr : RI w AA ac ans)
    (hb2 : BoxAt w b2 #[.int .i64 4, .int .i64 10, .int .i64 0, .int .i64 0, .int .i64 0, .int .i64 0, .int .i64 0]) :
    Calls Try.prog 7 #[.func (.func 17) #[] #[.pointer (some ⟨b2, 0, none⟩)], .slice A1 n1 c1, .slice AA m ac] w fun e w' =>
      ∃ x o, e = .returned (.tuple #[.int .i64 x, o]) ∧ Gave w' o 7 1 RdAc ∧ Below w.heap.size w w' := by
  obtain ⟨T, x, e1, e2, e4, e3⟩ := oneR_run ans (short lo) (by omega)
  refine (playT_is (oneR 10 0) 0 (oneR_nb _ _) (by decide) 17 #[.pointer (some ⟨b2, 0, none⟩)] enterC2 hn1 hm h1 h4 hl hr (.go T x) e1
    (fun C hC hb H => costR_is b2 (hb2.grow hb) H)).mono ?_
  rintro e w1 ⟨o, rfl, hOB, hB⟩
  obtain ⟨B1, B2, B3, g1, g2, d1, d2, d3, rfl, hD⟩ := hOB.at_
  exact ⟨x, _, rfl, ⟨B1, B2, B3, _, _, _, d1, d2, d3, g1, T.acc, rfl, rfl, e4, e2, e3, hD.r1⟩, hB⟩
end
end Go.Proofs.Ytjffgppdjdmmgaa
