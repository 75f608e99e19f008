/- TapePlays: the program's outcome is the reference's. Own work. -/
import Derived.Test.YthpdfmjcchcijaaTAlive2
import Derived.Test.YthpdfmjcchcijaaTDo
import Derived.Test.YthpdfmjcchcijaaTDoR
import Derived.Test.YthpdfmjcchcijaaTOutR
import Derived.Test.YthpdfmjcchcijaaTNewR
import Derived.Deep.DeepCutAuto
namespace Go.Proofs.Ythpdfmjcchcijaa
open Go.ChangeShapes Go.WideShapes Go.ChangeAt Go.RowKit CellM TapeM

theorem enter8 (args : Array Value) (w : World) : (callFunc 8 args).run Try.prog w = .ok (.enter 8 args) w := enters Try.func8 (by kernel_rfl) rfl args w
/-- The closure: the acts behind a box. -/
theorem clo8_is {w : World} {mb bx : Nat} {AA : Option Addr} {ac : Nat} {ans : List Int} {S : TS} {F : Nat → Prop} (H : PT w mb 1 AA ac ans S F) (B : Nat) (Al : Option Addr) (cl n : Nat) (L : List TapeM.Op) (hn : L.length = n) (hB : B ≤ w.heap.size) (hF : ∀ b, F b → B ≤ b)
    (HA : ∀ wx, Below B w wx → RO wx Al cl L) (hL : n ≤ 100) (ha : ans.length ≤ 1000) (hacc : S.acc.length ≤ ans.length) (hnts : S.nts.length ≤ 100) (hloc : S.loc.length ≤ 32768) (hbx : w.cell? ⟨bx, 0, none⟩ = some (.slice Al n cl)) (R : Res) (hR : runA ans L S 0 = R) :
    Calls Try.prog 8 #[.pointer (some ⟨mb, 0, none⟩), .pointer (some ⟨bx, 0, none⟩)] w fun e w' => Ends R (Value.int .i64) w w' mb AA ac ans F e := by
  have HD := Lib.hid (do_is B Al cl n L hn hB hF HA hL ha S.nts.length hnts R ⟨TNow.of H (Below.refl _ _), hR, hacc, Nat.le_refl _, hloc⟩)
  clear HA hR
  go_enter Try.func8, Try.ntmps8
  go_wp2_with fail
  refine HD.out.mono ?_
  intro e w' hE
  cases R with
  | go T x =>
    obtain ⟨rfl, hN⟩ := hE
    have HN := Lib.hid hN
    clear hN HD
    go_wp2_with fail
    go_ret
    exact ⟨rfl, HN.out⟩
  | stop T =>
    obtain ⟨rfl, hN⟩ := hE
    exact ⟨rfl, rfl, hN⟩
/-- Play of the closure. -/
theorem playC8_is {w : World} {bx : Nat} {AA Al A1 : Option Addr} {ac cl c1 n n1 m : Nat} {ans lo : List Int} {L : List TapeM.Op} (hn : L.length = n) (hn1 : lo.length = n1) (hm : ans.length = m) (h1 : n ≤ 100) (h2 : n1 ≤ 1000) (h3 : m ≤ 1000)
    (hA : RO w Al cl L) (hl : RI w A1 c1 lo) (hr : RI w AA ac ans) (hbx : Has w ⟨bx, 0, none⟩ (.slice Al n cl)) (R : Res) (hR : runA ans L ⟨[], [], short lo⟩ 0 = R) :
    Calls Try.prog 7 #[.func (.func 8) #[] #[.pointer (some ⟨bx, 0, none⟩)], .slice A1 n1 c1, .slice AA m ac] w fun e w' => Plays R (Value.int .i64) (.int .i64 0) w w' e := by
  refine play_is R 8 #[.pointer (some ⟨bx, 0, none⟩)] enter8 A1 c1 n1 m hn1 hm h2 hl hr (fun w1 w2 F hb hF hP hb2 => ?_)
  have hb12 : Below w.heap.size w w2 := hb.trans (hb2.mono hb.size)
  exact clo8_is (hP.grow hb2) w.heap.size Al cl n L hn hb12.size (fun b hb => (hF b hb).1) (fun wx hx => hA.below (hb12.trans hx)) h1 (by omega) (by simp) (by simp) (by have := sh_le lo lo.length; rw [short_len]; unfold shN; omega)
    (hbx.below hb12 hbx.lt).1 R hR
theorem val_like {R R' : Res} (h : LikeR R R') : valR R = valR R' ∧ Res.done R = !overR R' ∧ Like R.st R'.st := by
  cases R with
  | go S x =>
    cases R' with
    | go T y => exact ⟨h.2, rfl, h.1⟩
    | stop T => exact h.elim
  | stop S =>
    cases R' with
    | go T y => exact h.elim
    | stop T => exact ⟨rfl, rfl, h⟩
theorem plays_out {R : Res} {w w' : World} {e : Ending} (h : Plays R (Value.int .i64) (.int .i64 0) w w' e) : ∃ A1 A2 A3 m1 m2 m3 c1 c2 c3 va d, va = valR R ∧ d = Res.done R ∧ m1 = R.st.acc.length ∧ m2 = R.st.nts.length ∧
    e = .returned (.tuple #[.int .i64 va, .agg #[.bool d, .slice A1 m1 c1, .slice A2 m2 c2, .slice A3 m3 c3]]) ∧ OutB w' w.heap.size (outV d A1 A2 A3 m1 m2 m3 c1 c2 c3) d R.st ∧ Below w.heap.size w w' := by
  obtain ⟨o, he, hO1, hB⟩ := h
  have hO := hO1.at_
  obtain ⟨P1, P2, P3, g1, g2, d1, d2, d3, rfl, _⟩ := hO
  refine ⟨P1, P2, P3, _, _, _, d1, d2, d3, _, _, rfl, rfl, rfl, rfl, ?_, hO1, hB⟩
  rw [he]
  cases R <;> rfl
end Go.Proofs.Ythpdfmjcchcijaa
