/- What comes of a play, under names. Own work. -/
import Derived.Test.YtjffgppdjdmmgaaTPlay2
namespace Go.Proofs.Ytjffgppdjdmmgaa
open Go.ChangeShapes Go.WideShapes Go.ChangeAt Go.RowKit CellM TapeM

def valR : Res → Int
  | .go _ x => x
  | .stop _ => 0
def overR : Res → Bool
  | .go _ _ => false
  | .stop _ => true
theorem val_like {R R' : Res} (h : LikeR R R') : valR R = valR R' ∧ Res.done R = !overR R' ∧ Like R.st R'.st := by
  cases R with
  | go S x =>
    cases R' with
    | go T y => exact ⟨h.2, rfl, h.1⟩
    | stop T => exact h.elim
  | stop S =>
    cases R' with
    | go T y => exact h.elim
    | stop T => exact ⟨rfl, rfl, h⟩
theorem plays_out {R : Res} {w w' : World} {e : Ending} (h : Plays R (Value.int .i64) (.int .i64 0) w w' e) : ∃ A1 A2 A3 m1 m2 m3 c1 c2 c3 va d, va = valR R ∧ d = Res.done R ∧ m1 = R.st.acc.length ∧ m2 = R.st.nts.length ∧
    e = .returned (.tuple #[.int .i64 va, .agg #[.bool d, .slice A1 m1 c1, .slice A2 m2 c2, .slice A3 m3 c3]]) ∧ OutB w' w.heap.size (outV d A1 A2 A3 m1 m2 m3 c1 c2 c3) d R.st ∧ Below w.heap.size w w' := by
  obtain ⟨o, he, hO1, hB⟩ := h
  have hO := hO1.at_
  obtain ⟨P1, P2, P3, g1, g2, d1, d2, d3, rfl, _⟩ := hO
  refine ⟨P1, P2, P3, _, _, _, d1, d2, d3, _, _, rfl, rfl, rfl, rfl, ?_, hO1, hB⟩
  rw [he]
  cases R <;> rfl
theorem enters {P : Program} {f : FuncId} {fn : Func} {c : Code} (hf : P.funcs[f]? = some fn) (hname : (fn.name == "runtime.NumGoroutine") = false) (hb : fn.body = some c) (args : Array Value) (w : World) :
    (callFunc f args).run P w = .ok (.enter f args) w := by
  have h1 : fn.name ≠ "runtime.NumGoroutine" := by simpa using hname
  simp [callFunc, hf, h1, hb]
end Go.Proofs.Ytjffgppdjdmmgaa
