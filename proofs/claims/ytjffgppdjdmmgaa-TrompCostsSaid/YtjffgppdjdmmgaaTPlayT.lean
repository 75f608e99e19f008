/- tape's Play of a closure that does what a tree says. Own work. -/
import Derived.Test.YtjffgppdjdmmgaaTWalk
import Derived.Test.YtjffgppdjdmmgaaTVal
namespace Go.Proofs.Ytjffgppdjdmmgaa
open Go.ChangeShapes Go.WideShapes Go.ChangeAt Go.RowKit CellM TapeM

theorem playT_is {w : World} {A1 AA : Option Addr} {c1 ac n1 m : Nat} {lo ans : List Int} (t : Tr Int) (N : Nat) (hN : t.nb N) (hN2 : N ≤ 80000) (fn : FuncId) (cap : Array Value) (hcf : ∀ args w, (callFunc fn args).run Try.prog w = .ok (.enter fn args) w)
    (hn1 : lo.length = n1) (hm : ans.length = m) (h2 : n1 ≤ 1000) (h3 : m ≤ 90000) (hl : RI w A1 c1 lo) (hr : RI w AA ac ans) (R : Res) (hR : t.run ans ⟨[], [], short lo⟩ = R)
    (HC : ∀ C : Ctx, C.base = w.heap.size → Below w.heap.size w C.w → Now C C.w (fun b => b < C.base) t R → Calls Try.prog fn (#[.pointer (some ⟨C.mb, 0, none⟩)] ++ cap) C.w fun e w' => Goes C C.w w' (fun b => b < C.base) (Value.int .i64) Tr.ret R e) :
    Calls Try.prog 7 #[.func (.func fn) #[] cap, .slice A1 n1 c1, .slice AA m ac] w fun e w' => Plays R (Value.int .i64) (.int .i64 0) w w' e := by
  refine play_is R fn cap hcf A1 c1 n1 m hn1 hm h2 hl hr (fun w1 w2 F hb hF hP hb2 => ?_)
  have hb12 := hb.trans (hb2.mono hb.size)
  have hlo : (short lo).length ≤ 32768 := by
    rw [short_len]
    have := sh_le lo lo.length
    unfold shN; omega
  have H := Now.start (base := w.heap.size) (hP.grow hb2) (fun b hb => (hF b hb).1) hb12.size t N hN (by omega) (by simp) (by simp; omega) hlo
  rw [hR] at H
  exact (HC _ rfl hb12 H).mono fun e w' hG => hG.ends
end Go.Proofs.Ytjffgppdjdmmgaa
