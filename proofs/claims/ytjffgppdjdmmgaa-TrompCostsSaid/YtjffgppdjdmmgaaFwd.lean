/- A scope whose jumps go forward to one label: what stands behind the label is walked where it is jumped to. Own work. -/
import Derived.Test.YtjffgppdjdmmgaaIntsB
import Derived.ScopeJumps
import Derived.WalkMore
namespace Go.Proofs.Ytjffgppdjdmmgaa
open Go
section
variable {P : Program} {a : Act} {w : World} {Q : Exit → Act → World → Prop}
/-- Behind the label. -/
def behind (P : Program) (rest : Code) (l : Nat) (Q : Exit → Act → World → Prop) (a : Act) (w : World) : Prop := rest.wp P (Exit.jump l (fun _ _ => False) Q) a w
theorem wp_scope_fwd {c rest : Code} (l : Nat) (hf : findLabel c l = some rest) (first : c.wp P (Exit.jump l (behind P rest l Q) Q) a w) : (Code.scope c).wp P Q a w :=
  wp_scope_jumps l (behind P rest l Q) (fun _ _ => 0) hf first fun a w h => Code.wp_mono (fun e a w he => by
    cases e with
    | goto l' => exact he.2.elim
    | _ => exact he) h
theorem jump_goto {l : Nat} {J : Act → World → Prop} (h : J a w) : Exit.jump l J Q (.goto l) a w := ⟨rfl, h⟩
theorem jump_normal {l : Nat} {J : Act → World → Prop} : Exit.jump l J Q .normal a w = Q .normal a w := rfl
theorem jump_ret {l : Nat} {J : Act → World → Prop} : Exit.jump l J Q .ret a w = Q .ret a w := rfl
theorem jump_panic {l : Nat} {J : Act → World → Prop} (ch : List PanicEntry) : Exit.jump l J Q (.panic ch) a w = Q (.panic ch) a w := rfl
end
end Go.Proofs.Ytjffgppdjdmmgaa
