/- A steady bit: what writing it and reading it do. Plain mathematics. Own work. -/
import Derived.Test.YtjffgppdjdmmgaaTTree
namespace Go.Proofs.Ytjffgppdjdmmgaa
namespace TapeM
def bitI (v : Int) : Int := if v = 0 then 0 else 1
def wrSd (b l v : Int) : Tr Unit := .get l fun x => if x = bitI v then .ret () else .ask ⟨2, b, bitI v⟩ fun _ => .set l (bitI v) (.ret ())
def rdSd (b : Int) : Tr Int := .ask ⟨1, b, 0⟩ .ret
theorem wrSd_bind (b l v : Int) (k : Unit → Tr Int) : (wrSd b l v).bind k = .get l fun x => if x = bitI v then k () else .ask ⟨2, b, bitI v⟩ fun _ => .set l (bitI v) (k ()) := by
  show Tr.get l _ = Tr.get l _
  congr 1
  funext x
  rw [Tr.bind_ite]
  rfl
theorem bitI_nb (b l v : Int) : (wrSd b l v).nb 0 := fun x => by
  show (if x = bitI v then Tr.ret () else Tr.ask ⟨2, b, bitI v⟩ fun _ => .set l (bitI v) (.ret ())).nb 0
  split
  · trivial
  · exact fun _ => trivial
theorem rdSd_nb (b : Int) : (rdSd b).nb 0 := fun _ => trivial
end TapeM
end Go.Proofs.Ytjffgppdjdmmgaa
