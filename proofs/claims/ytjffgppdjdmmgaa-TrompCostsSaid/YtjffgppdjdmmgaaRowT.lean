/- A row of writes and reads, as a tree; what stands behind the play of a closure. Own work. -/
import Derived.Test.YtjffgppdjdmmgaaTWalk
import Derived.Test.YtjffgppdjdmmgaaTVal
namespace Go.Proofs.Ytjffgppdjdmmgaa
open Go.ChangeShapes Go.WideShapes Go.ChangeAt Go.RowKit CellM TapeM
namespace TapeM
/-- Numbers below 0 are reads, f folds what was read; the others are written. -/
def rowT (rd : Tr Int) (wr : Int → Tr Unit) (f : Int → Int → Int) : List Int → Int → Tr Int
  | [], s => .ret s
  | x :: l, s => if x < 0 then rd.bind fun y => rowT rd wr f l (f s y) else (wr x).bind fun _ => rowT rd wr f l s
theorem rowT_nb {rd : Tr Int} {wr : Int → Tr Unit} {f : Int → Int → Int} (hr : rd.nb 0) (hw : ∀ x, (wr x).nb 0) : ∀ (l : List Int) (s : Int), (rowT rd wr f l s).nb 0
  | [], _ => trivial
  | x :: l, s => by
    show (if x < 0 then rd.bind fun y => rowT rd wr f l (f s y) else (wr x).bind fun _ => rowT rd wr f l s).nb 0
    split
    · exact Tr.nb_bind (m := 0) (fun y => rowT_nb hr hw l (f s y)) rd (n := 0) hr
    · exact Tr.nb_bind (m := 0) (fun _ => rowT_nb hr hw l s) (wr x) (n := 0) (hw x)
theorem rowT_read {rd : Tr Int} {wr : Int → Tr Unit} {f : Int → Int → Int} {l : List Int} {i : Nat} (h : i < l.length) (h0 : l[i] < 0) (s : Int) : rowT rd wr f (l.drop i) s = rd.bind fun y => rowT rd wr f (l.drop (i + 1)) (f s y) := by
  rw [List.drop_eq_getElem_cons h]; exact if_pos h0
theorem rowT_write {rd : Tr Int} {wr : Int → Tr Unit} {f : Int → Int → Int} {l : List Int} {i : Nat} (h : i < l.length) (h0 : ¬ l[i] < 0) (s : Int) : rowT rd wr f (l.drop i) s = (wr l[i]).bind fun _ => rowT rd wr f (l.drop (i + 1)) s := by
  rw [List.drop_eq_getElem_cons h]; exact if_neg h0
end TapeM
/-- A register's cells, and its value. -/
def regCs (k b l n wr rd tp : Int) : Array Value := #[.int .i64 k, .int .i64 b, .int .i64 l, .int .i64 n, .int .i64 wr, .int .i64 rd, .int .i64 tp]
/-- A variable of cells. -/
def BoxAt (w : World) (bx : Nat) (cs : Array Value) : Prop := ∀ i u, cs[i]? = some u → Has w ⟨bx, i, none⟩ u
section
variable {w w' : World} {bx : Nat} {cs : Array Value}
theorem BoxAt.new (w : World) (cs : Array Value) (t : TypeId) : BoxAt (w.alloc (.cells cs t)) w.heap.size cs := fun i u hu => has_new w cs t i u hu
theorem BoxAt.below {B : Nat} (h : BoxAt w bx cs) (hb : Below B w w') (hB : bx < B) : BoxAt w' bx cs := fun i u hu => (h i u hu).below hb hB
theorem BoxAt.grow (h : BoxAt w bx cs) (hb : Below w.heap.size w w') : BoxAt w' bx cs := fun i u hu => (h i u hu).below hb (h i u hu).lt
theorem BoxAt.keeps {K : Nat → Prop} (h : BoxAt w bx cs) (hk : Keeps K w w') (hK : K bx) : BoxAt w' bx cs := fun i u hu => hk _ _ hK (h i u hu)
end
end Go.Proofs.Ytjffgppdjdmmgaa
