/- Acts in memory; one call behind the other upon one Mem. Own work. -/
import Derived.Test.YtjffgppdjdmmgaaTMem2
import Derived.Test.YtjffgppdjdmmgaaTPerf2
namespace Go.Proofs.Ytjffgppdjdmmgaa
open Go.ChangeShapes Go.WideShapes Go.ChangeAt Go.RowKit CellM TapeM

/-- The slice reads as the acts L. -/
def RO (w : World) (A : Option Addr) (c : Nat) (L : List TapeM.Op) : Prop :=
  L.length ≤ c ∧ c ≤ maxLen ∧ ∀ k (h : k < L.length), ∃ ad, A = some ad ∧ w.cell? (ad.add (k * 3)) = some (.int .u8 L[k].k) ∧ w.cell? ⟨(ad.add (k * 3)).block, (ad.add (k * 3)).off + 1, none⟩ = some (.int .i64 L[k].a) ∧
    w.cell? ⟨(ad.add (k * 3)).block, (ad.add (k * 3)).off + 2, none⟩ = some (.int .i64 L[k].b) ∧ 0 ≤ L[k].k ∧ L[k].k < 256
theorem RO.below {w w' : World} {A : Option Addr} {c : Nat} {L : List TapeM.Op} (h : RO w A c L) (hb : Below w.heap.size w w') : RO w' A c L :=
  ⟨h.1, h.2.1, fun k hk => by
    obtain ⟨ad, e, h0, h1, h2, h3⟩ := h.2.2 k hk
    exact ⟨ad, e, (hb.cell (cell_lt h0)).trans h0, (hb.cell (cell_lt h1)).trans h1, (hb.cell (cell_lt h2)).trans h2, h3⟩⟩
/-- The blocks that are there. -/
def Tight (w wr : World) (F : Nat → Prop) : Nat → Prop := fun b => More w F b ∧ b < wr.heap.size
section
variable {w wr W w' : World} {mb : Nat} {v v2 : Nat → Value} {AA : Option Addr} {ac : Nat} {ans : List Int} {S T : TS} {F : Nat → Prop}
theorem TAt.tight (H : TAt w mb v AA ac ans S F) : TAt w mb v AA ac ans S (fun b => F b ∧ b < w.heap.size) := by
  obtain ⟨A, h, c, H⟩ := H
  exact ⟨A, h, c, H.hd, H.ri, fun ad e hn hf => H.rf ad e hn hf.1, H.rows.p, H.rows.r, ⟨H.rows.bF, (H.hd 0 (by decide)).lt⟩, fun i hi hc => ⟨H.rows.rF i hi hc, H.rows.lt hi hc⟩, H.rows.ne, H.rows.dd⟩
theorem TNow.next (H : TNow w wr mb v AA ac ans S F) (hb : Below wr.heap.size wr W) : TAt W mb v AA ac ans S (Tight w wr F) := H.at_.tight.grow hb
theorem TNow.back (H : TNow w wr mb v AA ac ans S F) (hb : Below wr.heap.size wr W) (H2 : TNow W w' mb v2 AA ac ans T (Tight w wr F)) : TNow w w' mb v2 AA ac ans T F := by
  obtain ⟨⟨A, h, c, H1⟩, hs⟩ := H
  obtain ⟨⟨A2, h2, c2, H3⟩, hs2⟩ := H2
  have hbs := hb.size
  refine ⟨⟨A2, h2, c2, H3.hd, H3.ri, H1.rf, H3.rows.mono (fun b hm => ?_)⟩, (hs.trans (.of_below hb)).trans' hs2 (fun b hb => hb.1)⟩
  rcases hm with hm | hm
  · exact hm.1
  · exact .inr (Nat.le_trans hs.kept.size (Nat.le_trans hbs hm))
/-- What is new behind wr stays. -/
theorem TNow.box (H2 : TNow W w' mb v2 AA ac ans T (Tight w wr F)) {p : Addr} {x : Value} (hp : Has W p x) (hb : p.block = wr.heap.size) : Has w' p x :=
  H2.step.kept.has _ _ hp (fun h => by have := h.2; omega)
end
section
variable {w wr W w' : World} {mb : Nat} {ph ph2 : Int} {AA : Option Addr} {ac : Nat} {ans : List Int} {S T : TS} {F : Nat → Prop}
theorem PN.next (H : PN w wr mb ph AA ac ans S F) (hb : Below wr.heap.size wr W) : PT W mb ph AA ac ans S (Tight w wr F) := TNow.next H hb
theorem PN.back (H : PN w wr mb ph AA ac ans S F) (hb : Below wr.heap.size wr W) (H2 : PN W w' mb ph2 AA ac ans T (Tight w wr F)) : PN w w' mb ph2 AA ac ans T F := TNow.back H hb H2
theorem PN.box (H2 : PN W w' mb ph AA ac ans T (Tight w wr F)) {p : Addr} {x : Value} (hp : Has W p x) (hb : p.block = wr.heap.size) : Has w' p x := TNow.box H2 hp hb
end
/-- A way that has ended, inside a region that draws: nothing is left of it. -/
theorem doneAny {P : Program} {a : Act} {w : World} {G : Prop} (h : G) (_ : wpAny P .any #[] (fun _ _ _ => True) 0 #[] a w) : G := h
theorem ret_sum {a b : Int} (h : a = b) : Ending.returned (.int .i64 a) = .returned (.int .i64 b) := by rw [h]
end Go.Proofs.Ytjffgppdjdmmgaa
