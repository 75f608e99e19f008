/- Slices of calls (kevelref08.Act2): what they read as. Own work. -/
import Derived.Test.YtdfkmkflcnfchaaNumR8
namespace Go.Proofs.Ytdfkmkflcnfchaa
open Go.ChangeShapes Go.WideShapes Go.ChangeAt Go.RowKit CellM

structure Ac2 where
  e : Bool
  t : Int
  n : Int
  k : Int
  c : Int
  v : Int
  deriving Inhabited
/-- The slice's places hold the calls L. -/
def RA (w : World) (A : Option Addr) (c : Nat) (L : List Ac2) : Prop :=
  L.length ≤ c ∧ c ≤ maxLen ∧ ∀ k (h : k < L.length), ∃ ad, A = some ad ∧ w.cell? (ad.add (k * 6)) = some (.bool L[k].e) ∧
    w.cell? ⟨(ad.add (k * 6)).block, (ad.add (k * 6)).off + 1, none⟩ = some (.int .i64 L[k].t) ∧ w.cell? ⟨(ad.add (k * 6)).block, (ad.add (k * 6)).off + 2, none⟩ = some (.int .i64 L[k].n) ∧
    w.cell? ⟨(ad.add (k * 6)).block, (ad.add (k * 6)).off + 3, none⟩ = some (.int .i64 L[k].k) ∧ w.cell? ⟨(ad.add (k * 6)).block, (ad.add (k * 6)).off + 4, none⟩ = some (.int .i64 L[k].c) ∧
    w.cell? ⟨(ad.add (k * 6)).block, (ad.add (k * 6)).off + 5, none⟩ = some (.int .i64 L[k].v)
theorem RA.below {w w' : World} {A : Option Addr} {c : Nat} {L : List Ac2} (h : RA w A c L) (hb : Below w.heap.size w w') : RA w' A c L :=
  ⟨h.1, h.2.1, fun k hk => by
    obtain ⟨ad, e, h0, h1, h2, h3, h4, h5⟩ := h.2.2 k hk
    exact ⟨ad, e, (hb.cell (cell_lt h0)).trans h0, (hb.cell (cell_lt h1)).trans h1, (hb.cell (cell_lt h2)).trans h2, (hb.cell (cell_lt h3)).trans h3, (hb.cell (cell_lt h4)).trans h4, (hb.cell (cell_lt h5)).trans h5⟩⟩
end Go.Proofs.Ytdfkmkflcnfchaa
