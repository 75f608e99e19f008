/-
  No cell of these rows narrows 'for every input' (looked for: loops, veiled, ifaces, maps, wideKeys, modest, calm, conditions, laid).
  DERIVED. THE GIVEN ROWS OF THIS SEAT. 3 by the template 'for every input the law returns true; each argument reads behind the call as it read before'; 0 by the template 'total and deterministic' (their statements: YtdpbpbbikeikfaaTotals.lean).
  GIVEN WITH THE SEED: the statements are not yours to turn. If you find one false, say at which input.
  Laid BY PROGRAM, IN A SANDBOX (cutbox-rows.mjs): the forced cells as the released guide's own fill.sh prints them over the translation ca731f69d34ec26e… (all of the seat's roots in one cut). By AI agents, Wed Nov 11 2026. No macro, syntax, notation, axiom, sorry.
-/
import Derived.Test.YtdpbpbbikeikfaaChecked
import GoSem.Claim
import GoSem.ClaimJoined
import GoSem.ClaimMapViews
import Derived.JoinedTies
import Derived.KernelRfl
namespace Go.Proofs.Ytdpbpbbikeikfaa
/- THE CELL 'sum', in the pinned program and in every row, IS THE sha256 OF THE DUMP (.gsa) THAT YtdpbpbbikeikfaaProg.lean LOADS. Nothing in Lean hashes anything: it is a label: what it is worth is what the hold of that sum in a sandbox is worth. -/
noncomputable def Try.pinned : Pinned := { name := "ytdpbpbbikeikfaa", sum := "ca731f69d34ec26eb3eaf42a1ebd91e4ace51568a3b97ea0270ef9ec3228cf03", checked := Try.checked }
namespace Rows
def none {H : Type} : Left H := { results := [], args := [] }

/-- 'kevellaw08.CellPlays': WHATEVER THE INPUT: true; the input reads as it did. -/
def cellPlaysSpec : ChangeSpec := { name := "cellPlays", fn := fun _ => fun
  | [d1, d2, d3] => { results := [.lit (.bool true)], args := [d1, d2, d3] }
  | _ => none }
def cellPlaysRow : OpenClaim := { program := "ytdpbpbbikeikfaa", sum := "ca731f69d34ec26eb3eaf42a1ebd91e4ace51568a3b97ea0270ef9ec3228cf03", func := "kevel/kevellaw08.CellPlays", spec := "cellPlays", apart := false }
def CellPlaysSaid : Prop := cellPlaysRow.holds Try.pinned (OpenSpec.ofChange cellPlaysSpec)

/-- ITS FALSE NEIGHBOUR: 'it returns false'. Refute it at one input. -/
def cellPlaysWrong : ChangeSpec := { name := "cellPlays", fn := fun _ => fun
  | [d1, d2, d3] => { results := [.lit (.bool false)], args := [d1, d2, d3] }
  | _ => none }
def CellPlaysWrongFalsely : Prop := cellPlaysRow.holds Try.pinned (OpenSpec.ofChange cellPlaysWrong)

/-- 'kevellaw08.CellQuiet': WHATEVER THE INPUT: true; the input reads as it did. -/
def cellQuietSpec : ChangeSpec := { name := "cellQuiet", fn := fun _ => fun
  | [d1, d2, d3] => { results := [.lit (.bool true)], args := [d1, d2, d3] }
  | _ => none }
def cellQuietRow : OpenClaim := { program := "ytdpbpbbikeikfaa", sum := "ca731f69d34ec26eb3eaf42a1ebd91e4ace51568a3b97ea0270ef9ec3228cf03", func := "kevel/kevellaw08.CellQuiet", spec := "cellQuiet", apart := false }
def CellQuietSaid : Prop := cellQuietRow.holds Try.pinned (OpenSpec.ofChange cellQuietSpec)

/-- ITS FALSE NEIGHBOUR: 'it returns false'. Refute it at one input. -/
def cellQuietWrong : ChangeSpec := { name := "cellQuiet", fn := fun _ => fun
  | [d1, d2, d3] => { results := [.lit (.bool false)], args := [d1, d2, d3] }
  | _ => none }
def CellQuietWrongFalsely : Prop := cellQuietRow.holds Try.pinned (OpenSpec.ofChange cellQuietWrong)

/-- 'kevellaw08.CellMay': WHATEVER THE INPUT: true; the input reads as it did. -/
def cellMaySpec : ChangeSpec := { name := "cellMay", fn := fun _ => fun
  | [d1, d2, d3] => { results := [.lit (.bool true)], args := [d1, d2, d3] }
  | _ => none }
def cellMayRow : OpenClaim := { program := "ytdpbpbbikeikfaa", sum := "ca731f69d34ec26eb3eaf42a1ebd91e4ace51568a3b97ea0270ef9ec3228cf03", func := "kevel/kevellaw08.CellMay", spec := "cellMay", apart := false }
def CellMaySaid : Prop := cellMayRow.holds Try.pinned (OpenSpec.ofChange cellMaySpec)

/-- ITS FALSE NEIGHBOUR: 'it returns false'. Refute it at one input. -/
def cellMayWrong : ChangeSpec := { name := "cellMay", fn := fun _ => fun
  | [d1, d2, d3] => { results := [.lit (.bool false)], args := [d1, d2, d3] }
  | _ => none }
def CellMayWrongFalsely : Prop := cellMayRow.holds Try.pinned (OpenSpec.ofChange cellMayWrong)

/- THE SECOND FORM. 'bulk': how many values and letters a reading holds, each counted each time it is reached (what is shared counts as often as it is met; a slice's spare places count too). A statement '..UptoSaid' is the law's where the arguments, and the package variables that the reading takes, are together of bulk at most 1048576: NARROWER than '..Said'. Prove '..Said' where nothing that the law and all that it calls make is longer than what came in: it says more and counts as full. Else prove '..UptoSaid'. A law counts once. -/
mutual
def uptoBulk {H : Type} : DataW H → Nat
  | .lit (.string bytes) => bytes.length + 1
  | .lit _ => 1
  | .nil => 1
  | .ptr d => uptoBulk d + 1
  | .slice elems spare => uptoBulkAll elems + uptoBulkAll spare + 1
  | .agg parts => uptoBulkAll parts + 1
  | .iface _ d => uptoBulk d + 1
  | .map entries => uptoBulkEntries entries + 1
  | .held _ => 1
def uptoBulkAll {H : Type} : List (DataW H) → Nat
  | [] => 0
  | d :: r => uptoBulk d + uptoBulkAll r
def uptoBulkEntries {H : Type} : List (Lit × DataW H) → Nat
  | [] => 0
  | x :: r => uptoBulkEntry x + uptoBulkEntries r
def uptoBulkEntry {H : Type} : Lit × DataW H → Nat
  | (.string bytes, d) => bytes.length + uptoBulk d + 1
  | (_, d) => uptoBulk d + 1
 end
def uptoSmall : (H : Type) → List (DataW H) → Bool := fun _ ds => decide (uptoBulkAll ds ≤ 1048576)
def OpenSpec.upto (s : _root_.Go.ChangeSpec) : _root_.Go.OpenSpec := { _root_.Go.OpenSpec.ofChange s with cond := some uptoSmall }

/-- 'kevellaw08.CellPlays', WHERE WHAT IT READS IS OF BULK AT MOST 1048576: true; the input reads as it did. -/
def cellPlaysUptoRow : OpenClaim := { program := "ytdpbpbbikeikfaa", sum := "ca731f69d34ec26eb3eaf42a1ebd91e4ace51568a3b97ea0270ef9ec3228cf03", func := "kevel/kevellaw08.CellPlays", spec := "cellPlays", apart := false, narrowed := true }
def CellPlaysUptoSaid : Prop := cellPlaysUptoRow.holds Try.pinned (OpenSpec.upto cellPlaysSpec)

/-- 'kevellaw08.CellQuiet', WHERE WHAT IT READS IS OF BULK AT MOST 1048576: true; the input reads as it did. -/
def cellQuietUptoRow : OpenClaim := { program := "ytdpbpbbikeikfaa", sum := "ca731f69d34ec26eb3eaf42a1ebd91e4ace51568a3b97ea0270ef9ec3228cf03", func := "kevel/kevellaw08.CellQuiet", spec := "cellQuiet", apart := false, narrowed := true }
def CellQuietUptoSaid : Prop := cellQuietUptoRow.holds Try.pinned (OpenSpec.upto cellQuietSpec)

/-- 'kevellaw08.CellMay', WHERE WHAT IT READS IS OF BULK AT MOST 1048576: true; the input reads as it did. -/
def cellMayUptoRow : OpenClaim := { program := "ytdpbpbbikeikfaa", sum := "ca731f69d34ec26eb3eaf42a1ebd91e4ace51568a3b97ea0270ef9ec3228cf03", func := "kevel/kevellaw08.CellMay", spec := "cellMay", apart := false, narrowed := true }
def CellMayUptoSaid : Prop := cellMayUptoRow.holds Try.pinned (OpenSpec.upto cellMaySpec)

end Rows
end Go.Proofs.Ytdpbpbbikeikfaa
