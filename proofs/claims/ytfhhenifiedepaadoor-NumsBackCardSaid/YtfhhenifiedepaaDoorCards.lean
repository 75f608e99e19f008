/-
  DERIVED. GIVEN WITH THE SEED: THE CARDS: each row of YtfhhenifiedepaaDoorRows.lean that lists a variable, with what it lists TIED to the program's text (the seventh form; the later family's looks); each row that meets fmt, with fmt's text TOLD by the authors' own Lean function (tested against real Go, not proved from fmt's source: count such statements apart). THE CARD IS WHAT COUNTS. Prove the row's statement (the work); the ties are given (YtfhhenifiedepaaDoorTie.lean); close each card by the builder's one call (the guide's Derived/Test/ToyasCard.lean, 'card_holds'). Laid BY PROGRAM, IN A SANDBOX (cutbox-door.mjs). By AI agents, Wed Nov 11 2026. No macro, syntax, notation, axiom, sorry.
-/
import Derived.Test.YtfhhenifiedepaaDoorRows
import GoSem.ClaimSeven
namespace Go.Proofs.YtfhhenifiedepaaDoor
namespace Rows

/-- THE TIED CARD OF 'kevellaw01.NumsTells'. -/
def numsTellsCard : Claim7 := { stood := { row := numsTellsRow, standIns := [], harness := (true, "caa0dc3208028d59eeb53ffc54875c8092896fa0713d4ca3aadc6d3368c6ef2c"), looks := false }, kinds := [], alts := [], laidByText := true, laidKinds := [.data, .data, .data], laidTests := true, laidLooks := .later }
def NumsTellsCardSaid : Prop := Claim7.holds Tryd.pinned (.plain (OpenSpec.ofChange numsTellsSpec)) numsTellsCard

/-- THE TIED CARD OF 'kevellaw01.NumsBack'. -/
def numsBackCard : Claim7 := { stood := { row := numsBackRow, standIns := [], harness := (true, "caa0dc3208028d59eeb53ffc54875c8092896fa0713d4ca3aadc6d3368c6ef2c"), looks := false }, kinds := [], alts := [], laidByText := true, laidKinds := [.data, .data, .data], laidTests := true, laidLooks := .later }
def NumsBackCardSaid : Prop := Claim7.holds Tryd.pinned (.plain (OpenSpec.ofChange numsBackSpec)) numsBackCard

/-- THE TIED CARD OF 'kevellaw01.NumsRound'. -/
def numsRoundCard : Claim7 := { stood := { row := numsRoundRow, standIns := [], harness := (true, "caa0dc3208028d59eeb53ffc54875c8092896fa0713d4ca3aadc6d3368c6ef2c"), looks := false }, kinds := [], alts := [], laidByText := true, laidKinds := [.data, .data, .data], laidTests := true, laidLooks := .later }
def NumsRoundCardSaid : Prop := Claim7.holds Tryd.pinned (.plain (OpenSpec.ofChange numsRoundSpec)) numsRoundCard

/-- THE SECOND FORM's CARD OF 'kevellaw01.NumsTells'. -/
def numsTellsUptoCard : Claim7 := { stood := { row := numsTellsUptoRow, standIns := [], harness := (true, "caa0dc3208028d59eeb53ffc54875c8092896fa0713d4ca3aadc6d3368c6ef2c"), looks := false }, kinds := [], alts := [], laidByText := true, laidKinds := [.data, .data, .data], laidTests := true, laidLooks := .later }
def NumsTellsUptoCardSaid : Prop := Claim7.holds Tryd.pinned (.plain (OpenSpec.upto numsTellsSpec)) numsTellsUptoCard

/-- THE SECOND FORM's CARD OF 'kevellaw01.NumsBack'. -/
def numsBackUptoCard : Claim7 := { stood := { row := numsBackUptoRow, standIns := [], harness := (true, "caa0dc3208028d59eeb53ffc54875c8092896fa0713d4ca3aadc6d3368c6ef2c"), looks := false }, kinds := [], alts := [], laidByText := true, laidKinds := [.data, .data, .data], laidTests := true, laidLooks := .later }
def NumsBackUptoCardSaid : Prop := Claim7.holds Tryd.pinned (.plain (OpenSpec.upto numsBackSpec)) numsBackUptoCard

/-- THE SECOND FORM's CARD OF 'kevellaw01.NumsRound'. -/
def numsRoundUptoCard : Claim7 := { stood := { row := numsRoundUptoRow, standIns := [], harness := (true, "caa0dc3208028d59eeb53ffc54875c8092896fa0713d4ca3aadc6d3368c6ef2c"), looks := false }, kinds := [], alts := [], laidByText := true, laidKinds := [.data, .data, .data], laidTests := true, laidLooks := .later }
def NumsRoundUptoCardSaid : Prop := Claim7.holds Tryd.pinned (.plain (OpenSpec.upto numsRoundSpec)) numsRoundUptoCard
end Rows
end Go.Proofs.YtfhhenifiedepaaDoor
