/-
  DERIVED. GIVEN WITH THE SEED: THE CARDS: each row of YtmbdaaiknjebmaaDoorRows.lean that lists a variable, with what it lists TIED to the program's text (the seventh form; the later family's looks); each row that meets fmt, with fmt's text TOLD by the authors' own Lean function (tested against real Go, not proved from fmt's source: count such statements apart). THE CARD IS WHAT COUNTS. Prove the row's statement (the work); the ties are given (YtmbdaaiknjebmaaDoorTie.lean); close each card by the builder's one call (the guide's Derived/Test/ToyasCard.lean, 'card_holds'). Laid BY PROGRAM, IN A SANDBOX (cutbox-door.mjs). By AI agents, Wed Nov 11 2026. No macro, syntax, notation, axiom, sorry.
-/
import Derived.Test.YtmbdaaiknjebmaaDoorRows
import GoSem.ClaimSeven
namespace Go.Proofs.YtmbdaaiknjebmaaDoor
namespace Rows

/-- THE TIED CARD OF 'kevellaw04.PlaneTells'. -/
def planeTellsCard : Claim7 := { stood := { row := planeTellsRow, standIns := [], harness := (true, "1b73b92bfcacc6960b103c8d97d8e5467e0b4132e35fb8302eb8278c8936bedb"), looks := false }, kinds := [], alts := [], laidByText := true, laidKinds := [.data, .data, .data], laidTests := true, laidLooks := .later }
def PlaneTellsCardSaid : Prop := Claim7.holds Tryd.pinned (.plain (OpenSpec.ofChange planeTellsSpec)) planeTellsCard

/-- THE TIED CARD OF 'kevellaw04.PlaneGoes'. -/
def planeGoesCard : Claim7 := { stood := { row := planeGoesRow, standIns := [], harness := (true, "1b73b92bfcacc6960b103c8d97d8e5467e0b4132e35fb8302eb8278c8936bedb"), looks := false }, kinds := [], alts := [], laidByText := true, laidKinds := [.data, .data, .data], laidTests := true, laidLooks := .later }
def PlaneGoesCardSaid : Prop := Claim7.holds Tryd.pinned (.plain (OpenSpec.ofChange planeGoesSpec)) planeGoesCard

/-- THE TIED CARD OF 'kevellaw04.PlaneBack'. -/
def planeBackCard : Claim7 := { stood := { row := planeBackRow, standIns := [], harness := (true, "1b73b92bfcacc6960b103c8d97d8e5467e0b4132e35fb8302eb8278c8936bedb"), looks := false }, kinds := [], alts := [], laidByText := true, laidKinds := [.data, .data, .data], laidTests := true, laidLooks := .later }
def PlaneBackCardSaid : Prop := Claim7.holds Tryd.pinned (.plain (OpenSpec.ofChange planeBackSpec)) planeBackCard

/-- THE SECOND FORM's CARD OF 'kevellaw04.PlaneTells'. -/
def planeTellsUptoCard : Claim7 := { stood := { row := planeTellsUptoRow, standIns := [], harness := (true, "1b73b92bfcacc6960b103c8d97d8e5467e0b4132e35fb8302eb8278c8936bedb"), looks := false }, kinds := [], alts := [], laidByText := true, laidKinds := [.data, .data, .data], laidTests := true, laidLooks := .later }
def PlaneTellsUptoCardSaid : Prop := Claim7.holds Tryd.pinned (.plain (OpenSpec.upto planeTellsSpec)) planeTellsUptoCard

/-- THE SECOND FORM's CARD OF 'kevellaw04.PlaneGoes'. -/
def planeGoesUptoCard : Claim7 := { stood := { row := planeGoesUptoRow, standIns := [], harness := (true, "1b73b92bfcacc6960b103c8d97d8e5467e0b4132e35fb8302eb8278c8936bedb"), looks := false }, kinds := [], alts := [], laidByText := true, laidKinds := [.data, .data, .data], laidTests := true, laidLooks := .later }
def PlaneGoesUptoCardSaid : Prop := Claim7.holds Tryd.pinned (.plain (OpenSpec.upto planeGoesSpec)) planeGoesUptoCard

/-- THE SECOND FORM's CARD OF 'kevellaw04.PlaneBack'. -/
def planeBackUptoCard : Claim7 := { stood := { row := planeBackUptoRow, standIns := [], harness := (true, "1b73b92bfcacc6960b103c8d97d8e5467e0b4132e35fb8302eb8278c8936bedb"), looks := false }, kinds := [], alts := [], laidByText := true, laidKinds := [.data, .data, .data], laidTests := true, laidLooks := .later }
def PlaneBackUptoCardSaid : Prop := Claim7.holds Tryd.pinned (.plain (OpenSpec.upto planeBackSpec)) planeBackUptoCard
end Rows
end Go.Proofs.YtmbdaaiknjebmaaDoor
