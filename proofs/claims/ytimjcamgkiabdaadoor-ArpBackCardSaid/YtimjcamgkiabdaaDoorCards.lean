/-
  DERIVED. GIVEN WITH THE SEED: THE CARDS: each row of YtimjcamgkiabdaaDoorRows.lean that lists a variable, with what it lists TIED to the program's text (the seventh form; the later family's looks); each row that meets fmt, with fmt's text TOLD by the authors' own Lean function (tested against real Go, not proved from fmt's source: count such statements apart). THE CARD IS WHAT COUNTS. Prove the row's statement (the work); the ties are given (YtimjcamgkiabdaaDoorTie.lean); close each card by the builder's one call (the guide's Derived/Test/ToyasCard.lean, 'card_holds'). Laid BY PROGRAM, IN A SANDBOX (cutbox-door.mjs). By AI agents, Wed Nov 11 2026. No macro, syntax, notation, axiom, sorry.
-/
import Derived.Test.YtimjcamgkiabdaaDoorRows
import GoSem.ClaimSeven
namespace Go.Proofs.YtimjcamgkiabdaaDoor
namespace Rows

/-- THE TIED CARD OF 'pointsmanlaw06.ArpBuilds'. -/
def arpBuildsCard : Claim7 := { stood := { row := arpBuildsRow, standIns := [], harness := (true, "4b2556ed27b3a43d34ce85e8eab52ad4f7444c29d62f90391d11ffda1d22c3b4"), looks := false }, kinds := [], alts := [], laidByText := true, laidKinds := [.data], laidTests := true, laidLooks := .later }
def ArpBuildsCardSaid : Prop := Claim7.holds Tryd.pinned (.plain (OpenSpec.ofChange arpBuildsSpec)) arpBuildsCard

/-- THE TIED CARD OF 'pointsmanlaw06.ArpReads'. -/
def arpReadsCard : Claim7 := { stood := { row := arpReadsRow, standIns := [], harness := (true, "4b2556ed27b3a43d34ce85e8eab52ad4f7444c29d62f90391d11ffda1d22c3b4"), looks := false }, kinds := [], alts := [], laidByText := true, laidKinds := [.data], laidTests := true, laidLooks := .later }
def ArpReadsCardSaid : Prop := Claim7.holds Tryd.pinned (.plain (OpenSpec.ofChange arpReadsSpec)) arpReadsCard

/-- THE TIED CARD OF 'pointsmanlaw06.ArpBack'. -/
def arpBackCard : Claim7 := { stood := { row := arpBackRow, standIns := [], harness := (true, "4b2556ed27b3a43d34ce85e8eab52ad4f7444c29d62f90391d11ffda1d22c3b4"), looks := false }, kinds := [], alts := [], laidByText := true, laidKinds := [.data], laidTests := true, laidLooks := .later }
def ArpBackCardSaid : Prop := Claim7.holds Tryd.pinned (.plain (OpenSpec.ofChange arpBackSpec)) arpBackCard

/-- THE SECOND FORM's CARD OF 'pointsmanlaw06.ArpBuilds'. -/
def arpBuildsUptoCard : Claim7 := { stood := { row := arpBuildsUptoRow, standIns := [], harness := (true, "4b2556ed27b3a43d34ce85e8eab52ad4f7444c29d62f90391d11ffda1d22c3b4"), looks := false }, kinds := [], alts := [], laidByText := true, laidKinds := [.data], laidTests := true, laidLooks := .later }
def ArpBuildsUptoCardSaid : Prop := Claim7.holds Tryd.pinned (.plain (OpenSpec.upto arpBuildsSpec)) arpBuildsUptoCard

/-- THE SECOND FORM's CARD OF 'pointsmanlaw06.ArpReads'. -/
def arpReadsUptoCard : Claim7 := { stood := { row := arpReadsUptoRow, standIns := [], harness := (true, "4b2556ed27b3a43d34ce85e8eab52ad4f7444c29d62f90391d11ffda1d22c3b4"), looks := false }, kinds := [], alts := [], laidByText := true, laidKinds := [.data], laidTests := true, laidLooks := .later }
def ArpReadsUptoCardSaid : Prop := Claim7.holds Tryd.pinned (.plain (OpenSpec.upto arpReadsSpec)) arpReadsUptoCard

/-- THE SECOND FORM's CARD OF 'pointsmanlaw06.ArpBack'. -/
def arpBackUptoCard : Claim7 := { stood := { row := arpBackUptoRow, standIns := [], harness := (true, "4b2556ed27b3a43d34ce85e8eab52ad4f7444c29d62f90391d11ffda1d22c3b4"), looks := false }, kinds := [], alts := [], laidByText := true, laidKinds := [.data], laidTests := true, laidLooks := .later }
def ArpBackUptoCardSaid : Prop := Claim7.holds Tryd.pinned (.plain (OpenSpec.upto arpBackSpec)) arpBackUptoCard
end Rows
end Go.Proofs.YtimjcamgkiabdaaDoor
