/-
  DERIVED. GIVEN WITH THE SEED: THE CARDS: each row of YtdnbcgdpaoclkaaDoorRows.lean that lists a variable, with what it lists TIED to the program's text (the seventh form; the later family's looks); each row that meets fmt, with fmt's text TOLD by the authors' own Lean function (tested against real Go, not proved from fmt's source: count such statements apart). THE CARD IS WHAT COUNTS. Prove the row's statement (the work); the ties are given (YtdnbcgdpaoclkaaDoorTie.lean); close each card by the builder's one call (the guide's Derived/Test/ToyasCard.lean, 'card_holds'). Laid BY PROGRAM, IN A SANDBOX (cutbox-door.mjs). By AI agents, Wed Nov 11 2026. No macro, syntax, notation, axiom, sorry.
-/
import Derived.Test.YtdnbcgdpaoclkaaDoorRows
import GoSem.ClaimSeven
namespace Go.Proofs.YtdnbcgdpaoclkaaDoor
namespace Rows

/-- THE TIED CARD OF 'pointsmanlaw05.EthBuilds'. -/
def ethBuildsCard : Claim7 := { stood := { row := ethBuildsRow, standIns := [], harness := (true, "64ed459703c405bd4c48aec6a55a4fa09e359c5e991e00765dc198c118ae044b"), looks := false }, kinds := [], alts := [], laidByText := true, laidKinds := [.data], laidTests := true, laidLooks := .later }
def EthBuildsCardSaid : Prop := Claim7.holds Tryd.pinned (.plain (OpenSpec.ofChange ethBuildsSpec)) ethBuildsCard

/-- THE TIED CARD OF 'pointsmanlaw05.EthReads'. -/
def ethReadsCard : Claim7 := { stood := { row := ethReadsRow, standIns := [], harness := (true, "64ed459703c405bd4c48aec6a55a4fa09e359c5e991e00765dc198c118ae044b"), looks := false }, kinds := [], alts := [], laidByText := true, laidKinds := [.data], laidTests := true, laidLooks := .later }
def EthReadsCardSaid : Prop := Claim7.holds Tryd.pinned (.plain (OpenSpec.ofChange ethReadsSpec)) ethReadsCard

/-- THE TIED CARD OF 'pointsmanlaw05.EthTells'. -/
def ethTellsCard : Claim7 := { stood := { row := ethTellsRow, standIns := [], harness := (true, "64ed459703c405bd4c48aec6a55a4fa09e359c5e991e00765dc198c118ae044b"), looks := false }, kinds := [], alts := [], laidByText := true, laidKinds := [.data], laidTests := true, laidLooks := .later }
def EthTellsCardSaid : Prop := Claim7.holds Tryd.pinned (.plain (OpenSpec.ofChange ethTellsSpec)) ethTellsCard

/-- THE TIED CARD OF 'pointsmanlaw05.EthBack'. -/
def ethBackCard : Claim7 := { stood := { row := ethBackRow, standIns := [], harness := (true, "64ed459703c405bd4c48aec6a55a4fa09e359c5e991e00765dc198c118ae044b"), looks := false }, kinds := [], alts := [], laidByText := true, laidKinds := [.data], laidTests := true, laidLooks := .later }
def EthBackCardSaid : Prop := Claim7.holds Tryd.pinned (.plain (OpenSpec.ofChange ethBackSpec)) ethBackCard

/-- THE TIED CARD OF 'pointsmanlaw05.EthTexts'. -/
def ethTextsCard : Claim7 := { stood := { row := ethTextsRow, standIns := [], harness := (true, "64ed459703c405bd4c48aec6a55a4fa09e359c5e991e00765dc198c118ae044b"), looks := false }, kinds := [], alts := [], laidByText := true, laidKinds := [.data], laidTests := true, laidLooks := .later }
def EthTextsCardSaid : Prop := Claim7.holds Tryd.pinned (.plain (OpenSpec.ofChange ethTextsSpec)) ethTextsCard

/-- THE SECOND FORM's CARD OF 'pointsmanlaw05.EthBuilds'. -/
def ethBuildsUptoCard : Claim7 := { stood := { row := ethBuildsUptoRow, standIns := [], harness := (true, "64ed459703c405bd4c48aec6a55a4fa09e359c5e991e00765dc198c118ae044b"), looks := false }, kinds := [], alts := [], laidByText := true, laidKinds := [.data], laidTests := true, laidLooks := .later }
def EthBuildsUptoCardSaid : Prop := Claim7.holds Tryd.pinned (.plain (OpenSpec.upto ethBuildsSpec)) ethBuildsUptoCard

/-- THE SECOND FORM's CARD OF 'pointsmanlaw05.EthReads'. -/
def ethReadsUptoCard : Claim7 := { stood := { row := ethReadsUptoRow, standIns := [], harness := (true, "64ed459703c405bd4c48aec6a55a4fa09e359c5e991e00765dc198c118ae044b"), looks := false }, kinds := [], alts := [], laidByText := true, laidKinds := [.data], laidTests := true, laidLooks := .later }
def EthReadsUptoCardSaid : Prop := Claim7.holds Tryd.pinned (.plain (OpenSpec.upto ethReadsSpec)) ethReadsUptoCard

/-- THE SECOND FORM's CARD OF 'pointsmanlaw05.EthTells'. -/
def ethTellsUptoCard : Claim7 := { stood := { row := ethTellsUptoRow, standIns := [], harness := (true, "64ed459703c405bd4c48aec6a55a4fa09e359c5e991e00765dc198c118ae044b"), looks := false }, kinds := [], alts := [], laidByText := true, laidKinds := [.data], laidTests := true, laidLooks := .later }
def EthTellsUptoCardSaid : Prop := Claim7.holds Tryd.pinned (.plain (OpenSpec.upto ethTellsSpec)) ethTellsUptoCard

/-- THE SECOND FORM's CARD OF 'pointsmanlaw05.EthBack'. -/
def ethBackUptoCard : Claim7 := { stood := { row := ethBackUptoRow, standIns := [], harness := (true, "64ed459703c405bd4c48aec6a55a4fa09e359c5e991e00765dc198c118ae044b"), looks := false }, kinds := [], alts := [], laidByText := true, laidKinds := [.data], laidTests := true, laidLooks := .later }
def EthBackUptoCardSaid : Prop := Claim7.holds Tryd.pinned (.plain (OpenSpec.upto ethBackSpec)) ethBackUptoCard

/-- THE SECOND FORM's CARD OF 'pointsmanlaw05.EthTexts'. -/
def ethTextsUptoCard : Claim7 := { stood := { row := ethTextsUptoRow, standIns := [], harness := (true, "64ed459703c405bd4c48aec6a55a4fa09e359c5e991e00765dc198c118ae044b"), looks := false }, kinds := [], alts := [], laidByText := true, laidKinds := [.data], laidTests := true, laidLooks := .later }
def EthTextsUptoCardSaid : Prop := Claim7.holds Tryd.pinned (.plain (OpenSpec.upto ethTextsSpec)) ethTextsUptoCard
end Rows
end Go.Proofs.YtdnbcgdpaoclkaaDoor
