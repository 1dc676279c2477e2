/-
  DERIVED. GIVEN WITH THE SEED: THE CARDS: each row of YtefnfbidphmgoaaDoorRows.lean that lists a variable, with what it lists TIED to the program's text (the seventh form; the later family's looks); each row that meets fmt, with fmt's text TOLD by the authors' own Lean function (tested against real Go, not proved from fmt's source: count such statements apart). THE CARD IS WHAT COUNTS. Prove the row's statement (the work); the ties are given (YtefnfbidphmgoaaDoorTie.lean); close each card by the builder's one call (the guide's Derived/Test/ToyasCard.lean, 'card_holds'). Laid BY PROGRAM, IN A SANDBOX (cutbox-door.mjs). By AI agents, Wed Nov 11 2026. No macro, syntax, notation, axiom, sorry.
-/
import Derived.Test.YtefnfbidphmgoaaDoorRows
import GoSem.ClaimSeven
namespace Go.Proofs.YtefnfbidphmgoaaDoor
namespace Rows

/-- THE TIED CARD OF 'pointsmanlaw11.SegBuilds'. -/
def segBuildsCard : Claim7 := { stood := { row := segBuildsRow, standIns := [], harness := (true, "419fd009a024e9ea7360d1442b172239bd4cb00721931e04fa40086a581d0e2f"), looks := false }, kinds := [], alts := [], laidByText := true, laidKinds := [.data], laidTests := true, laidLooks := .later }
def SegBuildsCardSaid : Prop := Claim7.holds Tryd.pinned (.plain (OpenSpec.ofChange segBuildsSpec)) segBuildsCard

/-- THE TIED CARD OF 'pointsmanlaw11.SegReads'. -/
def segReadsCard : Claim7 := { stood := { row := segReadsRow, standIns := [], harness := (true, "419fd009a024e9ea7360d1442b172239bd4cb00721931e04fa40086a581d0e2f"), looks := false }, kinds := [], alts := [], laidByText := true, laidKinds := [.data], laidTests := true, laidLooks := .later }
def SegReadsCardSaid : Prop := Claim7.holds Tryd.pinned (.plain (OpenSpec.ofChange segReadsSpec)) segReadsCard

/-- THE TIED CARD OF 'pointsmanlaw11.SegBack'. -/
def segBackCard : Claim7 := { stood := { row := segBackRow, standIns := [], harness := (true, "419fd009a024e9ea7360d1442b172239bd4cb00721931e04fa40086a581d0e2f"), looks := false }, kinds := [], alts := [], laidByText := true, laidKinds := [.data], laidTests := true, laidLooks := .later }
def SegBackCardSaid : Prop := Claim7.holds Tryd.pinned (.plain (OpenSpec.ofChange segBackSpec)) segBackCard

/-- THE TIED CARD OF 'pointsmanlaw11.SegFinds'. -/
def segFindsCard : Claim7 := { stood := { row := segFindsRow, standIns := [], harness := (true, "419fd009a024e9ea7360d1442b172239bd4cb00721931e04fa40086a581d0e2f"), looks := false }, kinds := [], alts := [], laidByText := true, laidKinds := [.data], laidTests := true, laidLooks := .later }
def SegFindsCardSaid : Prop := Claim7.holds Tryd.pinned (.plain (OpenSpec.ofChange segFindsSpec)) segFindsCard

/-- THE TIED CARD OF 'pointsmanlaw11.SegQuiet'. -/
def segQuietCard : Claim7 := { stood := { row := segQuietRow, standIns := [], harness := (true, "419fd009a024e9ea7360d1442b172239bd4cb00721931e04fa40086a581d0e2f"), looks := false }, kinds := [], alts := [], laidByText := true, laidKinds := [.data], laidTests := true, laidLooks := .later }
def SegQuietCardSaid : Prop := Claim7.holds Tryd.pinned (.plain (OpenSpec.ofChange segQuietSpec)) segQuietCard

/-- THE SECOND FORM's CARD OF 'pointsmanlaw11.SegBuilds'. -/
def segBuildsUptoCard : Claim7 := { stood := { row := segBuildsUptoRow, standIns := [], harness := (true, "419fd009a024e9ea7360d1442b172239bd4cb00721931e04fa40086a581d0e2f"), looks := false }, kinds := [], alts := [], laidByText := true, laidKinds := [.data], laidTests := true, laidLooks := .later }
def SegBuildsUptoCardSaid : Prop := Claim7.holds Tryd.pinned (.plain (OpenSpec.upto segBuildsSpec)) segBuildsUptoCard

/-- THE SECOND FORM's CARD OF 'pointsmanlaw11.SegReads'. -/
def segReadsUptoCard : Claim7 := { stood := { row := segReadsUptoRow, standIns := [], harness := (true, "419fd009a024e9ea7360d1442b172239bd4cb00721931e04fa40086a581d0e2f"), looks := false }, kinds := [], alts := [], laidByText := true, laidKinds := [.data], laidTests := true, laidLooks := .later }
def SegReadsUptoCardSaid : Prop := Claim7.holds Tryd.pinned (.plain (OpenSpec.upto segReadsSpec)) segReadsUptoCard

/-- THE SECOND FORM's CARD OF 'pointsmanlaw11.SegBack'. -/
def segBackUptoCard : Claim7 := { stood := { row := segBackUptoRow, standIns := [], harness := (true, "419fd009a024e9ea7360d1442b172239bd4cb00721931e04fa40086a581d0e2f"), looks := false }, kinds := [], alts := [], laidByText := true, laidKinds := [.data], laidTests := true, laidLooks := .later }
def SegBackUptoCardSaid : Prop := Claim7.holds Tryd.pinned (.plain (OpenSpec.upto segBackSpec)) segBackUptoCard

/-- THE SECOND FORM's CARD OF 'pointsmanlaw11.SegFinds'. -/
def segFindsUptoCard : Claim7 := { stood := { row := segFindsUptoRow, standIns := [], harness := (true, "419fd009a024e9ea7360d1442b172239bd4cb00721931e04fa40086a581d0e2f"), looks := false }, kinds := [], alts := [], laidByText := true, laidKinds := [.data], laidTests := true, laidLooks := .later }
def SegFindsUptoCardSaid : Prop := Claim7.holds Tryd.pinned (.plain (OpenSpec.upto segFindsSpec)) segFindsUptoCard

/-- THE SECOND FORM's CARD OF 'pointsmanlaw11.SegQuiet'. -/
def segQuietUptoCard : Claim7 := { stood := { row := segQuietUptoRow, standIns := [], harness := (true, "419fd009a024e9ea7360d1442b172239bd4cb00721931e04fa40086a581d0e2f"), looks := false }, kinds := [], alts := [], laidByText := true, laidKinds := [.data], laidTests := true, laidLooks := .later }
def SegQuietUptoCardSaid : Prop := Claim7.holds Tryd.pinned (.plain (OpenSpec.upto segQuietSpec)) segQuietUptoCard
end Rows
end Go.Proofs.YtefnfbidphmgoaaDoor
