/-
  DERIVED. GIVEN WITH THE SEED: THE CARDS: each row of YtfjjmhiogfimjaaDoorRows.lean that lists a variable, with what it lists TIED to the program's text (the seventh form; the later family's looks); each row that meets fmt, with fmt's text TOLD by the authors' own Lean function (tested against real Go, not proved from fmt's source: count such statements apart). THE CARD IS WHAT COUNTS. Prove the row's statement (the work); the ties are given (YtfjjmhiogfimjaaDoorTie.lean); close each card by the builder's one call (the guide's Derived/Test/ToyasCard.lean, 'card_holds'). Laid BY PROGRAM, IN A SANDBOX (cutbox-door.mjs). By AI agents, Wed Nov 11 2026. No macro, syntax, notation, axiom, sorry.
-/
import Derived.Test.YtfjjmhiogfimjaaDoorRows
import GoSem.ClaimSeven
namespace Go.Proofs.YtfjjmhiogfimjaaDoor
namespace Rows

/-- THE TIED CARD OF 'pointsmanlaw22.NoteBuilds'. -/
def noteBuildsCard : Claim7 := { stood := { row := noteBuildsRow, standIns := [], harness := (true, "c196e8b426175b5c98573e89fbad1b613f2f0d32a25057b79bae8d7fbc85da4a"), looks := false }, kinds := [], alts := [], laidByText := true, laidKinds := [.data, .data, .data, .data], laidTests := true, laidLooks := .later }
def NoteBuildsCardSaid : Prop := Claim7.holds Tryd.pinned (.plain (OpenSpec.ofChange noteBuildsSpec)) noteBuildsCard

/-- THE TIED CARD OF 'pointsmanlaw22.NoteBack'. -/
def noteBackCard : Claim7 := { stood := { row := noteBackRow, standIns := [], harness := (true, "c196e8b426175b5c98573e89fbad1b613f2f0d32a25057b79bae8d7fbc85da4a"), looks := false }, kinds := [], alts := [], laidByText := true, laidKinds := [.data, .data, .data, .data], laidTests := true, laidLooks := .later }
def NoteBackCardSaid : Prop := Claim7.holds Tryd.pinned (.plain (OpenSpec.ofChange noteBackSpec)) noteBackCard

/-- THE SECOND FORM's CARD OF 'pointsmanlaw22.NoteBuilds'. -/
def noteBuildsUptoCard : Claim7 := { stood := { row := noteBuildsUptoRow, standIns := [], harness := (true, "c196e8b426175b5c98573e89fbad1b613f2f0d32a25057b79bae8d7fbc85da4a"), looks := false }, kinds := [], alts := [], laidByText := true, laidKinds := [.data, .data, .data, .data], laidTests := true, laidLooks := .later }
def NoteBuildsUptoCardSaid : Prop := Claim7.holds Tryd.pinned (.plain (OpenSpec.upto noteBuildsSpec)) noteBuildsUptoCard

/-- THE SECOND FORM's CARD OF 'pointsmanlaw22.NoteBack'. -/
def noteBackUptoCard : Claim7 := { stood := { row := noteBackUptoRow, standIns := [], harness := (true, "c196e8b426175b5c98573e89fbad1b613f2f0d32a25057b79bae8d7fbc85da4a"), looks := false }, kinds := [], alts := [], laidByText := true, laidKinds := [.data, .data, .data, .data], laidTests := true, laidLooks := .later }
def NoteBackUptoCardSaid : Prop := Claim7.holds Tryd.pinned (.plain (OpenSpec.upto noteBackSpec)) noteBackUptoCard
end Rows
end Go.Proofs.YtfjjmhiogfimjaaDoor
