/-
  DERIVED. GIVEN WITH THE SEED: THE CARDS: each row of YtnlinnjpkjmpaaaDoorRows.lean that lists a variable, with what it lists TIED to the program's text (the seventh form; the later family's looks); each row that meets fmt, with fmt's text TOLD by the authors' own Lean function (tested against real Go, not proved from fmt's source: count such statements apart). THE CARD IS WHAT COUNTS. Prove the row's statement (the work); the ties are given (YtnlinnjpkjmpaaaDoorTie.lean); close each card by the builder's one call (the guide's Derived/Test/ToyasCard.lean, 'card_holds'). Laid BY PROGRAM, IN A SANDBOX (cutbox-door.mjs). By AI agents, Wed Nov 11 2026. No macro, syntax, notation, axiom, sorry.
-/
import Derived.Test.YtnlinnjpkjmpaaaDoorRows
import GoSem.ClaimSeven
namespace Go.Proofs.YtnlinnjpkjmpaaaDoor
namespace Rows

/-- THE TIED CARD OF 'pointsmanlaw07.IpBuilds'. -/
def ipBuildsCard : Claim7 := { stood := { row := ipBuildsRow, standIns := [], harness := (true, "70a9e2552e6d8e5221739d492f45cf2943486b5dfdd2ca2245d9d1a49c557071"), looks := false }, kinds := [], alts := [], laidByText := true, laidKinds := [.data, .data, .data], laidTests := true, laidLooks := .later }
def IpBuildsCardSaid : Prop := Claim7.holds Tryd.pinned (.plain (OpenSpec.ofChange ipBuildsSpec)) ipBuildsCard

/-- THE TIED CARD OF 'pointsmanlaw07.IpReads'. -/
def ipReadsCard : Claim7 := { stood := { row := ipReadsRow, standIns := [], harness := (true, "70a9e2552e6d8e5221739d492f45cf2943486b5dfdd2ca2245d9d1a49c557071"), looks := false }, kinds := [], alts := [], laidByText := true, laidKinds := [.data, .data, .data], laidTests := true, laidLooks := .later }
def IpReadsCardSaid : Prop := Claim7.holds Tryd.pinned (.plain (OpenSpec.ofChange ipReadsSpec)) ipReadsCard

/-- THE TIED CARD OF 'pointsmanlaw07.IpCuts'. -/
def ipCutsCard : Claim7 := { stood := { row := ipCutsRow, standIns := [], harness := (true, "70a9e2552e6d8e5221739d492f45cf2943486b5dfdd2ca2245d9d1a49c557071"), looks := false }, kinds := [], alts := [], laidByText := true, laidKinds := [.data, .data, .data], laidTests := true, laidLooks := .later }
def IpCutsCardSaid : Prop := Claim7.holds Tryd.pinned (.plain (OpenSpec.ofChange ipCutsSpec)) ipCutsCard

/-- THE TIED CARD OF 'pointsmanlaw07.IpTexts'. -/
def ipTextsCard : Claim7 := { stood := { row := ipTextsRow, standIns := [], harness := (true, "70a9e2552e6d8e5221739d492f45cf2943486b5dfdd2ca2245d9d1a49c557071"), looks := false }, kinds := [], alts := [], laidByText := true, laidKinds := [.data, .data, .data], laidTests := true, laidLooks := .later }
def IpTextsCardSaid : Prop := Claim7.holds Tryd.pinned (.plain (OpenSpec.ofChange ipTextsSpec)) ipTextsCard

/-- THE TIED CARD OF 'pointsmanlaw07.IpBack'. -/
def ipBackCard : Claim7 := { stood := { row := ipBackRow, standIns := [], harness := (true, "70a9e2552e6d8e5221739d492f45cf2943486b5dfdd2ca2245d9d1a49c557071"), looks := false }, kinds := [], alts := [], laidByText := true, laidKinds := [.data, .data, .data], laidTests := true, laidLooks := .later }
def IpBackCardSaid : Prop := Claim7.holds Tryd.pinned (.plain (OpenSpec.ofChange ipBackSpec)) ipBackCard

/-- THE TIED CARD OF 'pointsmanlaw07.IpFinds'. -/
def ipFindsCard : Claim7 := { stood := { row := ipFindsRow, standIns := [], harness := (true, "70a9e2552e6d8e5221739d492f45cf2943486b5dfdd2ca2245d9d1a49c557071"), looks := false }, kinds := [], alts := [], laidByText := true, laidKinds := [.data, .data, .data], laidTests := true, laidLooks := .later }
def IpFindsCardSaid : Prop := Claim7.holds Tryd.pinned (.plain (OpenSpec.ofChange ipFindsSpec)) ipFindsCard

/-- THE SECOND FORM's CARD OF 'pointsmanlaw07.IpBuilds'. -/
def ipBuildsUptoCard : Claim7 := { stood := { row := ipBuildsUptoRow, standIns := [], harness := (true, "70a9e2552e6d8e5221739d492f45cf2943486b5dfdd2ca2245d9d1a49c557071"), looks := false }, kinds := [], alts := [], laidByText := true, laidKinds := [.data, .data, .data], laidTests := true, laidLooks := .later }
def IpBuildsUptoCardSaid : Prop := Claim7.holds Tryd.pinned (.plain (OpenSpec.upto ipBuildsSpec)) ipBuildsUptoCard

/-- THE SECOND FORM's CARD OF 'pointsmanlaw07.IpReads'. -/
def ipReadsUptoCard : Claim7 := { stood := { row := ipReadsUptoRow, standIns := [], harness := (true, "70a9e2552e6d8e5221739d492f45cf2943486b5dfdd2ca2245d9d1a49c557071"), looks := false }, kinds := [], alts := [], laidByText := true, laidKinds := [.data, .data, .data], laidTests := true, laidLooks := .later }
def IpReadsUptoCardSaid : Prop := Claim7.holds Tryd.pinned (.plain (OpenSpec.upto ipReadsSpec)) ipReadsUptoCard

/-- THE SECOND FORM's CARD OF 'pointsmanlaw07.IpCuts'. -/
def ipCutsUptoCard : Claim7 := { stood := { row := ipCutsUptoRow, standIns := [], harness := (true, "70a9e2552e6d8e5221739d492f45cf2943486b5dfdd2ca2245d9d1a49c557071"), looks := false }, kinds := [], alts := [], laidByText := true, laidKinds := [.data, .data, .data], laidTests := true, laidLooks := .later }
def IpCutsUptoCardSaid : Prop := Claim7.holds Tryd.pinned (.plain (OpenSpec.upto ipCutsSpec)) ipCutsUptoCard

/-- THE SECOND FORM's CARD OF 'pointsmanlaw07.IpTexts'. -/
def ipTextsUptoCard : Claim7 := { stood := { row := ipTextsUptoRow, standIns := [], harness := (true, "70a9e2552e6d8e5221739d492f45cf2943486b5dfdd2ca2245d9d1a49c557071"), looks := false }, kinds := [], alts := [], laidByText := true, laidKinds := [.data, .data, .data], laidTests := true, laidLooks := .later }
def IpTextsUptoCardSaid : Prop := Claim7.holds Tryd.pinned (.plain (OpenSpec.upto ipTextsSpec)) ipTextsUptoCard

/-- THE SECOND FORM's CARD OF 'pointsmanlaw07.IpBack'. -/
def ipBackUptoCard : Claim7 := { stood := { row := ipBackUptoRow, standIns := [], harness := (true, "70a9e2552e6d8e5221739d492f45cf2943486b5dfdd2ca2245d9d1a49c557071"), looks := false }, kinds := [], alts := [], laidByText := true, laidKinds := [.data, .data, .data], laidTests := true, laidLooks := .later }
def IpBackUptoCardSaid : Prop := Claim7.holds Tryd.pinned (.plain (OpenSpec.upto ipBackSpec)) ipBackUptoCard

/-- THE SECOND FORM's CARD OF 'pointsmanlaw07.IpFinds'. -/
def ipFindsUptoCard : Claim7 := { stood := { row := ipFindsUptoRow, standIns := [], harness := (true, "70a9e2552e6d8e5221739d492f45cf2943486b5dfdd2ca2245d9d1a49c557071"), looks := false }, kinds := [], alts := [], laidByText := true, laidKinds := [.data, .data, .data], laidTests := true, laidLooks := .later }
def IpFindsUptoCardSaid : Prop := Claim7.holds Tryd.pinned (.plain (OpenSpec.upto ipFindsSpec)) ipFindsUptoCard
end Rows
end Go.Proofs.YtnlinnjpkjmpaaaDoor
