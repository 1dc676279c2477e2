/-
  NARROWER THAN 'FOR EVERY INPUT', by the rows' own cells (each row's printed sentence says how): EthBuilds: laid · EthReads: laid · EthTells: laid · EthBack: laid · EthTexts: laid.
  DERIVED. THE GIVEN ROWS OF THIS SEAT. 5 by the template 'for every input the law returns true; each argument reads behind the call as it read before'; 0 by the template 'total and deterministic' (their statements: YtdnbcgdpaoclkaaDoorTotals.lean).
  GIVEN WITH THE SEED: the statements are not yours to turn. If you find one false, say at which input.
  Laid BY PROGRAM, IN A SANDBOX (cutbox-rows.mjs): the forced cells as the released guide's own fill.sh prints them over the translation 1a0872449eaccd69… (all of the seat's roots in one cut). By AI agents, Wed Nov 11 2026. No macro, syntax, notation, axiom, sorry.
-/
import Derived.Test.YtdnbcgdpaoclkaaDoorChecked
import GoSem.Claim
import GoSem.ClaimJoined
import GoSem.ClaimMapViews
import Derived.JoinedTies
import Derived.KernelRfl
namespace Go.Proofs.YtdnbcgdpaoclkaaDoor
/- THE CELL 'sum', in the pinned program and in every row, IS THE sha256 OF THE DUMP (.gsa) THAT YtdnbcgdpaoclkaaDoorProg.lean LOADS. Nothing in Lean hashes anything: it is a label: what it is worth is what the hold of that sum in a sandbox is worth. -/
noncomputable def Tryd.pinned : Pinned := { name := "ytdnbcgdpaoclkaadoor", sum := "1a0872449eaccd69707621881ee5fba95bf7405fb49fd4e0b0922fdf9d6930aa", checked := Tryd.checked }
namespace Rows
def none {H : Type} : Left H := { results := [], args := [] }

/- WHAT THE LISTED PACKAGE-LEVEL VARIABLES READ AS WHEN THE CALL BEGINS. Each datum BY PROGRAM (the guide's laid-datum.mjs) off the statement by which the dump's own 'gosem.cut.vars' lays the variable. In a bare row this is a premise. The card (YtdnbcgdpaoclkaaDoorCards.lean) ties it to the program's text. -/
def laid_pointsman_octet_digits {H : Type} : DataW H := .agg [.lit (.int .u8 48), .lit (.int .u8 49), .lit (.int .u8 50), .lit (.int .u8 51), .lit (.int .u8 52), .lit (.int .u8 53), .lit (.int .u8 54), .lit (.int .u8 55), .lit (.int .u8 56), .lit (.int .u8 57), .lit (.int .u8 97), .lit (.int .u8 98), .lit (.int .u8 99), .lit (.int .u8 100), .lit (.int .u8 101), .lit (.int .u8 102)]

/-- 'pointsmanlaw05.EthBuilds': WHATEVER THE INPUT: true; the input reads as it did. -/
def ethBuildsSpec : ChangeSpec := { name := "ethBuilds", fn := fun _ => fun
  | [d] => { results := [.lit (.bool true)], args := [d] }
  | _ => none }
def ethBuildsRow : OpenClaim := { program := "ytdnbcgdpaoclkaadoor", sum := "1a0872449eaccd69707621881ee5fba95bf7405fb49fd4e0b0922fdf9d6930aa", func := "pointsman/pointsmanlaw05.EthBuilds", spec := "ethBuilds", named := ["pointsman/octet.digits"], apart := false, laid := [("pointsman/octet.digits", laid_pointsman_octet_digits)] }
def EthBuildsSaid : Prop := ethBuildsRow.holds Tryd.pinned (OpenSpec.ofChange ethBuildsSpec)

/-- ITS FALSE NEIGHBOUR: 'it returns false'. Refute it at one input. -/
def ethBuildsWrong : ChangeSpec := { name := "ethBuilds", fn := fun _ => fun
  | [d] => { results := [.lit (.bool false)], args := [d] }
  | _ => none }
def EthBuildsWrongFalsely : Prop := ethBuildsRow.holds Tryd.pinned (OpenSpec.ofChange ethBuildsWrong)

/-- 'pointsmanlaw05.EthReads': WHATEVER THE INPUT: true; the input reads as it did. -/
def ethReadsSpec : ChangeSpec := { name := "ethReads", fn := fun _ => fun
  | [d] => { results := [.lit (.bool true)], args := [d] }
  | _ => none }
def ethReadsRow : OpenClaim := { program := "ytdnbcgdpaoclkaadoor", sum := "1a0872449eaccd69707621881ee5fba95bf7405fb49fd4e0b0922fdf9d6930aa", func := "pointsman/pointsmanlaw05.EthReads", spec := "ethReads", named := ["pointsman/octet.digits"], apart := false, laid := [("pointsman/octet.digits", laid_pointsman_octet_digits)] }
def EthReadsSaid : Prop := ethReadsRow.holds Tryd.pinned (OpenSpec.ofChange ethReadsSpec)

/-- ITS FALSE NEIGHBOUR: 'it returns false'. Refute it at one input. -/
def ethReadsWrong : ChangeSpec := { name := "ethReads", fn := fun _ => fun
  | [d] => { results := [.lit (.bool false)], args := [d] }
  | _ => none }
def EthReadsWrongFalsely : Prop := ethReadsRow.holds Tryd.pinned (OpenSpec.ofChange ethReadsWrong)

/-- 'pointsmanlaw05.EthTells': WHATEVER THE INPUT: true; the input reads as it did. -/
def ethTellsSpec : ChangeSpec := { name := "ethTells", fn := fun _ => fun
  | [d1, d2, d3] => { results := [.lit (.bool true)], args := [d1, d2, d3] }
  | _ => none }
def ethTellsRow : OpenClaim := { program := "ytdnbcgdpaoclkaadoor", sum := "1a0872449eaccd69707621881ee5fba95bf7405fb49fd4e0b0922fdf9d6930aa", func := "pointsman/pointsmanlaw05.EthTells", spec := "ethTells", named := ["pointsman/octet.digits"], apart := false, laid := [("pointsman/octet.digits", laid_pointsman_octet_digits)] }
def EthTellsSaid : Prop := ethTellsRow.holds Tryd.pinned (OpenSpec.ofChange ethTellsSpec)

/-- ITS FALSE NEIGHBOUR: 'it returns false'. Refute it at one input. -/
def ethTellsWrong : ChangeSpec := { name := "ethTells", fn := fun _ => fun
  | [d1, d2, d3] => { results := [.lit (.bool false)], args := [d1, d2, d3] }
  | _ => none }
def EthTellsWrongFalsely : Prop := ethTellsRow.holds Tryd.pinned (OpenSpec.ofChange ethTellsWrong)

/-- 'pointsmanlaw05.EthBack': WHATEVER THE INPUT: true; the input reads as it did. -/
def ethBackSpec : ChangeSpec := { name := "ethBack", fn := fun _ => fun
  | [d] => { results := [.lit (.bool true)], args := [d] }
  | _ => none }
def ethBackRow : OpenClaim := { program := "ytdnbcgdpaoclkaadoor", sum := "1a0872449eaccd69707621881ee5fba95bf7405fb49fd4e0b0922fdf9d6930aa", func := "pointsman/pointsmanlaw05.EthBack", spec := "ethBack", named := ["pointsman/octet.digits"], apart := false, laid := [("pointsman/octet.digits", laid_pointsman_octet_digits)] }
def EthBackSaid : Prop := ethBackRow.holds Tryd.pinned (OpenSpec.ofChange ethBackSpec)

/-- ITS FALSE NEIGHBOUR: 'it returns false'. Refute it at one input. -/
def ethBackWrong : ChangeSpec := { name := "ethBack", fn := fun _ => fun
  | [d] => { results := [.lit (.bool false)], args := [d] }
  | _ => none }
def EthBackWrongFalsely : Prop := ethBackRow.holds Tryd.pinned (OpenSpec.ofChange ethBackWrong)

/-- 'pointsmanlaw05.EthTexts': WHATEVER THE INPUT: true; the input reads as it did. -/
def ethTextsSpec : ChangeSpec := { name := "ethTexts", fn := fun _ => fun
  | [d1, d2] => { results := [.lit (.bool true)], args := [d1, d2] }
  | _ => none }
def ethTextsRow : OpenClaim := { program := "ytdnbcgdpaoclkaadoor", sum := "1a0872449eaccd69707621881ee5fba95bf7405fb49fd4e0b0922fdf9d6930aa", func := "pointsman/pointsmanlaw05.EthTexts", spec := "ethTexts", named := ["pointsman/octet.digits"], apart := false, laid := [("pointsman/octet.digits", laid_pointsman_octet_digits)] }
def EthTextsSaid : Prop := ethTextsRow.holds Tryd.pinned (OpenSpec.ofChange ethTextsSpec)

/-- ITS FALSE NEIGHBOUR: 'it returns false'. Refute it at one input. -/
def ethTextsWrong : ChangeSpec := { name := "ethTexts", fn := fun _ => fun
  | [d1, d2] => { results := [.lit (.bool false)], args := [d1, d2] }
  | _ => none }
def EthTextsWrongFalsely : Prop := ethTextsRow.holds Tryd.pinned (OpenSpec.ofChange ethTextsWrong)

/- THE SECOND FORM. 'bulk': how many values and letters a reading holds, each counted each time it is reached (what is shared counts as often as it is met; a slice's spare places count too). A statement '..UptoSaid' is the law's where the arguments, and the package variables that the reading takes, are together of bulk at most 1048576: NARROWER than '..Said'. Prove '..Said' where nothing that the law and all that it calls make is longer than what came in: it says more and counts as full. Else prove '..UptoSaid'. A law counts once. -/
mutual
def uptoBulk {H : Type} : DataW H → Nat
  | .lit (.string bytes) => bytes.length + 1
  | .lit _ => 1
  | .nil => 1
  | .ptr d => uptoBulk d + 1
  | .slice elems spare => uptoBulkAll elems + uptoBulkAll spare + 1
  | .agg parts => uptoBulkAll parts + 1
  | .iface _ d => uptoBulk d + 1
  | .map entries => uptoBulkEntries entries + 1
  | .held _ => 1
def uptoBulkAll {H : Type} : List (DataW H) → Nat
  | [] => 0
  | d :: r => uptoBulk d + uptoBulkAll r
def uptoBulkEntries {H : Type} : List (Lit × DataW H) → Nat
  | [] => 0
  | x :: r => uptoBulkEntry x + uptoBulkEntries r
def uptoBulkEntry {H : Type} : Lit × DataW H → Nat
  | (.string bytes, d) => bytes.length + uptoBulk d + 1
  | (_, d) => uptoBulk d + 1
 end
def uptoSmall : (H : Type) → List (DataW H) → Bool := fun _ ds => decide (uptoBulkAll ds ≤ 1048576)
def OpenSpec.upto (s : _root_.Go.ChangeSpec) : _root_.Go.OpenSpec := { _root_.Go.OpenSpec.ofChange s with cond := some uptoSmall }

/-- 'pointsmanlaw05.EthBuilds', WHERE WHAT IT READS IS OF BULK AT MOST 1048576: true; the input reads as it did. -/
def ethBuildsUptoRow : OpenClaim := { program := "ytdnbcgdpaoclkaadoor", sum := "1a0872449eaccd69707621881ee5fba95bf7405fb49fd4e0b0922fdf9d6930aa", func := "pointsman/pointsmanlaw05.EthBuilds", spec := "ethBuilds", named := ["pointsman/octet.digits"], apart := false, laid := [("pointsman/octet.digits", laid_pointsman_octet_digits)], narrowed := true }
def EthBuildsUptoSaid : Prop := ethBuildsUptoRow.holds Tryd.pinned (OpenSpec.upto ethBuildsSpec)

/-- 'pointsmanlaw05.EthReads', WHERE WHAT IT READS IS OF BULK AT MOST 1048576: true; the input reads as it did. -/
def ethReadsUptoRow : OpenClaim := { program := "ytdnbcgdpaoclkaadoor", sum := "1a0872449eaccd69707621881ee5fba95bf7405fb49fd4e0b0922fdf9d6930aa", func := "pointsman/pointsmanlaw05.EthReads", spec := "ethReads", named := ["pointsman/octet.digits"], apart := false, laid := [("pointsman/octet.digits", laid_pointsman_octet_digits)], narrowed := true }
def EthReadsUptoSaid : Prop := ethReadsUptoRow.holds Tryd.pinned (OpenSpec.upto ethReadsSpec)

/-- 'pointsmanlaw05.EthTells', WHERE WHAT IT READS IS OF BULK AT MOST 1048576: true; the input reads as it did. -/
def ethTellsUptoRow : OpenClaim := { program := "ytdnbcgdpaoclkaadoor", sum := "1a0872449eaccd69707621881ee5fba95bf7405fb49fd4e0b0922fdf9d6930aa", func := "pointsman/pointsmanlaw05.EthTells", spec := "ethTells", named := ["pointsman/octet.digits"], apart := false, laid := [("pointsman/octet.digits", laid_pointsman_octet_digits)], narrowed := true }
def EthTellsUptoSaid : Prop := ethTellsUptoRow.holds Tryd.pinned (OpenSpec.upto ethTellsSpec)

/-- 'pointsmanlaw05.EthBack', WHERE WHAT IT READS IS OF BULK AT MOST 1048576: true; the input reads as it did. -/
def ethBackUptoRow : OpenClaim := { program := "ytdnbcgdpaoclkaadoor", sum := "1a0872449eaccd69707621881ee5fba95bf7405fb49fd4e0b0922fdf9d6930aa", func := "pointsman/pointsmanlaw05.EthBack", spec := "ethBack", named := ["pointsman/octet.digits"], apart := false, laid := [("pointsman/octet.digits", laid_pointsman_octet_digits)], narrowed := true }
def EthBackUptoSaid : Prop := ethBackUptoRow.holds Tryd.pinned (OpenSpec.upto ethBackSpec)

/-- 'pointsmanlaw05.EthTexts', WHERE WHAT IT READS IS OF BULK AT MOST 1048576: true; the input reads as it did. -/
def ethTextsUptoRow : OpenClaim := { program := "ytdnbcgdpaoclkaadoor", sum := "1a0872449eaccd69707621881ee5fba95bf7405fb49fd4e0b0922fdf9d6930aa", func := "pointsman/pointsmanlaw05.EthTexts", spec := "ethTexts", named := ["pointsman/octet.digits"], apart := false, laid := [("pointsman/octet.digits", laid_pointsman_octet_digits)], narrowed := true }
def EthTextsUptoSaid : Prop := ethTextsUptoRow.holds Tryd.pinned (OpenSpec.upto ethTextsSpec)

end Rows
end Go.Proofs.YtdnbcgdpaoclkaaDoor
