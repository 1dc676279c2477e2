/-
  NARROWER THAN 'FOR EVERY INPUT', by the rows' own cells (each row's printed sentence says how): ArpBuilds: laid · ArpReads: laid · ArpBack: laid.
  DERIVED. THE GIVEN ROWS OF THIS SEAT. 3 by the template 'for every input the law returns true; each argument reads behind the call as it read before'; 0 by the template 'total and deterministic' (their statements: YtimjcamgkiabdaaDoorTotals.lean).
  GIVEN WITH THE SEED: the statements are not yours to turn. If you find one false, say at which input.
  Laid BY PROGRAM, IN A SANDBOX (cutbox-rows.mjs): the forced cells as the released guide's own fill.sh prints them over the translation 5fdd86ba5672d19d… (all of the seat's roots in one cut). By AI agents, Wed Nov 11 2026. No macro, syntax, notation, axiom, sorry.
-/
import Derived.Test.YtimjcamgkiabdaaDoorChecked
import GoSem.Claim
import GoSem.ClaimJoined
import GoSem.ClaimMapViews
import Derived.JoinedTies
import Derived.KernelRfl
namespace Go.Proofs.YtimjcamgkiabdaaDoor
/- THE CELL 'sum', in the pinned program and in every row, IS THE sha256 OF THE DUMP (.gsa) THAT YtimjcamgkiabdaaDoorProg.lean LOADS. Nothing in Lean hashes anything: it is a label: what it is worth is what the hold of that sum in a sandbox is worth. -/
noncomputable def Tryd.pinned : Pinned := { name := "ytimjcamgkiabdaadoor", sum := "5fdd86ba5672d19d7c52a6f75e6bdd3b4689d9412f09424ce4dce72b5981e28b", checked := Tryd.checked }
namespace Rows
def none {H : Type} : Left H := { results := [], args := [] }

/- WHAT THE LISTED PACKAGE-LEVEL VARIABLES READ AS WHEN THE CALL BEGINS. Each datum BY PROGRAM (the guide's laid-datum.mjs) off the statement by which the dump's own 'gosem.cut.vars' lays the variable. In a bare row this is a premise. The card (YtimjcamgkiabdaaDoorCards.lean) ties it to the program's text. -/
def laid_pointsman_arp_beginning {H : Type} : DataW H := .agg [.lit (.int .u8 0), .lit (.int .u8 1), .lit (.int .u8 8), .lit (.int .u8 0), .lit (.int .u8 6), .lit (.int .u8 4)]

/-- 'pointsmanlaw06.ArpBuilds': WHATEVER THE INPUT: true; the input reads as it did. -/
def arpBuildsSpec : ChangeSpec := { name := "arpBuilds", fn := fun _ => fun
  | [d] => { results := [.lit (.bool true)], args := [d] }
  | _ => none }
def arpBuildsRow : OpenClaim := { program := "ytimjcamgkiabdaadoor", sum := "5fdd86ba5672d19d7c52a6f75e6bdd3b4689d9412f09424ce4dce72b5981e28b", func := "pointsman/pointsmanlaw06.ArpBuilds", spec := "arpBuilds", named := ["pointsman/arp.beginning"], apart := false, laid := [("pointsman/arp.beginning", laid_pointsman_arp_beginning)] }
def ArpBuildsSaid : Prop := arpBuildsRow.holds Tryd.pinned (OpenSpec.ofChange arpBuildsSpec)

/-- ITS FALSE NEIGHBOUR: 'it returns false'. Refute it at one input. -/
def arpBuildsWrong : ChangeSpec := { name := "arpBuilds", fn := fun _ => fun
  | [d] => { results := [.lit (.bool false)], args := [d] }
  | _ => none }
def ArpBuildsWrongFalsely : Prop := arpBuildsRow.holds Tryd.pinned (OpenSpec.ofChange arpBuildsWrong)

/-- 'pointsmanlaw06.ArpReads': WHATEVER THE INPUT: true; the input reads as it did. -/
def arpReadsSpec : ChangeSpec := { name := "arpReads", fn := fun _ => fun
  | [d] => { results := [.lit (.bool true)], args := [d] }
  | _ => none }
def arpReadsRow : OpenClaim := { program := "ytimjcamgkiabdaadoor", sum := "5fdd86ba5672d19d7c52a6f75e6bdd3b4689d9412f09424ce4dce72b5981e28b", func := "pointsman/pointsmanlaw06.ArpReads", spec := "arpReads", named := ["pointsman/arp.beginning"], apart := false, laid := [("pointsman/arp.beginning", laid_pointsman_arp_beginning)] }
def ArpReadsSaid : Prop := arpReadsRow.holds Tryd.pinned (OpenSpec.ofChange arpReadsSpec)

/-- ITS FALSE NEIGHBOUR: 'it returns false'. Refute it at one input. -/
def arpReadsWrong : ChangeSpec := { name := "arpReads", fn := fun _ => fun
  | [d] => { results := [.lit (.bool false)], args := [d] }
  | _ => none }
def ArpReadsWrongFalsely : Prop := arpReadsRow.holds Tryd.pinned (OpenSpec.ofChange arpReadsWrong)

/-- 'pointsmanlaw06.ArpBack': WHATEVER THE INPUT: true; the input reads as it did. -/
def arpBackSpec : ChangeSpec := { name := "arpBack", fn := fun _ => fun
  | [d1, d2] => { results := [.lit (.bool true)], args := [d1, d2] }
  | _ => none }
def arpBackRow : OpenClaim := { program := "ytimjcamgkiabdaadoor", sum := "5fdd86ba5672d19d7c52a6f75e6bdd3b4689d9412f09424ce4dce72b5981e28b", func := "pointsman/pointsmanlaw06.ArpBack", spec := "arpBack", named := ["pointsman/arp.beginning"], apart := false, laid := [("pointsman/arp.beginning", laid_pointsman_arp_beginning)] }
def ArpBackSaid : Prop := arpBackRow.holds Tryd.pinned (OpenSpec.ofChange arpBackSpec)

/-- ITS FALSE NEIGHBOUR: 'it returns false'. Refute it at one input. -/
def arpBackWrong : ChangeSpec := { name := "arpBack", fn := fun _ => fun
  | [d1, d2] => { results := [.lit (.bool false)], args := [d1, d2] }
  | _ => none }
def ArpBackWrongFalsely : Prop := arpBackRow.holds Tryd.pinned (OpenSpec.ofChange arpBackWrong)

/- THE SECOND FORM. 'bulk': how many values and letters a reading holds, each counted each time it is reached (what is shared counts as often as it is met; a slice's spare places count too). A statement '..UptoSaid' is the law's where the arguments, and the package variables that the reading takes, are together of bulk at most 1048576: NARROWER than '..Said'. Prove '..Said' where nothing that the law and all that it calls make is longer than what came in: it says more and counts as full. Else prove '..UptoSaid'. A law counts once. -/
mutual
def uptoBulk {H : Type} : DataW H → Nat
  | .lit (.string bytes) => bytes.length + 1
  | .lit _ => 1
  | .nil => 1
  | .ptr d => uptoBulk d + 1
  | .slice elems spare => uptoBulkAll elems + uptoBulkAll spare + 1
  | .agg parts => uptoBulkAll parts + 1
  | .iface _ d => uptoBulk d + 1
  | .map entries => uptoBulkEntries entries + 1
  | .held _ => 1
def uptoBulkAll {H : Type} : List (DataW H) → Nat
  | [] => 0
  | d :: r => uptoBulk d + uptoBulkAll r
def uptoBulkEntries {H : Type} : List (Lit × DataW H) → Nat
  | [] => 0
  | x :: r => uptoBulkEntry x + uptoBulkEntries r
def uptoBulkEntry {H : Type} : Lit × DataW H → Nat
  | (.string bytes, d) => bytes.length + uptoBulk d + 1
  | (_, d) => uptoBulk d + 1
 end
def uptoSmall : (H : Type) → List (DataW H) → Bool := fun _ ds => decide (uptoBulkAll ds ≤ 1048576)
def OpenSpec.upto (s : _root_.Go.ChangeSpec) : _root_.Go.OpenSpec := { _root_.Go.OpenSpec.ofChange s with cond := some uptoSmall }

/-- 'pointsmanlaw06.ArpBuilds', WHERE WHAT IT READS IS OF BULK AT MOST 1048576: true; the input reads as it did. -/
def arpBuildsUptoRow : OpenClaim := { program := "ytimjcamgkiabdaadoor", sum := "5fdd86ba5672d19d7c52a6f75e6bdd3b4689d9412f09424ce4dce72b5981e28b", func := "pointsman/pointsmanlaw06.ArpBuilds", spec := "arpBuilds", named := ["pointsman/arp.beginning"], apart := false, laid := [("pointsman/arp.beginning", laid_pointsman_arp_beginning)], narrowed := true }
def ArpBuildsUptoSaid : Prop := arpBuildsUptoRow.holds Tryd.pinned (OpenSpec.upto arpBuildsSpec)

/-- 'pointsmanlaw06.ArpReads', WHERE WHAT IT READS IS OF BULK AT MOST 1048576: true; the input reads as it did. -/
def arpReadsUptoRow : OpenClaim := { program := "ytimjcamgkiabdaadoor", sum := "5fdd86ba5672d19d7c52a6f75e6bdd3b4689d9412f09424ce4dce72b5981e28b", func := "pointsman/pointsmanlaw06.ArpReads", spec := "arpReads", named := ["pointsman/arp.beginning"], apart := false, laid := [("pointsman/arp.beginning", laid_pointsman_arp_beginning)], narrowed := true }
def ArpReadsUptoSaid : Prop := arpReadsUptoRow.holds Tryd.pinned (OpenSpec.upto arpReadsSpec)

/-- 'pointsmanlaw06.ArpBack', WHERE WHAT IT READS IS OF BULK AT MOST 1048576: true; the input reads as it did. -/
def arpBackUptoRow : OpenClaim := { program := "ytimjcamgkiabdaadoor", sum := "5fdd86ba5672d19d7c52a6f75e6bdd3b4689d9412f09424ce4dce72b5981e28b", func := "pointsman/pointsmanlaw06.ArpBack", spec := "arpBack", named := ["pointsman/arp.beginning"], apart := false, laid := [("pointsman/arp.beginning", laid_pointsman_arp_beginning)], narrowed := true }
def ArpBackUptoSaid : Prop := arpBackUptoRow.holds Tryd.pinned (OpenSpec.upto arpBackSpec)

end Rows
end Go.Proofs.YtimjcamgkiabdaaDoor
