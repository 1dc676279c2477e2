/-
  NARROWER THAN 'FOR EVERY INPUT', by the rows' own cells (each row's printed sentence says how): SegBuilds: laid · SegReads: laid · SegBack: laid · SegFinds: laid · SegQuiet: laid.
  DERIVED. THE GIVEN ROWS OF THIS SEAT. 5 by the template 'for every input the law returns true; each argument reads behind the call as it read before'; 0 by the template 'total and deterministic' (their statements: YtefnfbidphmgoaaDoorTotals.lean).
  GIVEN WITH THE SEED: the statements are not yours to turn. If you find one false, say at which input.
  Laid BY PROGRAM, IN A SANDBOX (cutbox-rows.mjs): the forced cells as the released guide's own fill.sh prints them over the translation 1e3f3fa24bd94244… (all of the seat's roots in one cut). By AI agents, Wed Nov 11 2026. No macro, syntax, notation, axiom, sorry.
-/
import Derived.Test.YtefnfbidphmgoaaDoorChecked
import GoSem.Claim
import GoSem.ClaimJoined
import GoSem.ClaimMapViews
import Derived.JoinedTies
import Derived.KernelRfl
namespace Go.Proofs.YtefnfbidphmgoaaDoor
/- THE CELL 'sum', in the pinned program and in every row, IS THE sha256 OF THE DUMP (.gsa) THAT YtefnfbidphmgoaaDoorProg.lean LOADS. Nothing in Lean hashes anything: it is a label: what it is worth is what the hold of that sum in a sandbox is worth. -/
noncomputable def Tryd.pinned : Pinned := { name := "ytefnfbidphmgoaadoor", sum := "1e3f3fa24bd94244562c46c746d51e02e5e752750d086361e15c9a714c74a6b1", checked := Tryd.checked }
namespace Rows
def none {H : Type} : Left H := { results := [], args := [] }

/- WHAT THE LISTED PACKAGE-LEVEL VARIABLES READ AS WHEN THE CALL BEGINS. Each datum BY PROGRAM (the guide's laid-datum.mjs) off the statement by which the dump's own 'gosem.cut.vars' lays the variable. In a bare row this is a premise. The card (YtefnfbidphmgoaaDoorCards.lean) ties it to the program's text. -/
def laid_pointsman_seg_letters {H : Type} : DataW H := .agg [.lit (.int .u8 70), .lit (.int .u8 83), .lit (.int .u8 82), .lit (.int .u8 80), .lit (.int .u8 65), .lit (.int .u8 85)]

/-- 'pointsmanlaw11.SegBuilds': WHATEVER THE INPUT: true; the input reads as it did. -/
def segBuildsSpec : ChangeSpec := { name := "segBuilds", fn := fun _ => fun
  | [d1, d2, d3] => { results := [.lit (.bool true)], args := [d1, d2, d3] }
  | _ => none }
def segBuildsRow : OpenClaim := { program := "ytefnfbidphmgoaadoor", sum := "1e3f3fa24bd94244562c46c746d51e02e5e752750d086361e15c9a714c74a6b1", func := "pointsman/pointsmanlaw11.SegBuilds", spec := "segBuilds", named := ["pointsman/seg.letters"], apart := false, laid := [("pointsman/seg.letters", laid_pointsman_seg_letters)] }
def SegBuildsSaid : Prop := segBuildsRow.holds Tryd.pinned (OpenSpec.ofChange segBuildsSpec)

/-- ITS FALSE NEIGHBOUR: 'it returns false'. Refute it at one input. -/
def segBuildsWrong : ChangeSpec := { name := "segBuilds", fn := fun _ => fun
  | [d1, d2, d3] => { results := [.lit (.bool false)], args := [d1, d2, d3] }
  | _ => none }
def SegBuildsWrongFalsely : Prop := segBuildsRow.holds Tryd.pinned (OpenSpec.ofChange segBuildsWrong)

/-- 'pointsmanlaw11.SegReads': WHATEVER THE INPUT: true; the input reads as it did. -/
def segReadsSpec : ChangeSpec := { name := "segReads", fn := fun _ => fun
  | [d1, d2, d3] => { results := [.lit (.bool true)], args := [d1, d2, d3] }
  | _ => none }
def segReadsRow : OpenClaim := { program := "ytefnfbidphmgoaadoor", sum := "1e3f3fa24bd94244562c46c746d51e02e5e752750d086361e15c9a714c74a6b1", func := "pointsman/pointsmanlaw11.SegReads", spec := "segReads", named := ["pointsman/seg.letters"], apart := false, laid := [("pointsman/seg.letters", laid_pointsman_seg_letters)] }
def SegReadsSaid : Prop := segReadsRow.holds Tryd.pinned (OpenSpec.ofChange segReadsSpec)

/-- ITS FALSE NEIGHBOUR: 'it returns false'. Refute it at one input. -/
def segReadsWrong : ChangeSpec := { name := "segReads", fn := fun _ => fun
  | [d1, d2, d3] => { results := [.lit (.bool false)], args := [d1, d2, d3] }
  | _ => none }
def SegReadsWrongFalsely : Prop := segReadsRow.holds Tryd.pinned (OpenSpec.ofChange segReadsWrong)

/-- 'pointsmanlaw11.SegBack': WHATEVER THE INPUT: true; the input reads as it did. -/
def segBackSpec : ChangeSpec := { name := "segBack", fn := fun _ => fun
  | [d1, d2, d3] => { results := [.lit (.bool true)], args := [d1, d2, d3] }
  | _ => none }
def segBackRow : OpenClaim := { program := "ytefnfbidphmgoaadoor", sum := "1e3f3fa24bd94244562c46c746d51e02e5e752750d086361e15c9a714c74a6b1", func := "pointsman/pointsmanlaw11.SegBack", spec := "segBack", named := ["pointsman/seg.letters"], apart := false, laid := [("pointsman/seg.letters", laid_pointsman_seg_letters)] }
def SegBackSaid : Prop := segBackRow.holds Tryd.pinned (OpenSpec.ofChange segBackSpec)

/-- ITS FALSE NEIGHBOUR: 'it returns false'. Refute it at one input. -/
def segBackWrong : ChangeSpec := { name := "segBack", fn := fun _ => fun
  | [d1, d2, d3] => { results := [.lit (.bool false)], args := [d1, d2, d3] }
  | _ => none }
def SegBackWrongFalsely : Prop := segBackRow.holds Tryd.pinned (OpenSpec.ofChange segBackWrong)

/-- 'pointsmanlaw11.SegFinds': WHATEVER THE INPUT: true; the input reads as it did. -/
def segFindsSpec : ChangeSpec := { name := "segFinds", fn := fun _ => fun
  | [d1, d2, d3, d4, d5] => { results := [.lit (.bool true)], args := [d1, d2, d3, d4, d5] }
  | _ => none }
def segFindsRow : OpenClaim := { program := "ytefnfbidphmgoaadoor", sum := "1e3f3fa24bd94244562c46c746d51e02e5e752750d086361e15c9a714c74a6b1", func := "pointsman/pointsmanlaw11.SegFinds", spec := "segFinds", named := ["pointsman/seg.letters"], apart := false, laid := [("pointsman/seg.letters", laid_pointsman_seg_letters)] }
def SegFindsSaid : Prop := segFindsRow.holds Tryd.pinned (OpenSpec.ofChange segFindsSpec)

/-- ITS FALSE NEIGHBOUR: 'it returns false'. Refute it at one input. -/
def segFindsWrong : ChangeSpec := { name := "segFinds", fn := fun _ => fun
  | [d1, d2, d3, d4, d5] => { results := [.lit (.bool false)], args := [d1, d2, d3, d4, d5] }
  | _ => none }
def SegFindsWrongFalsely : Prop := segFindsRow.holds Tryd.pinned (OpenSpec.ofChange segFindsWrong)

/-- 'pointsmanlaw11.SegQuiet': WHATEVER THE INPUT: true; the input reads as it did. -/
def segQuietSpec : ChangeSpec := { name := "segQuiet", fn := fun _ => fun
  | [d] => { results := [.lit (.bool true)], args := [d] }
  | _ => none }
def segQuietRow : OpenClaim := { program := "ytefnfbidphmgoaadoor", sum := "1e3f3fa24bd94244562c46c746d51e02e5e752750d086361e15c9a714c74a6b1", func := "pointsman/pointsmanlaw11.SegQuiet", spec := "segQuiet", named := ["pointsman/seg.letters"], apart := false, laid := [("pointsman/seg.letters", laid_pointsman_seg_letters)] }
def SegQuietSaid : Prop := segQuietRow.holds Tryd.pinned (OpenSpec.ofChange segQuietSpec)

/-- ITS FALSE NEIGHBOUR: 'it returns false'. Refute it at one input. -/
def segQuietWrong : ChangeSpec := { name := "segQuiet", fn := fun _ => fun
  | [d] => { results := [.lit (.bool false)], args := [d] }
  | _ => none }
def SegQuietWrongFalsely : Prop := segQuietRow.holds Tryd.pinned (OpenSpec.ofChange segQuietWrong)

/- THE SECOND FORM. 'bulk': how many values and letters a reading holds, each counted each time it is reached (what is shared counts as often as it is met; a slice's spare places count too). A statement '..UptoSaid' is the law's where the arguments, and the package variables that the reading takes, are together of bulk at most 1048576: NARROWER than '..Said'. Prove '..Said' where nothing that the law and all that it calls make is longer than what came in: it says more and counts as full. Else prove '..UptoSaid'. A law counts once. -/
mutual
def uptoBulk {H : Type} : DataW H → Nat
  | .lit (.string bytes) => bytes.length + 1
  | .lit _ => 1
  | .nil => 1
  | .ptr d => uptoBulk d + 1
  | .slice elems spare => uptoBulkAll elems + uptoBulkAll spare + 1
  | .agg parts => uptoBulkAll parts + 1
  | .iface _ d => uptoBulk d + 1
  | .map entries => uptoBulkEntries entries + 1
  | .held _ => 1
def uptoBulkAll {H : Type} : List (DataW H) → Nat
  | [] => 0
  | d :: r => uptoBulk d + uptoBulkAll r
def uptoBulkEntries {H : Type} : List (Lit × DataW H) → Nat
  | [] => 0
  | x :: r => uptoBulkEntry x + uptoBulkEntries r
def uptoBulkEntry {H : Type} : Lit × DataW H → Nat
  | (.string bytes, d) => bytes.length + uptoBulk d + 1
  | (_, d) => uptoBulk d + 1
 end
def uptoSmall : (H : Type) → List (DataW H) → Bool := fun _ ds => decide (uptoBulkAll ds ≤ 1048576)
def OpenSpec.upto (s : _root_.Go.ChangeSpec) : _root_.Go.OpenSpec := { _root_.Go.OpenSpec.ofChange s with cond := some uptoSmall }

/-- 'pointsmanlaw11.SegBuilds', WHERE WHAT IT READS IS OF BULK AT MOST 1048576: true; the input reads as it did. -/
def segBuildsUptoRow : OpenClaim := { program := "ytefnfbidphmgoaadoor", sum := "1e3f3fa24bd94244562c46c746d51e02e5e752750d086361e15c9a714c74a6b1", func := "pointsman/pointsmanlaw11.SegBuilds", spec := "segBuilds", named := ["pointsman/seg.letters"], apart := false, laid := [("pointsman/seg.letters", laid_pointsman_seg_letters)], narrowed := true }
def SegBuildsUptoSaid : Prop := segBuildsUptoRow.holds Tryd.pinned (OpenSpec.upto segBuildsSpec)

/-- 'pointsmanlaw11.SegReads', WHERE WHAT IT READS IS OF BULK AT MOST 1048576: true; the input reads as it did. -/
def segReadsUptoRow : OpenClaim := { program := "ytefnfbidphmgoaadoor", sum := "1e3f3fa24bd94244562c46c746d51e02e5e752750d086361e15c9a714c74a6b1", func := "pointsman/pointsmanlaw11.SegReads", spec := "segReads", named := ["pointsman/seg.letters"], apart := false, laid := [("pointsman/seg.letters", laid_pointsman_seg_letters)], narrowed := true }
def SegReadsUptoSaid : Prop := segReadsUptoRow.holds Tryd.pinned (OpenSpec.upto segReadsSpec)

/-- 'pointsmanlaw11.SegBack', WHERE WHAT IT READS IS OF BULK AT MOST 1048576: true; the input reads as it did. -/
def segBackUptoRow : OpenClaim := { program := "ytefnfbidphmgoaadoor", sum := "1e3f3fa24bd94244562c46c746d51e02e5e752750d086361e15c9a714c74a6b1", func := "pointsman/pointsmanlaw11.SegBack", spec := "segBack", named := ["pointsman/seg.letters"], apart := false, laid := [("pointsman/seg.letters", laid_pointsman_seg_letters)], narrowed := true }
def SegBackUptoSaid : Prop := segBackUptoRow.holds Tryd.pinned (OpenSpec.upto segBackSpec)

/-- 'pointsmanlaw11.SegFinds', WHERE WHAT IT READS IS OF BULK AT MOST 1048576: true; the input reads as it did. -/
def segFindsUptoRow : OpenClaim := { program := "ytefnfbidphmgoaadoor", sum := "1e3f3fa24bd94244562c46c746d51e02e5e752750d086361e15c9a714c74a6b1", func := "pointsman/pointsmanlaw11.SegFinds", spec := "segFinds", named := ["pointsman/seg.letters"], apart := false, laid := [("pointsman/seg.letters", laid_pointsman_seg_letters)], narrowed := true }
def SegFindsUptoSaid : Prop := segFindsUptoRow.holds Tryd.pinned (OpenSpec.upto segFindsSpec)

/-- 'pointsmanlaw11.SegQuiet', WHERE WHAT IT READS IS OF BULK AT MOST 1048576: true; the input reads as it did. -/
def segQuietUptoRow : OpenClaim := { program := "ytefnfbidphmgoaadoor", sum := "1e3f3fa24bd94244562c46c746d51e02e5e752750d086361e15c9a714c74a6b1", func := "pointsman/pointsmanlaw11.SegQuiet", spec := "segQuiet", named := ["pointsman/seg.letters"], apart := false, laid := [("pointsman/seg.letters", laid_pointsman_seg_letters)], narrowed := true }
def SegQuietUptoSaid : Prop := segQuietUptoRow.holds Tryd.pinned (OpenSpec.upto segQuietSpec)

end Rows
end Go.Proofs.YtefnfbidphmgoaaDoor
