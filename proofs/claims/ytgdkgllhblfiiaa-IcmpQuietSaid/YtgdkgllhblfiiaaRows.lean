/-
  No cell of these rows narrows 'for every input' (looked for: loops, veiled, ifaces, maps, wideKeys, modest, calm, conditions, laid).
  DERIVED. THE GIVEN ROWS OF THIS SEAT. 4 by the template 'for every input the law returns true; each argument reads behind the call as it read before'; 0 by the template 'total and deterministic' (their statements: YtgdkgllhblfiiaaTotals.lean).
  GIVEN WITH THE SEED: the statements are not yours to turn. If you find one false, say at which input.
  Laid BY PROGRAM, IN A SANDBOX (cutbox-rows.mjs): the forced cells as the released guide's own fill.sh prints them over the translation 67bbeb5a58e6dc8f… (all of the seat's roots in one cut). By AI agents, Wed Nov 11 2026. No macro, syntax, notation, axiom, sorry.
-/
import Derived.Test.YtgdkgllhblfiiaaChecked
import GoSem.Claim
import GoSem.ClaimJoined
import GoSem.ClaimMapViews
import Derived.JoinedTies
import Derived.KernelRfl
namespace Go.Proofs.Ytgdkgllhblfiiaa
/- THE CELL 'sum', in the pinned program and in every row, IS THE sha256 OF THE DUMP (.gsa) THAT YtgdkgllhblfiiaaProg.lean LOADS. Nothing in Lean hashes anything: it is a label: what it is worth is what the hold of that sum in a sandbox is worth. -/
noncomputable def Try.pinned : Pinned := { name := "ytgdkgllhblfiiaa", sum := "67bbeb5a58e6dc8f52b92b2af4e5409263e5c23825258f453cf3057e2073addc", checked := Try.checked }
namespace Rows
def none {H : Type} : Left H := { results := [], args := [] }

/-- 'pointsmanlaw09.IcmpBuilds': WHATEVER THE INPUT: true; the input reads as it did. -/
def icmpBuildsSpec : ChangeSpec := { name := "icmpBuilds", fn := fun _ => fun
  | [d1, d2] => { results := [.lit (.bool true)], args := [d1, d2] }
  | _ => none }
def icmpBuildsRow : OpenClaim := { program := "ytgdkgllhblfiiaa", sum := "67bbeb5a58e6dc8f52b92b2af4e5409263e5c23825258f453cf3057e2073addc", func := "pointsman/pointsmanlaw09.IcmpBuilds", spec := "icmpBuilds", apart := false }
def IcmpBuildsSaid : Prop := icmpBuildsRow.holds Try.pinned (OpenSpec.ofChange icmpBuildsSpec)

/-- ITS FALSE NEIGHBOUR: 'it returns false'. Refute it at one input. -/
def icmpBuildsWrong : ChangeSpec := { name := "icmpBuilds", fn := fun _ => fun
  | [d1, d2] => { results := [.lit (.bool false)], args := [d1, d2] }
  | _ => none }
def IcmpBuildsWrongFalsely : Prop := icmpBuildsRow.holds Try.pinned (OpenSpec.ofChange icmpBuildsWrong)

/-- 'pointsmanlaw09.IcmpAnswers': WHATEVER THE INPUT: true; the input reads as it did. -/
def icmpAnswersSpec : ChangeSpec := { name := "icmpAnswers", fn := fun _ => fun
  | [d1, d2, d3, d4] => { results := [.lit (.bool true)], args := [d1, d2, d3, d4] }
  | _ => none }
def icmpAnswersRow : OpenClaim := { program := "ytgdkgllhblfiiaa", sum := "67bbeb5a58e6dc8f52b92b2af4e5409263e5c23825258f453cf3057e2073addc", func := "pointsman/pointsmanlaw09.IcmpAnswers", spec := "icmpAnswers", apart := false }
def IcmpAnswersSaid : Prop := icmpAnswersRow.holds Try.pinned (OpenSpec.ofChange icmpAnswersSpec)

/-- ITS FALSE NEIGHBOUR: 'it returns false'. Refute it at one input. -/
def icmpAnswersWrong : ChangeSpec := { name := "icmpAnswers", fn := fun _ => fun
  | [d1, d2, d3, d4] => { results := [.lit (.bool false)], args := [d1, d2, d3, d4] }
  | _ => none }
def IcmpAnswersWrongFalsely : Prop := icmpAnswersRow.holds Try.pinned (OpenSpec.ofChange icmpAnswersWrong)

/-- 'pointsmanlaw09.IcmpComplains': WHATEVER THE INPUT: true; the input reads as it did. -/
def icmpComplainsSpec : ChangeSpec := { name := "icmpComplains", fn := fun _ => fun
  | [d1, d2, d3, d4, d5] => { results := [.lit (.bool true)], args := [d1, d2, d3, d4, d5] }
  | _ => none }
def icmpComplainsRow : OpenClaim := { program := "ytgdkgllhblfiiaa", sum := "67bbeb5a58e6dc8f52b92b2af4e5409263e5c23825258f453cf3057e2073addc", func := "pointsman/pointsmanlaw09.IcmpComplains", spec := "icmpComplains", apart := false }
def IcmpComplainsSaid : Prop := icmpComplainsRow.holds Try.pinned (OpenSpec.ofChange icmpComplainsSpec)

/-- ITS FALSE NEIGHBOUR: 'it returns false'. Refute it at one input. -/
def icmpComplainsWrong : ChangeSpec := { name := "icmpComplains", fn := fun _ => fun
  | [d1, d2, d3, d4, d5] => { results := [.lit (.bool false)], args := [d1, d2, d3, d4, d5] }
  | _ => none }
def IcmpComplainsWrongFalsely : Prop := icmpComplainsRow.holds Try.pinned (OpenSpec.ofChange icmpComplainsWrong)

/-- 'pointsmanlaw09.IcmpQuiet': WHATEVER THE INPUT: true; the input reads as it did. -/
def icmpQuietSpec : ChangeSpec := { name := "icmpQuiet", fn := fun _ => fun
  | [d1, d2, d3, d4, d5] => { results := [.lit (.bool true)], args := [d1, d2, d3, d4, d5] }
  | _ => none }
def icmpQuietRow : OpenClaim := { program := "ytgdkgllhblfiiaa", sum := "67bbeb5a58e6dc8f52b92b2af4e5409263e5c23825258f453cf3057e2073addc", func := "pointsman/pointsmanlaw09.IcmpQuiet", spec := "icmpQuiet", apart := false }
def IcmpQuietSaid : Prop := icmpQuietRow.holds Try.pinned (OpenSpec.ofChange icmpQuietSpec)

/-- ITS FALSE NEIGHBOUR: 'it returns false'. Refute it at one input. -/
def icmpQuietWrong : ChangeSpec := { name := "icmpQuiet", fn := fun _ => fun
  | [d1, d2, d3, d4, d5] => { results := [.lit (.bool false)], args := [d1, d2, d3, d4, d5] }
  | _ => none }
def IcmpQuietWrongFalsely : Prop := icmpQuietRow.holds Try.pinned (OpenSpec.ofChange icmpQuietWrong)

/- THE SECOND FORM. 'bulk': how many values and letters a reading holds, each counted each time it is reached (what is shared counts as often as it is met; a slice's spare places count too). A statement '..UptoSaid' is the law's where the arguments, and the package variables that the reading takes, are together of bulk at most 1048576: NARROWER than '..Said'. Prove '..Said' where nothing that the law and all that it calls make is longer than what came in: it says more and counts as full. Else prove '..UptoSaid'. A law counts once. -/
mutual
def uptoBulk {H : Type} : DataW H → Nat
  | .lit (.string bytes) => bytes.length + 1
  | .lit _ => 1
  | .nil => 1
  | .ptr d => uptoBulk d + 1
  | .slice elems spare => uptoBulkAll elems + uptoBulkAll spare + 1
  | .agg parts => uptoBulkAll parts + 1
  | .iface _ d => uptoBulk d + 1
  | .map entries => uptoBulkEntries entries + 1
  | .held _ => 1
def uptoBulkAll {H : Type} : List (DataW H) → Nat
  | [] => 0
  | d :: r => uptoBulk d + uptoBulkAll r
def uptoBulkEntries {H : Type} : List (Lit × DataW H) → Nat
  | [] => 0
  | x :: r => uptoBulkEntry x + uptoBulkEntries r
def uptoBulkEntry {H : Type} : Lit × DataW H → Nat
  | (.string bytes, d) => bytes.length + uptoBulk d + 1
  | (_, d) => uptoBulk d + 1
 end
def uptoSmall : (H : Type) → List (DataW H) → Bool := fun _ ds => decide (uptoBulkAll ds ≤ 1048576)
def OpenSpec.upto (s : _root_.Go.ChangeSpec) : _root_.Go.OpenSpec := { _root_.Go.OpenSpec.ofChange s with cond := some uptoSmall }

/-- 'pointsmanlaw09.IcmpBuilds', WHERE WHAT IT READS IS OF BULK AT MOST 1048576: true; the input reads as it did. -/
def icmpBuildsUptoRow : OpenClaim := { program := "ytgdkgllhblfiiaa", sum := "67bbeb5a58e6dc8f52b92b2af4e5409263e5c23825258f453cf3057e2073addc", func := "pointsman/pointsmanlaw09.IcmpBuilds", spec := "icmpBuilds", apart := false, narrowed := true }
def IcmpBuildsUptoSaid : Prop := icmpBuildsUptoRow.holds Try.pinned (OpenSpec.upto icmpBuildsSpec)

/-- 'pointsmanlaw09.IcmpAnswers', WHERE WHAT IT READS IS OF BULK AT MOST 1048576: true; the input reads as it did. -/
def icmpAnswersUptoRow : OpenClaim := { program := "ytgdkgllhblfiiaa", sum := "67bbeb5a58e6dc8f52b92b2af4e5409263e5c23825258f453cf3057e2073addc", func := "pointsman/pointsmanlaw09.IcmpAnswers", spec := "icmpAnswers", apart := false, narrowed := true }
def IcmpAnswersUptoSaid : Prop := icmpAnswersUptoRow.holds Try.pinned (OpenSpec.upto icmpAnswersSpec)

/-- 'pointsmanlaw09.IcmpComplains', WHERE WHAT IT READS IS OF BULK AT MOST 1048576: true; the input reads as it did. -/
def icmpComplainsUptoRow : OpenClaim := { program := "ytgdkgllhblfiiaa", sum := "67bbeb5a58e6dc8f52b92b2af4e5409263e5c23825258f453cf3057e2073addc", func := "pointsman/pointsmanlaw09.IcmpComplains", spec := "icmpComplains", apart := false, narrowed := true }
def IcmpComplainsUptoSaid : Prop := icmpComplainsUptoRow.holds Try.pinned (OpenSpec.upto icmpComplainsSpec)

/-- 'pointsmanlaw09.IcmpQuiet', WHERE WHAT IT READS IS OF BULK AT MOST 1048576: true; the input reads as it did. -/
def icmpQuietUptoRow : OpenClaim := { program := "ytgdkgllhblfiiaa", sum := "67bbeb5a58e6dc8f52b92b2af4e5409263e5c23825258f453cf3057e2073addc", func := "pointsman/pointsmanlaw09.IcmpQuiet", spec := "icmpQuiet", apart := false, narrowed := true }
def IcmpQuietUptoSaid : Prop := icmpQuietUptoRow.holds Try.pinned (OpenSpec.upto icmpQuietSpec)

end Rows
end Go.Proofs.Ytgdkgllhblfiiaa
