/-
  No cell of these rows narrows 'for every input' (looked for: loops, veiled, ifaces, maps, wideKeys, modest, calm, conditions, laid).
  DERIVED. THE GIVEN ROWS OF THIS SEAT. 5 by the template 'for every input the law returns true; each argument reads behind the call as it read before'; 0 by the template 'total and deterministic' (their statements: YtcemdlihcigagaaGreatTotals.lean).
  GIVEN WITH THE SEED: the statements are not yours to turn. If you find one false, say at which input.
  Laid BY PROGRAM, IN A SANDBOX (cutbox-rows.mjs): the forced cells as the released guide's own fill.sh prints them over the translation cc3adf9e97532c02… (all of the seat's roots in one cut). By AI agents, Wed Nov 11 2026. No macro, syntax, notation, axiom, sorry.
-/
import Derived.Test.YtcemdlihcigagaaGreatChecked
import GoSem.Claim
import GoSem.ClaimJoined
import GoSem.ClaimMapViews
import Derived.JoinedTies
import Derived.KernelRfl
namespace Go.Proofs.YtcemdlihcigagaaGreat
/- THE CELL 'sum', in the pinned program and in every row, IS THE sha256 OF THE DUMP (.gsa) THAT YtcemdlihcigagaaGreatProg.lean LOADS. Nothing in Lean hashes anything: it is a label: what it is worth is what the hold of that sum in a sandbox is worth. -/
noncomputable def Tryz.pinned : Pinned := { name := "ytcemdlihcigagaagreat", sum := "cc3adf9e97532c02efdc3e83bf078fffd294d7ed1fed206d648b595b40e96a06", checked := Tryz.checked }
namespace Rows
def none {H : Type} : Left H := { results := [], args := [] }

/-- 'pointsmanlaw16.TcpApart': WHATEVER THE INPUT: true; the input reads as it did. -/
def tcpApartSpec : ChangeSpec := { name := "tcpApart", fn := fun _ => fun
  | [d1, d2] => { results := [.lit (.bool true)], args := [d1, d2] }
  | _ => none }
def tcpApartRow : OpenClaim := { program := "ytcemdlihcigagaagreat", sum := "cc3adf9e97532c02efdc3e83bf078fffd294d7ed1fed206d648b595b40e96a06", func := "pointsman/pointsmanlaw16.TcpApart", spec := "tcpApart", unfollowed := true, recurses := true, plainKeys := false, apart := false }
def TcpApartSaid : Prop := tcpApartRow.holds Tryz.pinned (OpenSpec.ofChange tcpApartSpec)

/-- ITS FALSE NEIGHBOUR: 'it returns false'. Refute it at one input. -/
def tcpApartWrong : ChangeSpec := { name := "tcpApart", fn := fun _ => fun
  | [d1, d2] => { results := [.lit (.bool false)], args := [d1, d2] }
  | _ => none }
def TcpApartWrongFalsely : Prop := tcpApartRow.holds Tryz.pinned (OpenSpec.ofChange tcpApartWrong)

/-- 'pointsmanlaw16.TcpTalks': WHATEVER THE INPUT: true; the input reads as it did. -/
def tcpTalksSpec : ChangeSpec := { name := "tcpTalks", fn := fun _ => fun
  | [d1, d2, d3, d4] => { results := [.lit (.bool true)], args := [d1, d2, d3, d4] }
  | _ => none }
def tcpTalksRow : OpenClaim := { program := "ytcemdlihcigagaagreat", sum := "cc3adf9e97532c02efdc3e83bf078fffd294d7ed1fed206d648b595b40e96a06", func := "pointsman/pointsmanlaw16.TcpTalks", spec := "tcpTalks", unfollowed := true, recurses := true, plainKeys := false, apart := false }
def TcpTalksSaid : Prop := tcpTalksRow.holds Tryz.pinned (OpenSpec.ofChange tcpTalksSpec)

/-- ITS FALSE NEIGHBOUR: 'it returns false'. Refute it at one input. -/
def tcpTalksWrong : ChangeSpec := { name := "tcpTalks", fn := fun _ => fun
  | [d1, d2, d3, d4] => { results := [.lit (.bool false)], args := [d1, d2, d3, d4] }
  | _ => none }
def TcpTalksWrongFalsely : Prop := tcpTalksRow.holds Tryz.pinned (OpenSpec.ofChange tcpTalksWrong)

/-- 'pointsmanlaw16.TcpSums': WHATEVER THE INPUT: true; the input reads as it did. -/
def tcpSumsSpec : ChangeSpec := { name := "tcpSums", fn := fun _ => fun
  | [d1, d2, d3] => { results := [.lit (.bool true)], args := [d1, d2, d3] }
  | _ => none }
def tcpSumsRow : OpenClaim := { program := "ytcemdlihcigagaagreat", sum := "cc3adf9e97532c02efdc3e83bf078fffd294d7ed1fed206d648b595b40e96a06", func := "pointsman/pointsmanlaw16.TcpSums", spec := "tcpSums", unfollowed := true, recurses := true, plainKeys := false, apart := false }
def TcpSumsSaid : Prop := tcpSumsRow.holds Tryz.pinned (OpenSpec.ofChange tcpSumsSpec)

/-- ITS FALSE NEIGHBOUR: 'it returns false'. Refute it at one input. -/
def tcpSumsWrong : ChangeSpec := { name := "tcpSums", fn := fun _ => fun
  | [d1, d2, d3] => { results := [.lit (.bool false)], args := [d1, d2, d3] }
  | _ => none }
def TcpSumsWrongFalsely : Prop := tcpSumsRow.holds Tryz.pinned (OpenSpec.ofChange tcpSumsWrong)

/-- 'pointsmanlaw16.TcpFull': WHATEVER THE INPUT: true; the input reads as it did. -/
def tcpFullSpec : ChangeSpec := { name := "tcpFull", fn := fun _ => fun
  | [d] => { results := [.lit (.bool true)], args := [d] }
  | _ => none }
def tcpFullRow : OpenClaim := { program := "ytcemdlihcigagaagreat", sum := "cc3adf9e97532c02efdc3e83bf078fffd294d7ed1fed206d648b595b40e96a06", func := "pointsman/pointsmanlaw16.TcpFull", spec := "tcpFull", unfollowed := true, recurses := true, plainKeys := false, apart := false }
def TcpFullSaid : Prop := tcpFullRow.holds Tryz.pinned (OpenSpec.ofChange tcpFullSpec)

/-- ITS FALSE NEIGHBOUR: 'it returns false'. Refute it at one input. -/
def tcpFullWrong : ChangeSpec := { name := "tcpFull", fn := fun _ => fun
  | [d] => { results := [.lit (.bool false)], args := [d] }
  | _ => none }
def TcpFullWrongFalsely : Prop := tcpFullRow.holds Tryz.pinned (OpenSpec.ofChange tcpFullWrong)

/-- 'pointsmanlaw16.TcpVoid': WHATEVER THE INPUT: true; the input reads as it did. -/
def tcpVoidSpec : ChangeSpec := { name := "tcpVoid", fn := fun _ => fun
  | [d1, d2, d3] => { results := [.lit (.bool true)], args := [d1, d2, d3] }
  | _ => none }
def tcpVoidRow : OpenClaim := { program := "ytcemdlihcigagaagreat", sum := "cc3adf9e97532c02efdc3e83bf078fffd294d7ed1fed206d648b595b40e96a06", func := "pointsman/pointsmanlaw16.TcpVoid", spec := "tcpVoid", unfollowed := true, recurses := true, plainKeys := false, apart := false }
def TcpVoidSaid : Prop := tcpVoidRow.holds Tryz.pinned (OpenSpec.ofChange tcpVoidSpec)

/-- ITS FALSE NEIGHBOUR: 'it returns false'. Refute it at one input. -/
def tcpVoidWrong : ChangeSpec := { name := "tcpVoid", fn := fun _ => fun
  | [d1, d2, d3] => { results := [.lit (.bool false)], args := [d1, d2, d3] }
  | _ => none }
def TcpVoidWrongFalsely : Prop := tcpVoidRow.holds Tryz.pinned (OpenSpec.ofChange tcpVoidWrong)

/- THE SECOND FORM. 'bulk': how many values and letters a reading holds, each counted each time it is reached (what is shared counts as often as it is met; a slice's spare places count too). A statement '..UptoSaid' is the law's where the arguments, and the package variables that the reading takes, are together of bulk at most 1048576: NARROWER than '..Said'. Prove '..Said' where nothing that the law and all that it calls make is longer than what came in: it says more and counts as full. Else prove '..UptoSaid'. A law counts once. -/
mutual
def uptoBulk {H : Type} : DataW H → Nat
  | .lit (.string bytes) => bytes.length + 1
  | .lit _ => 1
  | .nil => 1
  | .ptr d => uptoBulk d + 1
  | .slice elems spare => uptoBulkAll elems + uptoBulkAll spare + 1
  | .agg parts => uptoBulkAll parts + 1
  | .iface _ d => uptoBulk d + 1
  | .map entries => uptoBulkEntries entries + 1
  | .held _ => 1
def uptoBulkAll {H : Type} : List (DataW H) → Nat
  | [] => 0
  | d :: r => uptoBulk d + uptoBulkAll r
def uptoBulkEntries {H : Type} : List (Lit × DataW H) → Nat
  | [] => 0
  | x :: r => uptoBulkEntry x + uptoBulkEntries r
def uptoBulkEntry {H : Type} : Lit × DataW H → Nat
  | (.string bytes, d) => bytes.length + uptoBulk d + 1
  | (_, d) => uptoBulk d + 1
 end
def uptoSmall : (H : Type) → List (DataW H) → Bool := fun _ ds => decide (uptoBulkAll ds ≤ 1048576)
def OpenSpec.upto (s : _root_.Go.ChangeSpec) : _root_.Go.OpenSpec := { _root_.Go.OpenSpec.ofChange s with cond := some uptoSmall }

/-- 'pointsmanlaw16.TcpApart', WHERE WHAT IT READS IS OF BULK AT MOST 1048576: true; the input reads as it did. -/
def tcpApartUptoRow : OpenClaim := { program := "ytcemdlihcigagaagreat", sum := "cc3adf9e97532c02efdc3e83bf078fffd294d7ed1fed206d648b595b40e96a06", func := "pointsman/pointsmanlaw16.TcpApart", spec := "tcpApart", unfollowed := true, recurses := true, plainKeys := false, apart := false, narrowed := true }
def TcpApartUptoSaid : Prop := tcpApartUptoRow.holds Tryz.pinned (OpenSpec.upto tcpApartSpec)

/-- 'pointsmanlaw16.TcpTalks', WHERE WHAT IT READS IS OF BULK AT MOST 1048576: true; the input reads as it did. -/
def tcpTalksUptoRow : OpenClaim := { program := "ytcemdlihcigagaagreat", sum := "cc3adf9e97532c02efdc3e83bf078fffd294d7ed1fed206d648b595b40e96a06", func := "pointsman/pointsmanlaw16.TcpTalks", spec := "tcpTalks", unfollowed := true, recurses := true, plainKeys := false, apart := false, narrowed := true }
def TcpTalksUptoSaid : Prop := tcpTalksUptoRow.holds Tryz.pinned (OpenSpec.upto tcpTalksSpec)

/-- 'pointsmanlaw16.TcpSums', WHERE WHAT IT READS IS OF BULK AT MOST 1048576: true; the input reads as it did. -/
def tcpSumsUptoRow : OpenClaim := { program := "ytcemdlihcigagaagreat", sum := "cc3adf9e97532c02efdc3e83bf078fffd294d7ed1fed206d648b595b40e96a06", func := "pointsman/pointsmanlaw16.TcpSums", spec := "tcpSums", unfollowed := true, recurses := true, plainKeys := false, apart := false, narrowed := true }
def TcpSumsUptoSaid : Prop := tcpSumsUptoRow.holds Tryz.pinned (OpenSpec.upto tcpSumsSpec)

/-- 'pointsmanlaw16.TcpFull', WHERE WHAT IT READS IS OF BULK AT MOST 1048576: true; the input reads as it did. -/
def tcpFullUptoRow : OpenClaim := { program := "ytcemdlihcigagaagreat", sum := "cc3adf9e97532c02efdc3e83bf078fffd294d7ed1fed206d648b595b40e96a06", func := "pointsman/pointsmanlaw16.TcpFull", spec := "tcpFull", unfollowed := true, recurses := true, plainKeys := false, apart := false, narrowed := true }
def TcpFullUptoSaid : Prop := tcpFullUptoRow.holds Tryz.pinned (OpenSpec.upto tcpFullSpec)

/-- 'pointsmanlaw16.TcpVoid', WHERE WHAT IT READS IS OF BULK AT MOST 1048576: true; the input reads as it did. -/
def tcpVoidUptoRow : OpenClaim := { program := "ytcemdlihcigagaagreat", sum := "cc3adf9e97532c02efdc3e83bf078fffd294d7ed1fed206d648b595b40e96a06", func := "pointsman/pointsmanlaw16.TcpVoid", spec := "tcpVoid", unfollowed := true, recurses := true, plainKeys := false, apart := false, narrowed := true }
def TcpVoidUptoSaid : Prop := tcpVoidUptoRow.holds Tryz.pinned (OpenSpec.upto tcpVoidSpec)

end Rows
end Go.Proofs.YtcemdlihcigagaaGreat
