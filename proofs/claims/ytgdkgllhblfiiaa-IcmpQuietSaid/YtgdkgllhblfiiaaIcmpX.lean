/- What icmp complains about, as a contract. No conditions but those that each names. -/
import Derived.Test.YtgdkgllhblfiiaaIcmpT
import Derived.Test.YtgdkgllhblfiiaaIcmpU
import Derived.Test.YtgdkgllhblfiiaaIcmpW
set_option linter.unusedVariables false
set_option linter.unusedSimpArgs false
namespace Go.Proofs.Ytgdkgllhblfiiaa.Ex
open Go Go.RowKit
theorem complain_ok {ε : Nat → Option Value} {base : Base} {S : Abs} {pk : PkF} (O : AbsOk S) (K : PkOk pk) (E : Env Try.prog ε base [(31, (ipbuildC nonz isz pk)), (10, ireadW S), (8, ibuildW S)]) : EntOk Try.prog ε base 20 (complainW S pk) := by
  intro j args h n r p e hp
  rcases j with _ | _ | j
  · exact complain_0 O K E args h n r p e hp
  · exact complain_1 O K E args h n r p e hp
  · exact complain_2 O K E args h n r p e hp
theorem complainE1 {ε : Nat → Option Value} {base : Base} (hε : ∀ i V, ε i = some V → one V = true) : EntOk Try.prog ε base 20 (complainW S0 (pkOf sumL)) := by
  have F1 : Env Try.prog ε base [(25, ofW sumL)] := ⟨hε, noCount_of hN, hmix, specs1 sumOf_ok specs0, dets1 of_det dets0⟩
  have G1 := ipbuildC_code (ipbuild_ok sumL_range F1)
  exact complain_ok absOk pkOk ⟨hε, noCount_of hN, hmix, specs1 G1 (specs1 (iread_ok hε) (specs1 (ibuild_ok hε) specs0)), dets1 (code_det _) (dets1 iread_det (dets1 ibuild_det dets0))⟩
end Go.Proofs.Ytgdkgllhblfiiaa.Ex
