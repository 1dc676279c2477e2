/- What is accepted of a span in a window, and what is left of it: the code's answer and the reference's, that counts number by number, are the same. Conditions: numbers from 0 to 2^32 - 1; sizes are ints. -/
import Derived.Test.YtemphincefamfaaSeq
import Derived.Test.YtemphincefamfaaGoto
set_option linter.unusedVariables false
set_option linter.unusedSimpArgs false
namespace Go.Proofs.Ytemphincefamfaa
open Go.RowKit

theorem seqRight_any (size n : Int) (w : World) :
    Calls Try.prog 32 #[.int .i64 size, .int .i64 n] w fun e w' => e = .returned (.bool (Plain.fits size n)) ∧ w = w' := by
  by_cases h1 : 0 ≤ size <;> by_cases h2 : size ≤ 65535 <;> by_cases h3 : 0 ≤ n <;> by_cases h4 : n ≤ 1073741824
  all_goals
    have hv : Plain.fits size n = decide (0 ≤ size ∧ size ≤ 65535 ∧ 0 ≤ n ∧ n ≤ 1073741824) := rfl
    simp only [h1, h2, h3, h4, true_and, and_true, and_false, false_and, decide_true, decide_false] at hv
    have HV := Lib.hid hv
    clear hv
    go_enter Try.func32, Try.ntmps32
    go_wp2
    all_goals go_ret
    all_goals exact ⟨ret_bool (by rw [HV.out] <;> first | rfl | (simp; done) | (simp; omega)), rfl⟩
theorem ret_pair {k : IntKind} {a a' : Bool} {b b' : Int} (h : a = a') (g : b = b') : Ending.returned (.tuple #[.bool a, .int k b]) = Ending.returned (.tuple #[.bool a', .int k b']) := by rw [h, g]

end Go.Proofs.Ytemphincefamfaa
