/- A number taken as one from 0 to n - 1. Conditions: n from 1 to 10^9. -/
import Derived.Test.YtemphincefamfaaRows
import Derived.WalkKit
import Derived.WalkSpells
import Derived.WalkLawsBesides
import Derived.Lib.Hide
import Derived.Laws.Bits64
set_option linter.unusedVariables false
set_option linter.unusedSimpArgs false
namespace Go.Proofs.Ytemphincefamfaa
open Go.RowKit

/-- A number below n, and the world as it was. -/
def SomeBelow (n : Int) (w : World) (e : Ending) (w' : World) : Prop := ∃ r : Nat, (r : Int) < n ∧ e = .returned (.int .i64 r) ∧ w = w'

theorem among_any (x n : Int) (w : World) (h1 : 1 ≤ n) (h2 : n ≤ 1000000000) :
    Calls Try.prog 10 #[.int .i64 x, .int .i64 n] w (SomeBelow n w) := by
  have hx : 0 ≤ IntKind.u64.wrap x := by rw [IntKind.wrap_u64]; omega
  have hm0 : 0 ≤ IntKind.u64.wrap x % n := Int.emod_nonneg _ (by omega)
  have hm1 : IntKind.u64.wrap x % n < n := Int.emod_lt_of_pos _ (by omega)
  have hfin : SomeBelow n w (.returned (.int .i64 (IntKind.u64.wrap x % n))) w := ⟨(IntKind.u64.wrap x % n).toNat, by omega, by rw [Int.toNat_of_nonneg hm0], rfl⟩
  have HF := Lib.hid hfin
  clear hfin
  go_enter Try.func10, Try.ntmps10
  go_wp2
  go_ret
  exact HF.out
end Go.Proofs.Ytemphincefamfaa
