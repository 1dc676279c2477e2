/- A number taken as one from 0 to n - 1, for the reckoner; what it may know of calls. Conditions: n from 1 to 10^9. -/
import Derived.Test.YtnnnoomokbiobaaExO
import Derived.Test.YtnnnoomokbiobaaRows
import Derived.WalkKit
import Derived.WalkSpells
import Derived.WalkLawsBesides
import Derived.Lib.Hide
import Derived.Laws.Bits64
set_option linter.unusedVariables false
set_option linter.unusedSimpArgs false
namespace Go.Proofs.Ytnnnoomokbiobaa
open Go.RowKit

def IsMod (x n : Int) (w : World) (e : Ending) (w' : World) : Prop := e = .returned (.int .i64 (IntKind.u64.wrap x % n)) ∧ w' = w

theorem among_is (x n : Int) (w : World) (h1 : 1 ≤ n) (h2 : n ≤ 1000000000) :
    Calls Try.prog 20 #[.int .i64 x, .int .i64 n] w (IsMod x n w) := by
  have hx : 0 ≤ IntKind.u64.wrap x := by rw [IntKind.wrap_u64]; omega
  have hm0 : 0 ≤ IntKind.u64.wrap x % n := Int.emod_nonneg _ (by omega)
  have hm1 : IntKind.u64.wrap x % n < n := Int.emod_lt_of_pos _ (by omega)
  have hfin : IsMod x n w (.returned (.int .i64 (IntKind.u64.wrap x % n))) w := ⟨rfl, rfl⟩
  have HF := Lib.hid hfin
  clear hfin
  go_enter Try.func20, Try.ntmps20
  go_wp2
  go_ret
  exact HF.out
/-- A number as one below n. -/
def among (x : Int) (n : Nat) : Nat := (IntKind.u64.wrap x % (n : Int)).toNat
theorem among_lt (x : Int) {n : Nat} (h : 0 < n) : among x n < n := by
  have hm0 : 0 ≤ IntKind.u64.wrap x % (n : Int) := Int.emod_nonneg _ (by omega)
  have hm1 : IntKind.u64.wrap x % (n : Int) < n := Int.emod_lt_of_pos _ (by omega)
  unfold among; omega
namespace Ex
theorem orc_nil {P : Program} {ε : Nat → Option Value} : OrcOk P ε [] := fun _ h => by cases h
theorem orc_works {ε : Nat → Option Value} {f : Nat} {tb : Orc} (h : ∀ w, Calls Try.prog f #[] w fun e w' => e = .returned (.bool true) ∧ Below w.heap.size w w') (ho : OrcOk Try.prog ε tb) : OrcOk Try.prog ε ((f, none, .bool true) :: tb) := by
  intro e he
  rcases List.mem_cons.1 he with rfl | he
  · exact ⟨rfl, h⟩
  · exact ho e he
theorem orc_among {ε : Nat → Option Value} {x : Int} {i n : Nat} {tb : Orc} (hx : ε i = some (.int .i64 x)) (h1 : 1 ≤ n) (h2 : n ≤ 1000000000) (ho : OrcOk Try.prog ε tb) : OrcOk Try.prog ε ((20, some (i, n), .int .i64 (among x n : Nat)) :: tb) := by
  intro e he
  rcases List.mem_cons.1 he with rfl | he
  · refine ⟨rfl, fun V hV w => ?_⟩
    have : V = .int .i64 x := by rw [hx] at hV; cases hV; rfl
    subst this
    refine (among_is x n w (by omega) (by omega)).mono fun e w' he => ?_
    obtain ⟨rfl, rfl⟩ := he
    have hm0 : 0 ≤ IntKind.u64.wrap x % (n : Int) := Int.emod_nonneg _ (by omega)
    refine ⟨?_, Below.refl _ _⟩
    show Ending.returned (.int .i64 (IntKind.u64.wrap x % (n : Int))) = .returned (.int .i64 ((IntKind.u64.wrap x % (n : Int)).toNat : Nat))
    rw [Int.toNat_of_nonneg hm0]
  · exact ho e he
end Ex
end Go.Proofs.Ytnnnoomokbiobaa
