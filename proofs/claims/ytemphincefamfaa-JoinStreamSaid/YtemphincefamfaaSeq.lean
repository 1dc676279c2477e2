/- What the functions of package seq, and the reference's, come to: they tell ways, windows and what is left of a span. Conditions: numbers from 0 to 2^32 - 1; sizes are ints. -/
import Derived.Test.YtemphincefamfaaRows
import Derived.Test.YtemphincefamfaaPlain10
import Derived.WalkKit
import Derived.Outline
import Derived.WalkSpells
import Derived.WalkLawsBesides
import Derived.Lib.Hide
import Derived.Laws.Bits64
set_option linter.unusedVariables false
set_option linter.unusedSimpArgs false
namespace Go.Proofs.Ytemphincefamfaa
open Go.RowKit

theorem ret_int {k : IntKind} {a b : Int} (h : a = b) : Ending.returned (.int k a) = Ending.returned (.int k b) := by rw [h]
theorem ret_bool {a b : Bool} (h : a = b) : Ending.returned (.bool a) = Ending.returned (.bool b) := by rw [h]

theorem seqWay_any (a b : Int) (w : World) (a0 : 0 ≤ a) (a1 : a < 4294967296) (b0 : 0 ≤ b) (b1 : b < 4294967296) :
    Calls Try.prog 25 #[.int .u32 a, .int .u32 b] w fun e w' => e = .returned (.int .u32 (Plain.way a b)) ∧ w = w' := by
  go_enter Try.func25, Try.ntmps25
  go_wp2
  go_ret
  exact ⟨ret_int (by unfold Plain.way; omega), rfl⟩
theorem refWay_any (a b : Int) (w : World) (a0 : 0 ≤ a) (a1 : a < 4294967296) (b0 : 0 ≤ b) (b1 : b < 4294967296) :
    Calls Try.prog 29 #[.int .u32 a, .int .u32 b] w fun e w' => e = .returned (.int .u32 (Plain.way a b)) ∧ w = w' := by
  by_cases h : a ≤ b
  · go_enter Try.func29, Try.ntmps29
    go_wp2
    go_ret
    exact ⟨ret_int (by unfold Plain.way; omega), rfl⟩
  · go_enter Try.func29, Try.ntmps29
    go_wp2
    go_ret
    exact ⟨ret_int (by unfold Plain.way; omega), rfl⟩
theorem seqAdd_any (a n : Int) (w : World) (a0 : 0 ≤ a) (a1 : a < 4294967296) :
    Calls Try.prog 26 #[.int .u32 a, .int .i64 n] w fun e w' => e = .returned (.int .u32 (Plain.add a n)) ∧ w = w' := by
  go_enter Try.func26, Try.ntmps26
  go_wp2
  go_ret
  exact ⟨ret_int (by unfold Plain.add; omega), rfl⟩
theorem refAdd_any (a n : Int) (w : World) (a0 : 0 ≤ a) (a1 : a < 4294967296) :
    Calls Try.prog 30 #[.int .u32 a, .int .i64 n] w fun e w' => e = .returned (.int .u32 (Plain.add a n)) ∧ w = w' := by
  go_enter Try.func30, Try.ntmps30
  go_wp2
  go_ret
  exact ⟨ret_int (by rw [IntKind.wrap_u64, IntKind.wrap_u64]; unfold Plain.add; omega), rfl⟩

theorem seqWithin_any (a frm size : Int) (w : World) (a0 : 0 ≤ a) (a1 : a < 4294967296) (b0 : 0 ≤ frm) (b1 : frm < 4294967296) :
    Calls Try.prog 33 #[.int .u32 a, .int .u32 frm, .int .i64 size] w fun e w' => e = .returned (.bool (Plain.within a frm size)) ∧ w = w' := by
  obtain ⟨r0, r1⟩ := Plain.way_range frm a
  by_cases h1 : 0 ≤ size <;> by_cases h2 : size ≤ 65535 <;> by_cases h3 : Plain.way frm a < size
  all_goals
    have hv : Plain.within a frm size = decide (0 ≤ size ∧ size ≤ 65535 ∧ Plain.way frm a < size) := rfl
    simp only [h1, h2, h3, true_and, and_true, and_false, false_and, decide_true, decide_false] at hv
    have HV := Lib.hid hv
    clear hv
    go_enter Try.func33, Try.ntmps33
    go_wp2_with (go_at_call 25; refine (seqWay_any _ _ _ b0 b1 a0 a1).mono ?_; rintro e w' ⟨rfl, rfl⟩)
    all_goals go_ret
    all_goals exact ⟨ret_bool (by rw [HV.out] <;> first | rfl | (simp; done) | (simp; omega)), rfl⟩
end Go.Proofs.Ytemphincefamfaa
