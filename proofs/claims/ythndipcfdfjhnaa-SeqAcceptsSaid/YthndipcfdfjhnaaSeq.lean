/- What the functions of package seq, and the reference's, come to: they tell ways, windows and what is left of a span. Conditions: numbers from 0 to 2^32 - 1; sizes are ints. -/
import Derived.Test.YthndipcfdfjhnaaRows
import Derived.Test.YthndipcfdfjhnaaPlain10
import Derived.WalkKit
import Derived.Outline
import Derived.WalkSpells
import Derived.WalkLawsBesides
import Derived.Lib.Hide
import Derived.Laws.Bits64
namespace Go.Proofs.Ythndipcfdfjhnaa
open Go.RowKit

theorem ret_int {k : IntKind} {a b : Int} (h : a = b) : Ending.returned (.int k a) = Ending.returned (.int k b) := by rw [h]
theorem ret_bool {a b : Bool} (h : a = b) : Ending.returned (.bool a) = Ending.returned (.bool b) := by rw [h]

theorem seqWay_any (a b : Int) (w : World) (a0 : 0 ≤ a) (a1 : a < 4294967296) (b0 : 0 ≤ b) (b1 : b < 4294967296) :
    Calls Try.prog 9 #[.int .u32 a, .int .u32 b] w fun e w' => e = .returned (.int .u32 (Plain.way a b)) ∧ w = w' := by
  go_enter Try.func9, Try.ntmps9
  go_wp2
  go_ret
  exact ⟨ret_int (by unfold Plain.way; omega), rfl⟩
theorem refWay_any (a b : Int) (w : World) (a0 : 0 ≤ a) (a1 : a < 4294967296) (b0 : 0 ≤ b) (b1 : b < 4294967296) :
    Calls Try.prog 10 #[.int .u32 a, .int .u32 b] w fun e w' => e = .returned (.int .u32 (Plain.way a b)) ∧ w = w' := by
  by_cases h : a ≤ b
  · go_enter Try.func10, Try.ntmps10
    go_wp2
    go_ret
    exact ⟨ret_int (by unfold Plain.way; omega), rfl⟩
  · go_enter Try.func10, Try.ntmps10
    go_wp2
    go_ret
    exact ⟨ret_int (by unfold Plain.way; omega), rfl⟩
theorem seqAdd_any (a n : Int) (w : World) (a0 : 0 ≤ a) (a1 : a < 4294967296) :
    Calls Try.prog 7 #[.int .u32 a, .int .i64 n] w fun e w' => e = .returned (.int .u32 (Plain.add a n)) ∧ w = w' := by
  go_enter Try.func7, Try.ntmps7
  go_wp2
  go_ret
  exact ⟨ret_int (by unfold Plain.add; omega), rfl⟩
theorem refAdd_any (a n : Int) (w : World) (a0 : 0 ≤ a) (a1 : a < 4294967296) :
    Calls Try.prog 8 #[.int .u32 a, .int .i64 n] w fun e w' => e = .returned (.int .u32 (Plain.add a n)) ∧ w = w' := by
  go_enter Try.func8, Try.ntmps8
  go_wp2
  go_ret
  exact ⟨ret_int (by rw [IntKind.wrap_u64, IntKind.wrap_u64]; unfold Plain.add; omega), rfl⟩

theorem seqAhead_any (a b : Int) (w : World) (a0 : 0 ≤ a) (a1 : a < 4294967296) (b0 : 0 ≤ b) (b1 : b < 4294967296) :
    Calls Try.prog 11 #[.int .u32 a, .int .u32 b] w fun e w' => e = .returned (.bool (Plain.ahead a b)) ∧ w = w' := by
  obtain ⟨r0, r1⟩ := Plain.way_range a b
  by_cases h1 : 1 ≤ Plain.way a b <;> by_cases h2 : Plain.way a b < 2147483648
  all_goals
    have hv : Plain.ahead a b = decide (1 ≤ Plain.way a b ∧ Plain.way a b < 2147483648) := rfl
    simp only [h1, h2, true_and, and_true, and_false, false_and, decide_true, decide_false] at hv
    have HV := Lib.hid hv
    clear hv
    go_enter Try.func11, Try.ntmps11
    go_wp2_with (go_at_call 9; refine (seqWay_any _ _ _ a0 a1 b0 b1).mono ?_; rintro e w' ⟨rfl, rfl⟩)
    all_goals go_ret
    all_goals exact ⟨ret_bool (by rw [HV.out] <;> first | rfl | (simp; done) | (simp; omega)), rfl⟩
theorem refAhead_any (a b : Int) (w : World) (a0 : 0 ≤ a) (a1 : a < 4294967296) (b0 : 0 ≤ b) (b1 : b < 4294967296) :
    Calls Try.prog 12 #[.int .u32 a, .int .u32 b] w fun e w' => e = .returned (.bool (Plain.ahead a b)) ∧ w = w' := by
  obtain ⟨r0, r1⟩ := Plain.way_range a b
  by_cases h1 : 1 ≤ Plain.way a b <;> by_cases h2 : Plain.way a b < 2147483648
  all_goals
    have hv : Plain.ahead a b = decide (1 ≤ Plain.way a b ∧ Plain.way a b < 2147483648) := rfl
    simp only [h1, h2, true_and, and_true, and_false, false_and, decide_true, decide_false] at hv
    have HV := Lib.hid hv
    clear hv
    go_enter Try.func12, Try.ntmps12
    go_wp2_with (go_at_call 10; refine (refWay_any _ _ _ a0 a1 b0 b1).mono ?_; rintro e w' ⟨rfl, rfl⟩)
    all_goals go_ret
    all_goals exact ⟨ret_bool (by rw [HV.out] <;> first | rfl | (simp; done) | (simp; omega)), rfl⟩
theorem seqLeast_any (a b : Int) (w : World) (a0 : 0 ≤ a) (a1 : a < 4294967296) (b0 : 0 ≤ b) (b1 : b < 4294967296) :
    Calls Try.prog 13 #[.int .u32 a, .int .u32 b] w fun e w' => e = .returned (.int .u32 (Plain.least a b)) ∧ w = w' := by
  have hv : Plain.least a b = if Plain.ahead b a = true then b else a := rfl
  have HV := Lib.hid hv
  clear hv
  cases hb : Plain.ahead b a
  all_goals
    have HB := Lib.hid hb
    clear hb
    go_enter Try.func13, Try.ntmps13
    go_wp2_with (go_at_call 11; refine (seqAhead_any _ _ _ b0 b1 a0 a1).mono ?_; rw [HB.out]; rintro e w' ⟨rfl, rfl⟩)
    go_ret
    exact ⟨ret_int (by rw [HV.out, HB.out]; rfl), rfl⟩
theorem refLeast_any (a b : Int) (w : World) (a0 : 0 ≤ a) (a1 : a < 4294967296) (b0 : 0 ≤ b) (b1 : b < 4294967296) :
    Calls Try.prog 14 #[.int .u32 a, .int .u32 b] w fun e w' => e = .returned (.int .u32 (Plain.least a b)) ∧ w = w' := by
  have hv : Plain.least a b = if Plain.ahead b a = true then b else a := rfl
  have HV := Lib.hid hv
  clear hv
  cases hb : Plain.ahead b a
  all_goals
    have HB := Lib.hid hb
    clear hb
    go_enter Try.func14, Try.ntmps14
    go_wp2_with (go_at_call 12; refine (refAhead_any _ _ _ b0 b1 a0 a1).mono ?_; rw [HB.out]; rintro e w' ⟨rfl, rfl⟩)
    go_ret
    exact ⟨ret_int (by rw [HV.out, HB.out]; rfl), rfl⟩
theorem seqWithin_any (a frm size : Int) (w : World) (a0 : 0 ≤ a) (a1 : a < 4294967296) (b0 : 0 ≤ frm) (b1 : frm < 4294967296) :
    Calls Try.prog 15 #[.int .u32 a, .int .u32 frm, .int .i64 size] w fun e w' => e = .returned (.bool (Plain.within a frm size)) ∧ w = w' := by
  obtain ⟨r0, r1⟩ := Plain.way_range frm a
  by_cases h1 : 0 ≤ size <;> by_cases h2 : size ≤ 65535 <;> by_cases h3 : Plain.way frm a < size
  all_goals
    have hv : Plain.within a frm size = decide (0 ≤ size ∧ size ≤ 65535 ∧ Plain.way frm a < size) := rfl
    simp only [h1, h2, h3, true_and, and_true, and_false, false_and, decide_true, decide_false] at hv
    have HV := Lib.hid hv
    clear hv
    go_enter Try.func15, Try.ntmps15
    go_wp2_with (go_at_call 9; refine (seqWay_any _ _ _ b0 b1 a0 a1).mono ?_; rintro e w' ⟨rfl, rfl⟩)
    all_goals go_ret
    all_goals exact ⟨ret_bool (by rw [HV.out] <;> first | rfl | (simp; done) | (simp; omega)), rfl⟩
theorem refWithin_any (a frm size : Int) (w : World) (a0 : 0 ≤ a) (a1 : a < 4294967296) (b0 : 0 ≤ frm) (b1 : frm < 4294967296) :
    Calls Try.prog 16 #[.int .u32 a, .int .u32 frm, .int .i64 size] w fun e w' => e = .returned (.bool (Plain.within a frm size)) ∧ w = w' := by
  obtain ⟨r0, r1⟩ := Plain.way_range frm a
  by_cases h1 : 0 ≤ size <;> by_cases h2 : size ≤ 65535 <;> by_cases h3 : Plain.way frm a < size
  all_goals
    have hv : Plain.within a frm size = decide (0 ≤ size ∧ size ≤ 65535 ∧ Plain.way frm a < size) := rfl
    simp only [h1, h2, h3, true_and, and_true, and_false, false_and, decide_true, decide_false] at hv
    have HV := Lib.hid hv
    clear hv
    go_enter Try.func16, Try.ntmps16
    go_wp2_with (go_at_call 10; refine (refWay_any _ _ _ b0 b1 a0 a1).mono ?_; rintro e w' ⟨rfl, rfl⟩)
    all_goals go_ret
    all_goals exact ⟨ret_bool (by rw [HV.out] <;> first | rfl | (simp; done) | (simp; omega)), rfl⟩
theorem seqSure_any (a b c : Int) (w : World) (a0 : 0 ≤ a) (a1 : a < 4294967296) (b0 : 0 ≤ b) (b1 : b < 4294967296) (c0 : 0 ≤ c) (c1 : c < 4294967296) :
    Calls Try.prog 17 #[.int .u32 a, .int .u32 b, .int .u32 c] w fun e w' => e = .returned (.bool (Plain.sure a b c)) ∧ w = w' := by
  obtain ⟨r0, r1⟩ := Plain.way_range a b
  obtain ⟨q0, q1⟩ := Plain.way_range a c
  by_cases h1 : 1 ≤ Plain.way a c <;> by_cases h2 : Plain.way a c ≤ Plain.way a b
  all_goals
    have hv : Plain.sure a b c = decide (1 ≤ Plain.way a c ∧ Plain.way a c ≤ Plain.way a b) := rfl
    simp only [h1, h2, true_and, and_true, and_false, false_and, decide_true, decide_false] at hv
    have HV := Lib.hid hv
    clear hv
    go_enter Try.func17, Try.ntmps17
    go_wp2_with (first | (go_at_call 9; (with_reducible refine (seqWay_any a b _ a0 a1 b0 b1).mono ?_); rintro e w' ⟨rfl, rfl⟩) | (go_at_call 9; (with_reducible refine (seqWay_any a c _ a0 a1 c0 c1).mono ?_); rintro e w' ⟨rfl, rfl⟩))
    all_goals go_ret
    all_goals exact ⟨ret_bool (by rw [HV.out] <;> first | rfl | (simp; done) | (simp; omega)), rfl⟩
theorem refSure_any (a b c : Int) (w : World) (a0 : 0 ≤ a) (a1 : a < 4294967296) (b0 : 0 ≤ b) (b1 : b < 4294967296) (c0 : 0 ≤ c) (c1 : c < 4294967296) :
    Calls Try.prog 18 #[.int .u32 a, .int .u32 b, .int .u32 c] w fun e w' => e = .returned (.bool (Plain.sure a b c)) ∧ w = w' := by
  obtain ⟨r0, r1⟩ := Plain.way_range a b
  obtain ⟨q0, q1⟩ := Plain.way_range a c
  by_cases h1 : 1 ≤ Plain.way a c <;> by_cases h2 : Plain.way a c ≤ Plain.way a b
  all_goals
    have hv : Plain.sure a b c = decide (1 ≤ Plain.way a c ∧ Plain.way a c ≤ Plain.way a b) := rfl
    simp only [h1, h2, true_and, and_true, and_false, false_and, decide_true, decide_false] at hv
    have HV := Lib.hid hv
    clear hv
    go_enter Try.func18, Try.ntmps18
    go_wp2_with (first | (go_at_call 10; (with_reducible refine (refWay_any a b _ a0 a1 b0 b1).mono ?_); rintro e w' ⟨rfl, rfl⟩) | (go_at_call 10; (with_reducible refine (refWay_any a c _ a0 a1 c0 c1).mono ?_); rintro e w' ⟨rfl, rfl⟩))
    all_goals go_ret
    all_goals exact ⟨ret_bool (by rw [HV.out] <;> first | rfl | (simp; done) | (simp; omega)), rfl⟩
end Go.Proofs.Ythndipcfdfjhnaa
