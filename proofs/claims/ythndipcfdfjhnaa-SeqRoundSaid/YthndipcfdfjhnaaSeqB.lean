/- What is accepted of a span in a window, and what is left of it: the code's answer and the reference's, that counts number by number, are the same. Conditions: numbers from 0 to 2^32 - 1; sizes are ints. -/
import Derived.Test.YthndipcfdfjhnaaSeq
import Derived.Test.YthndipcfdfjhnaaGoto
namespace Go.Proofs.Ythndipcfdfjhnaa
open Go.RowKit

theorem seqRight_any (size n : Int) (w : World) :
    Calls Try.prog 25 #[.int .i64 size, .int .i64 n] w fun e w' => e = .returned (.bool (Plain.fits size n)) ∧ w = w' := by
  by_cases h1 : 0 ≤ size <;> by_cases h2 : size ≤ 65535 <;> by_cases h3 : 0 ≤ n <;> by_cases h4 : n ≤ 1073741824
  all_goals
    have hv : Plain.fits size n = decide (0 ≤ size ∧ size ≤ 65535 ∧ 0 ≤ n ∧ n ≤ 1073741824) := rfl
    simp only [h1, h2, h3, h4, true_and, and_true, and_false, false_and, decide_true, decide_false] at hv
    have HV := Lib.hid hv
    clear hv
    go_enter Try.func25, Try.ntmps25
    go_wp2
    all_goals go_ret
    all_goals exact ⟨ret_bool (by rw [HV.out] <;> first | rfl | (simp; done) | (simp; omega)), rfl⟩
theorem refRight_any (size n : Int) (w : World) :
    Calls Try.prog 26 #[.int .i64 size, .int .i64 n] w fun e w' => e = .returned (.bool (Plain.fits size n)) ∧ w = w' := by
  by_cases h1 : 0 ≤ size <;> by_cases h2 : size ≤ 65535 <;> by_cases h3 : 0 ≤ n <;> by_cases h4 : n ≤ 1073741824
  all_goals
    have hv : Plain.fits size n = decide (0 ≤ size ∧ size ≤ 65535 ∧ 0 ≤ n ∧ n ≤ 1073741824) := rfl
    simp only [h1, h2, h3, h4, true_and, and_true, and_false, false_and, decide_true, decide_false] at hv
    have HV := Lib.hid hv
    clear hv
    go_enter Try.func26, Try.ntmps26
    go_wp2
    all_goals go_ret
    all_goals exact ⟨ret_bool (by rw [HV.out] <;> first | rfl | (simp; done) | (simp; omega)), rfl⟩

theorem ret_pair {k : IntKind} {a a' : Bool} {b b' : Int} (h : a = a') (g : b = b') : Ending.returned (.tuple #[.bool a, .int k b]) = Ending.returned (.tuple #[.bool a', .int k b']) := by rw [h, g]

theorem seqAccepts_any (next size frm n : Int) (w : World) (a0 : 0 ≤ next) (a1 : next < 4294967296) (b0 : 0 ≤ frm) (b1 : frm < 4294967296) (s0 : -9223372036854775808 ≤ size) (s1 : size ≤ 9223372036854775807) (n0 : -9223372036854775808 ≤ n) (n1 : n ≤ 9223372036854775807) :
    Calls Try.prog 20 #[.int .u32 next, .int .i64 size, .int .u32 frm, .int .i64 n] w fun e w' => e = .returned (.tuple #[.bool (Plain.acc next size frm n), .int .i64 (Plain.err size n)]) ∧ w = w' := by
  have hv : Plain.acc next size frm n = if Plain.fits size n = false then false else if n = 0 then (if size = 0 then frm == next else Plain.within frm next size) else Plain.within frm next size || Plain.within (Plain.add frm (n - 1)) next size := rfl
  have he : Plain.err size n = if Plain.fits size n = true then 0 else 2 := rfl
  have HV := Lib.hid hv
  have HE := Lib.hid he
  clear hv he
  obtain ⟨p0, p1⟩ := Plain.add_range frm (n - 1)
  cases hf : Plain.fits size n
  · have HF := Lib.hid hf
    clear hf
    go_enter Try.func20, Try.ntmps20
    go_wp2_with (go_at_call 25; refine (seqRight_any _ _ _).mono ?_; rw [HF.out]; rintro e w' ⟨rfl, rfl⟩)
    go_ret2
    exact ⟨ret_pair (by rw [HV.out, HF.out]; rfl) (by rw [HE.out, HF.out]; rfl), rfl⟩
  · obtain ⟨h1, h2, h3, h4⟩ := Plain.fits_true hf
    have HF := Lib.hid hf
    clear hf
    by_cases hn : n = 0
    · by_cases hs : size = 0
      · have HN := Lib.hid hn
        have HS := Lib.hid hs
        have e1 : (n == 0) = true := by simpa using hn
        have e2 : (size == 0) = true := by simpa using hs
        clear hn hs
        go_enter Try.func20, Try.ntmps20
        go_wp2_with (go_at_call 25; refine (seqRight_any _ _ _).mono ?_; rw [HF.out]; rintro e w' ⟨rfl, rfl⟩)
        go_ret2
        exact ⟨ret_pair (by rw [HV.out, HF.out, if_neg (by simp), if_pos HN.out, if_pos HS.out]) (by rw [HE.out, HF.out]; rfl), rfl⟩
      · have HN := Lib.hid hn
        have e1 : (n == 0) = true := by simpa using hn
        have e2 : (size == 0) = false := by simpa using hs
        have HS := Lib.hid hs
        clear hn hs
        go_enter Try.func20, Try.ntmps20
        go_wp2_with (first | (go_at_call 25; refine (seqRight_any _ _ _).mono ?_; rw [HF.out]; rintro e w' ⟨rfl, rfl⟩) | (go_at_call 15; refine (seqWithin_any _ _ _ _ b0 b1 a0 a1).mono ?_; rintro e w' ⟨rfl, rfl⟩))
        go_ret2
        exact ⟨ret_pair (by rw [HV.out, HF.out, if_neg (by simp), if_pos HN.out, if_neg HS.out]) (by rw [HE.out, HF.out]; rfl), rfl⟩
    · have e1 : (n == 0) = false := by simpa using hn
      have HN := Lib.hid hn
      clear hn
      cases hw : Plain.within frm next size
      all_goals
        have HW := Lib.hid hw
        clear hw
        go_enter Try.func20, Try.ntmps20
        go_wp2_with fail
        refine (seqRight_any _ _ _).mono ?_
        rw [HF.out]
        rintro e w' ⟨rfl, rfl⟩
        go_wp2_with fail
        refine (seqWithin_any _ _ _ _ b0 b1 a0 a1).mono ?_
        rw [HW.out]
        rintro e w' ⟨rfl, rfl⟩
        go_wp2_with (first | (go_at_call 7; refine (seqAdd_any _ _ _ b0 b1).mono ?_; rintro e w' ⟨rfl, rfl⟩) | (go_at_call 15; refine (seqWithin_any _ _ _ _ p0 p1 a0 a1).mono ?_; rintro e w' ⟨rfl, rfl⟩))
        go_ret2
        exact ⟨ret_pair (by rw [HV.out, HF.out, if_neg (by simp), if_neg HN.out, HW.out] <;> simp) (by rw [HE.out, HF.out]; rfl), rfl⟩
theorem refAccepts_any (next size frm n : Int) (w : World) (a0 : 0 ≤ next) (a1 : next < 4294967296) (b0 : 0 ≤ frm) (b1 : frm < 4294967296) (s0 : -9223372036854775808 ≤ size) (s1 : size ≤ 9223372036854775807) (n0 : -9223372036854775808 ≤ n) (n1 : n ≤ 9223372036854775807) :
    Calls Try.prog 21 #[.int .u32 next, .int .i64 size, .int .u32 frm, .int .i64 n] w fun e w' => e = .returned (.tuple #[.bool (Plain.acc next size frm n), .int .i64 (Plain.err size n)]) ∧ w = w' := by
  have hv : Plain.acc next size frm n = if Plain.fits size n = false then false else if n = 0 then (if size = 0 then frm == next else Plain.within frm next size) else Plain.within frm next size || Plain.within (Plain.add frm (n - 1)) next size := rfl
  have he : Plain.err size n = if Plain.fits size n = true then 0 else 2 := rfl
  have HV := Lib.hid hv
  have HE := Lib.hid he
  clear hv he
  obtain ⟨p0, p1⟩ := Plain.add_range frm (n - 1)
  cases hf : Plain.fits size n
  · have HF := Lib.hid hf
    clear hf
    go_enter Try.func21, Try.ntmps21
    go_wp2_with (go_at_call 26; refine (refRight_any _ _ _).mono ?_; rw [HF.out]; rintro e w' ⟨rfl, rfl⟩)
    go_ret2
    exact ⟨ret_pair (by rw [HV.out, HF.out]; rfl) (by rw [HE.out, HF.out]; rfl), rfl⟩
  · obtain ⟨h1, h2, h3, h4⟩ := Plain.fits_true hf
    have HF := Lib.hid hf
    clear hf
    by_cases hn : n = 0
    · by_cases hs : size = 0
      · have HN := Lib.hid hn
        have HS := Lib.hid hs
        have e1 : (n == 0) = true := by simpa using hn
        have e2 : (size == 0) = true := by simpa using hs
        clear hn hs
        go_enter Try.func21, Try.ntmps21
        go_wp2_with (go_at_call 26; refine (refRight_any _ _ _).mono ?_; rw [HF.out]; rintro e w' ⟨rfl, rfl⟩)
        go_ret2
        exact ⟨ret_pair (by rw [HV.out, HF.out, if_neg (by simp), if_pos HN.out, if_pos HS.out]) (by rw [HE.out, HF.out]; rfl), rfl⟩
      · have HN := Lib.hid hn
        have e1 : (n == 0) = true := by simpa using hn
        have e2 : (size == 0) = false := by simpa using hs
        have HS := Lib.hid hs
        clear hn hs
        go_enter Try.func21, Try.ntmps21
        go_wp2_with (first | (go_at_call 26; refine (refRight_any _ _ _).mono ?_; rw [HF.out]; rintro e w' ⟨rfl, rfl⟩) | (go_at_call 16; refine (refWithin_any _ _ _ _ b0 b1 a0 a1).mono ?_; rintro e w' ⟨rfl, rfl⟩))
        go_ret2
        exact ⟨ret_pair (by rw [HV.out, HF.out, if_neg (by simp), if_pos HN.out, if_neg HS.out]) (by rw [HE.out, HF.out]; rfl), rfl⟩
    · have e1 : (n == 0) = false := by simpa using hn
      have HN := Lib.hid hn
      clear hn
      cases hw : Plain.within frm next size
      all_goals
        have HW := Lib.hid hw
        clear hw
        go_enter Try.func21, Try.ntmps21
        go_wp2_with fail
        refine (refRight_any _ _ _).mono ?_
        rw [HF.out]
        rintro e w' ⟨rfl, rfl⟩
        go_wp2_with fail
        refine (refWithin_any _ _ _ _ b0 b1 a0 a1).mono ?_
        rw [HW.out]
        rintro e w' ⟨rfl, rfl⟩
        go_wp2_with (first | (go_at_call 8; refine (refAdd_any _ _ _ b0 b1).mono ?_; rintro e w' ⟨rfl, rfl⟩) | (go_at_call 16; refine (refWithin_any _ _ _ _ p0 p1 a0 a1).mono ?_; rintro e w' ⟨rfl, rfl⟩))
        go_ret2
        exact ⟨ret_pair (by rw [HV.out, HF.out, if_neg (by simp), if_neg HN.out, HW.out] <;> simp) (by rw [HE.out, HF.out]; rfl), rfl⟩
end Go.Proofs.Ythndipcfdfjhnaa
