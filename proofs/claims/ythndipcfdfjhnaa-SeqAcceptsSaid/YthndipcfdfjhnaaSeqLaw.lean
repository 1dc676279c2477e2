/- What the law functions of layer 10 come to: true, whatever the numbers; the world is as it was. Conditions: numbers from 0 to 2^32 - 1, ints of 64 bits. -/
import Derived.Test.YthndipcfdfjhnaaSeqC
import Derived.Test.YthndipcfdfjhnaaAmong
namespace Go.Proofs.Ythndipcfdfjhnaa
open Go.RowKit

theorem works_any (w : World) : Calls Try.prog 19 #[] w fun e w' => e = .returned (.bool true) ∧ w = w' := by
  have h1 := seqAccepts_any 10 5 8 4 w (by omega) (by omega) (by omega) (by omega) (by omega) (by omega) (by omega) (by omega)
  have h2 := seqTrim_any 10 5 8 4 w (by omega) (by omega) (by omega) (by omega) (by omega) (by omega) (by omega) (by omega)
  have h3 := seqWay_any 4294967295 1 w (by omega) (by omega) (by omega) (by omega)
  rw [show Plain.acc 10 5 8 4 = true from by decide, show Plain.err 5 4 = 0 from by decide] at h1
  rw [show Plain.trimA 10 5 8 4 = 2 from by decide, show Plain.trimN 10 5 8 4 = 2 from by decide, show Plain.err 5 4 = 0 from by decide] at h2
  rw [show Plain.way 4294967295 1 = 2 from by decide] at h3
  have H1 := Lib.hid h1
  have H2 := Lib.hid h2
  have H3 := Lib.hid h3
  clear h1 h2 h3
  go_enter Try.func19, Try.ntmps19
  go_wp2_with (first | (go_at_call 20; refine H1.out.mono ?_; rintro e w' ⟨rfl, rfl⟩) | (go_at_call 22; refine H2.out.mono ?_; rintro e w' ⟨rfl, rfl⟩) | (go_at_call 9; refine H3.out.mono ?_; rintro e w' ⟨rfl, rfl⟩))
  go_ret
  exact ⟨rfl, rfl⟩

theorem seqTells_walk (a b c n : Int) (w : World) (a0 : 0 ≤ a) (a1 : a < 4294967296) (b0 : 0 ≤ b) (b1 : b < 4294967296) (c0 : 0 ≤ c) (c1 : c < 4294967296) :
    Calls Try.prog 3 #[.int .u32 a, .int .u32 b, .int .u32 c, .int .i64 n] w fun e w' => e = .returned (.bool true) ∧ w = w' := by
  go_enter Try.func3, Try.ntmps3
  go_wp2_with (first
    | (go_at_call 7; refine (seqAdd_any _ _ _ a0 a1).mono ?_; rintro e w' ⟨rfl, rfl⟩)
    | (go_at_call 8; refine (refAdd_any _ _ _ a0 a1).mono ?_; rintro e w' ⟨rfl, rfl⟩)
    | (go_at_call 9; refine (seqWay_any _ _ _ a0 a1 b0 b1).mono ?_; rintro e w' ⟨rfl, rfl⟩)
    | (go_at_call 10; refine (refWay_any _ _ _ a0 a1 b0 b1).mono ?_; rintro e w' ⟨rfl, rfl⟩)
    | (go_at_call 11; refine (seqAhead_any _ _ _ a0 a1 b0 b1).mono ?_; rintro e w' ⟨rfl, rfl⟩)
    | (go_at_call 12; refine (refAhead_any _ _ _ a0 a1 b0 b1).mono ?_; rintro e w' ⟨rfl, rfl⟩)
    | (go_at_call 13; refine (seqLeast_any _ _ _ a0 a1 b0 b1).mono ?_; rintro e w' ⟨rfl, rfl⟩)
    | (go_at_call 14; refine (refLeast_any _ _ _ a0 a1 b0 b1).mono ?_; rintro e w' ⟨rfl, rfl⟩)
    | (go_at_call 15; refine (seqWithin_any _ _ _ _ a0 a1 b0 b1).mono ?_; rintro e w' ⟨rfl, rfl⟩)
    | (go_at_call 16; refine (refWithin_any _ _ _ _ a0 a1 b0 b1).mono ?_; rintro e w' ⟨rfl, rfl⟩)
    | (go_at_call 17; refine (seqSure_any _ _ _ _ a0 a1 b0 b1 c0 c1).mono ?_; rintro e w' ⟨rfl, rfl⟩)
    | (go_at_call 18; refine (refSure_any _ _ _ _ a0 a1 b0 b1 c0 c1).mono ?_; rintro e w' ⟨rfl, rfl⟩)
    | (go_at_call 19; refine (works_any _).mono ?_; rintro e w' ⟨rfl, rfl⟩))
  go_ret
  exact ⟨rfl, rfl⟩

theorem seqAccepts_walk (next size frm n : Int) (w : World) (a0 : 0 ≤ next) (a1 : next < 4294967296) (b0 : 0 ≤ frm) (b1 : frm < 4294967296) (s0 : -9223372036854775808 ≤ size) (s1 : size ≤ 9223372036854775807) (n0 : -9223372036854775808 ≤ n) (n1 : n ≤ 9223372036854775807) :
    Calls Try.prog 4 #[.int .u32 next, .int .i64 size, .int .u32 frm, .int .i64 n] w fun e w' => e = .returned (.bool true) ∧ w = w' := by
  go_enter Try.func4, Try.ntmps4
  go_wp2_with (first
    | (go_at_call 20; refine (seqAccepts_any _ _ _ _ _ a0 a1 b0 b1 s0 s1 n0 n1).mono ?_; rintro e w' ⟨rfl, rfl⟩)
    | (go_at_call 21; refine (refAccepts_any _ _ _ _ _ a0 a1 b0 b1 s0 s1 n0 n1).mono ?_; rintro e w' ⟨rfl, rfl⟩)
    | (go_at_call 22; refine (seqTrim_any _ _ _ _ _ a0 a1 b0 b1 s0 s1 n0 n1).mono ?_; rintro e w' ⟨rfl, rfl⟩)
    | (go_at_call 23; refine (refTrim_any _ _ _ _ _ a0 a1 b0 b1 s0 s1 n0 n1).mono ?_; rintro e w' ⟨rfl, rfl⟩)
    | (go_at_call 19; refine (works_any _).mono ?_; rintro e w' ⟨rfl, rfl⟩))
  go_ret
  exact ⟨rfl, rfl⟩

set_option maxRecDepth 100000 in
set_option maxHeartbeats 1000000 in
theorem seqRound_walk (a b c d size n : Int) (w : World) (a0 : 0 ≤ a) (a1 : a < 4294967296) (b0 : 0 ≤ b) (b1 : b < 4294967296) (c0 : 0 ≤ c) (c1 : c < 4294967296) (d0 : 0 ≤ d) (d1 : d < 4294967296) (s0 : -9223372036854775808 ≤ size) (s1 : size ≤ 9223372036854775807) (n0 : -9223372036854775808 ≤ n) (n1 : n ≤ 9223372036854775807) :
    Calls Try.prog 5 #[.int .u32 a, .int .u32 b, .int .u32 c, .int .u32 d, .int .i64 size, .int .i64 n] w fun e w' => e = .returned (.bool true) ∧ w = w' := by
  have x0 : 0 ≤ (a + d) % 4294967296 := by omega
  have x1 : (a + d) % 4294967296 < 4294967296 := by omega
  have y0 : 0 ≤ (b + d) % 4294967296 := by omega
  have y1 : (b + d) % 4294967296 < 4294967296 := by omega
  have z0 : 0 ≤ (c + d) % 4294967296 := by omega
  have z1 : (c + d) % 4294967296 < 4294967296 := by omega
  go_enter Try.func5, Try.ntmps5
  go_wp2_with fail
  refine (works_any _).mono ?_
  rintro e w' ⟨rfl, rfl⟩
  go_wp2_with fail
  refine (seqAccepts_any _ _ _ _ _ a0 a1 b0 b1 s0 s1 n0 n1).mono ?_
  rintro e w' ⟨rfl, rfl⟩
  go_wp2_with fail
  refine (seqAccepts_any _ _ _ _ _ x0 x1 y0 y1 s0 s1 n0 n1).mono ?_
  rw [Plain.acc_shift _ _ _ _ _ a0 a1 b0 b1]
  rintro e w' ⟨rfl, rfl⟩
  go_wp2_with fail
  refine (seqTrim_any _ _ _ _ _ a0 a1 b0 b1 s0 s1 n0 n1).mono ?_
  rintro e w' ⟨rfl, rfl⟩
  go_wp2_with fail
  refine (seqTrim_any _ _ _ _ _ x0 x1 y0 y1 s0 s1 n0 n1).mono ?_
  rw [Plain.trimA_shift, Plain.trimN_shift]
  rintro e w' ⟨rfl, rfl⟩
  go_wp2_with fail
  refine (seqWay_any _ _ _ a0 a1 b0 b1).mono ?_
  rintro e w' ⟨rfl, rfl⟩
  go_wp2_with fail
  refine (seqWay_any _ _ _ x0 x1 y0 y1).mono ?_
  rw [Plain.way_shift]
  rintro e w' ⟨rfl, rfl⟩
  go_wp2_with fail
  refine (seqAhead_any _ _ _ a0 a1 b0 b1).mono ?_
  rintro e w' ⟨rfl, rfl⟩
  go_wp2_with fail
  refine (seqAhead_any _ _ _ x0 x1 y0 y1).mono ?_
  rw [Plain.ahead_shift]
  rintro e w' ⟨rfl, rfl⟩
  go_wp2_with fail
  refine (seqLeast_any _ _ _ a0 a1 b0 b1).mono ?_
  rintro e w' ⟨rfl, rfl⟩
  go_wp2_with fail
  refine (seqLeast_any _ _ _ x0 x1 y0 y1).mono ?_
  rw [Plain.least_shift]
  rintro e w' ⟨rfl, rfl⟩
  go_wp2_with fail
  refine (seqSure_any _ _ _ _ a0 a1 b0 b1 c0 c1).mono ?_
  rintro e w' ⟨rfl, rfl⟩
  go_wp2_with fail
  refine (seqSure_any _ _ _ _ x0 x1 y0 y1 z0 z1).mono ?_
  rw [Plain.sure_shift]
  rintro e w' ⟨rfl, rfl⟩
  go_wp2_with fail
  refine (seqWithin_any _ _ _ _ a0 a1 b0 b1).mono ?_
  rintro e w' ⟨rfl, rfl⟩
  go_wp2_with fail
  refine (seqWithin_any _ _ _ _ x0 x1 y0 y1).mono ?_
  rw [Plain.within_shift]
  rintro e w' ⟨rfl, rfl⟩
  go_wp2
  go_ret
  exact ⟨rfl, rfl⟩

set_option maxRecDepth 100000 in
set_option maxHeartbeats 1000000 in
theorem seqTrims_walk (next size frm n : Int) (w : World) (a0 : 0 ≤ next) (a1 : next < 4294967296) (b0 : 0 ≤ frm) (b1 : frm < 4294967296) :
    Calls Try.prog 6 #[.int .u32 next, .int .i64 size, .int .u32 frm, .int .i64 n] w fun e w' => e = .returned (.bool true) ∧ w = w' := by
  go_enter Try.func6, Try.ntmps6
  go_wp2_with fail
  refine (works_any _).mono ?_
  rintro e w' ⟨rfl, rfl⟩
  go_wp2_with fail
  refine (among_any size _ _ (by omega) (by omega)).mono ?_
  rintro e w' ⟨s, hs, rfl, rfl⟩
  go_wp2_with fail
  refine (among_any n _ _ (by omega) (by omega)).mono ?_
  rintro e w' ⟨m, hm, rfl, rfl⟩
  have hs0 : 0 ≤ (s : Int) := by omega
  have hm0 : 0 ≤ (m : Int) := by omega
  have hs1 : (s : Int) ≤ 65535 := by omega
  have hm1 : (m : Int) ≤ 200000 := by omega
  clear hs hm
  generalize (s : Int) = s at *
  generalize (m : Int) = m at *
  obtain ⟨f1, f2, f3, f4, f5⟩ := Plain.trim_facts next s frm m (by omega) (by omega) (by omega) (by omega) b0 b1 a0 a1
  have he : Plain.err s m = 0 := by unfold Plain.err; rw [if_pos (Plain.fits_mk (by omega) (by omega) (by omega) (by omega))]
  have hA := seqTrim_any next s frm m w a0 a1 b0 b1 (by omega) (by omega) (by omega) (by omega)
  have hC := seqAccepts_any next s frm m w a0 a1 b0 b1 (by omega) (by omega) (by omega) (by omega)
  rw [he] at hA hC
  have HA := Lib.hid hA
  have HC := Lib.hid hC
  clear hA hC he
  generalize Plain.trimA next s frm m = A at *
  generalize Plain.trimN next s frm m = M at *
  by_cases hM : M = 0
  · subst hM
    obtain ⟨g1, g2⟩ := f4 rfl
    subst g1
    clear f4 f5
    cases hc : Plain.acc next s frm m
    · rw [hc] at HC
      clear g2 hc
      go_wp2_with fail
      refine HC.out.mono ?_
      rintro e w' ⟨rfl, rfl⟩
      go_wp2_with fail
      refine HA.out.mono ?_
      rintro e w' ⟨rfl, rfl⟩
      go_wp2_with fail
      refine (seqAdd_any _ _ _ b0 b1).mono ?_
      rintro e w' ⟨rfl, rfl⟩
      go_wp2
      go_ret
      exact ⟨rfl, rfl⟩
    · rw [hc] at HC
      have g3 : m = 0 := by rw [hc] at g2; simp at g2; omega
      subst g3
      clear g2 hc
      go_wp2_with fail
      refine HC.out.mono ?_
      rintro e w' ⟨rfl, rfl⟩
      go_wp2_with fail
      refine HA.out.mono ?_
      rintro e w' ⟨rfl, rfl⟩
      go_wp2_with fail
      refine (seqAdd_any _ _ _ b0 b1).mono ?_
      rintro e w' ⟨rfl, rfl⟩
      go_wp2
      go_ret
      exact ⟨rfl, rfl⟩
  · obtain ⟨g1, g2, g3⟩ := f5 hM
    have hMb : (M == 0) = false := by simpa using hM
    have hfin : (Plain.add frm A == next) = true ∨ ((Plain.add frm A == next) = false ∧ (A == 0) = true) := by
      by_cases h : Plain.add frm A = next
      · exact .inl (by simpa using h)
      · exact .inr ⟨by simpa using h, by rcases g3 with g3 | g3; exact absurd g3 h; simpa using g3⟩
    have hr1 := Plain.add_range frm A
    have hr2 := Plain.add_range (Plain.add frm A) (M - 1)
    have G1 := Lib.hid g1
    have G2 := Lib.hid g2
    clear f4 f5 g1 g2 g3 hM
    rcases hfin with hfin | ⟨hfin, hfin2⟩
    all_goals
      go_wp2_with fail
      refine HC.out.mono ?_
      rintro e w' ⟨rfl, rfl⟩
      go_wp2_with fail
      refine HA.out.mono ?_
      rintro e w' ⟨rfl, rfl⟩
      go_wp2_with fail
      refine (seqAdd_any _ _ _ b0 b1).mono ?_
      rintro e w' ⟨rfl, rfl⟩
      go_wp2_with fail
      refine (seqWithin_any _ _ _ _ hr1.1 hr1.2 a0 a1).mono ?_
      rw [G1.out]
      rintro e w' ⟨rfl, rfl⟩
      go_wp2_with fail
      refine (seqAdd_any _ _ _ hr1.1 hr1.2).mono ?_
      rintro e w' ⟨rfl, rfl⟩
      go_wp2_with fail
      refine (seqWithin_any _ _ _ _ hr2.1 hr2.2 a0 a1).mono ?_
      rw [G2.out]
      rintro e w' ⟨rfl, rfl⟩
      go_wp2
      go_ret
      exact ⟨rfl, rfl⟩
end Go.Proofs.Ythndipcfdfjhnaa
