/- What is left of a span in a window: the code's answer, and the reference's, that counts number by number. Conditions: numbers from 0 to 2^32 - 1; sizes are ints. -/
import Derived.Test.YtemphincefamfaaSeqB
set_option linter.unusedVariables false
set_option linter.unusedSimpArgs false
namespace Go.Proofs.Ytemphincefamfaa
open Go.RowKit

theorem ret_three {k k' k'' : IntKind} {a a' b b' c c' : Int} (h : a = a') (g : b = b') (i : c = c') : Ending.returned (.tuple #[.int k a, .int k' b, .int k'' c]) = Ending.returned (.tuple #[.int k a', .int k' b', .int k'' c']) := by rw [h, g, i]

theorem seqTrim_any (next size frm n : Int) (w : World) (a0 : 0 ≤ next) (a1 : next < 4294967296) (b0 : 0 ≤ frm) (b1 : frm < 4294967296) (s0 : -9223372036854775808 ≤ size) (s1 : size ≤ 9223372036854775807) (n0 : -9223372036854775808 ≤ n) (n1 : n ≤ 9223372036854775807) :
    Calls Try.prog 24 #[.int .u32 next, .int .i64 size, .int .u32 frm, .int .i64 n] w fun e w' => e = .returned (.tuple #[.int .i64 (Plain.trimA next size frm n), .int .i64 (Plain.trimN next size frm n), .int .i64 (Plain.err size n)]) ∧ w = w' := by
  have hv : Plain.trimA next size frm n = if Plain.fits size n = true ∧ n ≠ 0 ∧ size ≠ 0 ∧ Plain.within frm next size = false ∧ Plain.way frm next < n then Plain.way frm next else 0 := rfl
  have hu : Plain.trimN next size frm n = if Plain.fits size n = true ∧ n ≠ 0 ∧ size ≠ 0 then (if Plain.within frm next size = true then min n (size - Plain.way next frm) else if Plain.way frm next < n then min (n - Plain.way frm next) size else 0) else 0 := rfl
  have he : Plain.err size n = if Plain.fits size n = true then 0 else 2 := rfl
  have HV := Lib.hid hv
  have HU := Lib.hid hu
  have HE := Lib.hid he
  clear hv hu he
  obtain ⟨p0, p1⟩ := Plain.way_range frm next
  obtain ⟨q0, q1⟩ := Plain.way_range next frm
  cases hf : Plain.fits size n
  · have HF := Lib.hid hf
    clear hf
    go_enter Try.func24, Try.ntmps24
    go_wp2
    refine wp_scope_ahead 1 ?_
    go_wp2_with (go_at_call 32; refine (seqRight_any _ _ _).mono ?_; rw [HF.out]; rintro e w' ⟨rfl, rfl⟩)
    rw [hops_ret]
    go_ret3
    exact ⟨ret_three (by rw [HV.out, HF.out]; simp) (by rw [HU.out, HF.out]; simp) (by rw [HE.out, HF.out]; rfl), rfl⟩
  · obtain ⟨h1, h2, h3, h4⟩ := Plain.fits_true hf
    have HF := Lib.hid hf
    clear hf
    by_cases hn : n = 0 ∨ size = 0
    · have e3 : ((n == 0) = true) ∨ ((n == 0) = false ∧ (size == 0) = true) := by
        rcases hn with hn | hn
        · exact .inl (by simpa using hn)
        · by_cases h0 : n = 0
          · exact .inl (by simpa using h0)
          · exact .inr ⟨by simpa using h0, by simpa using hn⟩
      have HA : Plain.trimA next size frm n = 0 := by rw [HV.out, if_neg]; rintro ⟨_, a, b, _⟩; omega
      have HN : Plain.trimN next size frm n = 0 := by rw [HU.out, if_neg]; rintro ⟨_, a, b⟩; omega
      have HA' := Lib.hid HA
      have HN' := Lib.hid HN
      clear HA HN hn
      rcases e3 with e3 | ⟨e3, e4⟩
      all_goals
        go_enter Try.func24, Try.ntmps24
        go_wp2
        refine wp_scope_ahead 1 ?_
        go_wp2_with (go_at_call 32; refine (seqRight_any _ _ _).mono ?_; rw [HF.out]; rintro e w' ⟨rfl, rfl⟩)
        go_step3
        simp only [Exit.then]
        refine hop_to (by rfl) ?_
        go_wp2
        rw [hops_ret]
        go_ret3
        exact ⟨ret_three (by rw [HA'.out]) (by rw [HN'.out]) (by rw [HE.out, HF.out]; rfl), rfl⟩
    · have hn' : n ≠ 0 ∧ size ≠ 0 := ⟨fun h => hn (.inl h), fun h => hn (.inr h)⟩
      have e1 : (n == 0) = false := by simpa using hn'.1
      have e2 : (size == 0) = false := by simpa using hn'.2
      have HN := Lib.hid hn'
      clear hn hn'
      cases hw : Plain.within frm next size
      · have HW := Lib.hid hw
        clear hw
        by_cases hx : Plain.way frm next < n
        · have HX := Lib.hid hx
          go_enter Try.func24, Try.ntmps24
          go_wp2
          refine wp_scope_ahead 1 ?_
          go_wp2_with fail
          refine (seqRight_any _ _ _).mono ?_
          rw [HF.out]
          rintro e w' ⟨rfl, rfl⟩
          go_wp2_with fail
          refine (seqWithin_any _ _ _ _ b0 b1 a0 a1).mono ?_
          rw [HW.out]
          rintro e w' ⟨rfl, rfl⟩
          go_wp2_with (go_at_call 25; refine (seqWay_any _ _ _ b0 b1 a0 a1).mono ?_; rintro e w' ⟨rfl, rfl⟩)
          all_goals (try rw [hops_ret])
          all_goals go_ret3
          all_goals exact ⟨ret_three (by rw [HV.out, if_pos ⟨HF.out, HN.out.1, HN.out.2, HW.out, HX.out⟩]) (by rw [HU.out, if_pos ⟨HF.out, HN.out⟩, HW.out, if_neg (by simp), if_pos HX.out] <;> omega) (by rw [HE.out, HF.out]; rfl), rfl⟩
        · have HX := Lib.hid hx
          go_enter Try.func24, Try.ntmps24
          go_wp2
          refine wp_scope_ahead 1 ?_
          go_wp2_with fail
          refine (seqRight_any _ _ _).mono ?_
          rw [HF.out]
          rintro e w' ⟨rfl, rfl⟩
          go_wp2_with fail
          refine (seqWithin_any _ _ _ _ b0 b1 a0 a1).mono ?_
          rw [HW.out]
          rintro e w' ⟨rfl, rfl⟩
          go_wp2_with (go_at_call 25; refine (seqWay_any _ _ _ b0 b1 a0 a1).mono ?_; rintro e w' ⟨rfl, rfl⟩)
          go_step3
          simp only [Exit.then]
          refine hop_to (by rfl) ?_
          go_wp2
          rw [hops_ret]
          go_ret3
          exact ⟨ret_three (by rw [HV.out, if_neg (fun h => absurd h.2.2.2.2 (Int.not_lt.2 HX.out))]) (by rw [HU.out, if_pos ⟨HF.out, HN.out⟩, HW.out, if_neg (by simp), if_neg (Int.not_lt.2 HX.out)]) (by rw [HE.out, HF.out]; rfl), rfl⟩
      · have HW := Lib.hid hw
        have hq := ((Plain.within_iff _ _ _).1 hw).2.2
        clear hw
        go_enter Try.func24, Try.ntmps24
        go_wp2
        refine wp_scope_ahead 1 ?_
        go_wp2_with fail
        refine (seqRight_any _ _ _).mono ?_
        rw [HF.out]
        rintro e w' ⟨rfl, rfl⟩
        go_wp2_with fail
        refine (seqWithin_any _ _ _ _ b0 b1 a0 a1).mono ?_
        rw [HW.out]
        rintro e w' ⟨rfl, rfl⟩
        go_wp2_with (go_at_call 25; refine (seqWay_any _ _ _ a0 a1 b0 b1).mono ?_; rintro e w' ⟨rfl, rfl⟩)
        all_goals (try rw [hops_ret])
        all_goals go_ret3
        all_goals exact ⟨ret_three (by rw [HV.out, if_neg (fun h => by have := h.2.2.2.1; rw [HW.out] at this; cases this)]) (by rw [HU.out, if_pos ⟨HF.out, HN.out⟩, if_pos HW.out] <;> omega) (by rw [HE.out, HF.out]; rfl), rfl⟩

end Go.Proofs.Ytemphincefamfaa
