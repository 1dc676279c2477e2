/- What is left of a span in a window: the code's answer, and the reference's, that counts number by number. Conditions: numbers from 0 to 2^32 - 1; sizes are ints. -/
import Derived.Test.YthndipcfdfjhnaaSeqB
namespace Go.Proofs.Ythndipcfdfjhnaa
open Go.RowKit

theorem ret_three {k k' k'' : IntKind} {a a' b b' c c' : Int} (h : a = a') (g : b = b') (i : c = c') : Ending.returned (.tuple #[.int k a, .int k' b, .int k'' c]) = Ending.returned (.tuple #[.int k a', .int k' b', .int k'' c']) := by rw [h, g, i]

theorem seqTrim_any (next size frm n : Int) (w : World) (a0 : 0 ≤ next) (a1 : next < 4294967296) (b0 : 0 ≤ frm) (b1 : frm < 4294967296) (s0 : -9223372036854775808 ≤ size) (s1 : size ≤ 9223372036854775807) (n0 : -9223372036854775808 ≤ n) (n1 : n ≤ 9223372036854775807) :
    Calls Try.prog 22 #[.int .u32 next, .int .i64 size, .int .u32 frm, .int .i64 n] w fun e w' => e = .returned (.tuple #[.int .i64 (Plain.trimA next size frm n), .int .i64 (Plain.trimN next size frm n), .int .i64 (Plain.err size n)]) ∧ w = w' := by
  have hv : Plain.trimA next size frm n = if Plain.fits size n = true ∧ n ≠ 0 ∧ size ≠ 0 ∧ Plain.within frm next size = false ∧ Plain.way frm next < n then Plain.way frm next else 0 := rfl
  have hu : Plain.trimN next size frm n = if Plain.fits size n = true ∧ n ≠ 0 ∧ size ≠ 0 then (if Plain.within frm next size = true then min n (size - Plain.way next frm) else if Plain.way frm next < n then min (n - Plain.way frm next) size else 0) else 0 := rfl
  have he : Plain.err size n = if Plain.fits size n = true then 0 else 2 := rfl
  have HV := Lib.hid hv
  have HU := Lib.hid hu
  have HE := Lib.hid he
  clear hv hu he
  obtain ⟨p0, p1⟩ := Plain.way_range frm next
  obtain ⟨q0, q1⟩ := Plain.way_range next frm
  cases hf : Plain.fits size n
  · have HF := Lib.hid hf
    clear hf
    go_enter Try.func22, Try.ntmps22
    go_wp2
    refine wp_scope_ahead 1 ?_
    go_wp2_with (go_at_call 25; refine (seqRight_any _ _ _).mono ?_; rw [HF.out]; rintro e w' ⟨rfl, rfl⟩)
    rw [hops_ret]
    go_ret3
    exact ⟨ret_three (by rw [HV.out, HF.out]; simp) (by rw [HU.out, HF.out]; simp) (by rw [HE.out, HF.out]; rfl), rfl⟩
  · obtain ⟨h1, h2, h3, h4⟩ := Plain.fits_true hf
    have HF := Lib.hid hf
    clear hf
    by_cases hn : n = 0 ∨ size = 0
    · have e3 : ((n == 0) = true) ∨ ((n == 0) = false ∧ (size == 0) = true) := by
        rcases hn with hn | hn
        · exact .inl (by simpa using hn)
        · by_cases h0 : n = 0
          · exact .inl (by simpa using h0)
          · exact .inr ⟨by simpa using h0, by simpa using hn⟩
      have HA : Plain.trimA next size frm n = 0 := by rw [HV.out, if_neg]; rintro ⟨_, a, b, _⟩; omega
      have HN : Plain.trimN next size frm n = 0 := by rw [HU.out, if_neg]; rintro ⟨_, a, b⟩; omega
      have HA' := Lib.hid HA
      have HN' := Lib.hid HN
      clear HA HN hn
      rcases e3 with e3 | ⟨e3, e4⟩
      all_goals
        go_enter Try.func22, Try.ntmps22
        go_wp2
        refine wp_scope_ahead 1 ?_
        go_wp2_with (go_at_call 25; refine (seqRight_any _ _ _).mono ?_; rw [HF.out]; rintro e w' ⟨rfl, rfl⟩)
        go_step3
        simp only [Exit.then]
        refine hop_to (by rfl) ?_
        go_wp2
        rw [hops_ret]
        go_ret3
        exact ⟨ret_three (by rw [HA'.out]) (by rw [HN'.out]) (by rw [HE.out, HF.out]; rfl), rfl⟩
    · have hn' : n ≠ 0 ∧ size ≠ 0 := ⟨fun h => hn (.inl h), fun h => hn (.inr h)⟩
      have e1 : (n == 0) = false := by simpa using hn'.1
      have e2 : (size == 0) = false := by simpa using hn'.2
      have HN := Lib.hid hn'
      clear hn hn'
      cases hw : Plain.within frm next size
      · have HW := Lib.hid hw
        clear hw
        by_cases hx : Plain.way frm next < n
        · have HX := Lib.hid hx
          go_enter Try.func22, Try.ntmps22
          go_wp2
          refine wp_scope_ahead 1 ?_
          go_wp2_with fail
          refine (seqRight_any _ _ _).mono ?_
          rw [HF.out]
          rintro e w' ⟨rfl, rfl⟩
          go_wp2_with fail
          refine (seqWithin_any _ _ _ _ b0 b1 a0 a1).mono ?_
          rw [HW.out]
          rintro e w' ⟨rfl, rfl⟩
          go_wp2_with (go_at_call 9; refine (seqWay_any _ _ _ b0 b1 a0 a1).mono ?_; rintro e w' ⟨rfl, rfl⟩)
          all_goals (try rw [hops_ret])
          all_goals go_ret3
          all_goals exact ⟨ret_three (by rw [HV.out, if_pos ⟨HF.out, HN.out.1, HN.out.2, HW.out, HX.out⟩]) (by rw [HU.out, if_pos ⟨HF.out, HN.out⟩, HW.out, if_neg (by simp), if_pos HX.out] <;> omega) (by rw [HE.out, HF.out]; rfl), rfl⟩
        · have HX := Lib.hid hx
          go_enter Try.func22, Try.ntmps22
          go_wp2
          refine wp_scope_ahead 1 ?_
          go_wp2_with fail
          refine (seqRight_any _ _ _).mono ?_
          rw [HF.out]
          rintro e w' ⟨rfl, rfl⟩
          go_wp2_with fail
          refine (seqWithin_any _ _ _ _ b0 b1 a0 a1).mono ?_
          rw [HW.out]
          rintro e w' ⟨rfl, rfl⟩
          go_wp2_with (go_at_call 9; refine (seqWay_any _ _ _ b0 b1 a0 a1).mono ?_; rintro e w' ⟨rfl, rfl⟩)
          go_step3
          simp only [Exit.then]
          refine hop_to (by rfl) ?_
          go_wp2
          rw [hops_ret]
          go_ret3
          exact ⟨ret_three (by rw [HV.out, if_neg (fun h => absurd h.2.2.2.2 (Int.not_lt.2 HX.out))]) (by rw [HU.out, if_pos ⟨HF.out, HN.out⟩, HW.out, if_neg (by simp), if_neg (Int.not_lt.2 HX.out)]) (by rw [HE.out, HF.out]; rfl), rfl⟩
      · have HW := Lib.hid hw
        have hq := ((Plain.within_iff _ _ _).1 hw).2.2
        clear hw
        go_enter Try.func22, Try.ntmps22
        go_wp2
        refine wp_scope_ahead 1 ?_
        go_wp2_with fail
        refine (seqRight_any _ _ _).mono ?_
        rw [HF.out]
        rintro e w' ⟨rfl, rfl⟩
        go_wp2_with fail
        refine (seqWithin_any _ _ _ _ b0 b1 a0 a1).mono ?_
        rw [HW.out]
        rintro e w' ⟨rfl, rfl⟩
        go_wp2_with (go_at_call 9; refine (seqWay_any _ _ _ a0 a1 b0 b1).mono ?_; rintro e w' ⟨rfl, rfl⟩)
        all_goals (try rw [hops_ret])
        all_goals go_ret3
        all_goals exact ⟨ret_three (by rw [HV.out, if_neg (fun h => by have := h.2.2.2.1; rw [HW.out] at this; cases this)]) (by rw [HU.out, if_pos ⟨HF.out, HN.out⟩, if_pos HW.out] <;> omega) (by rw [HE.out, HF.out]; rfl), rfl⟩

theorem refTrim_any (next size frm n : Int) (w : World) (a0 : 0 ≤ next) (a1 : next < 4294967296) (b0 : 0 ≤ frm) (b1 : frm < 4294967296) (s0 : -9223372036854775808 ≤ size) (s1 : size ≤ 9223372036854775807) (n0 : -9223372036854775808 ≤ n) (n1 : n ≤ 9223372036854775807) :
    Calls Try.prog 23 #[.int .u32 next, .int .i64 size, .int .u32 frm, .int .i64 n] w fun e w' => e = .returned (.tuple #[.int .i64 (Plain.trimA next size frm n), .int .i64 (Plain.trimN next size frm n), .int .i64 (Plain.err size n)]) ∧ w = w' := by
  have he : Plain.err size n = if Plain.fits size n = true then 0 else 2 := rfl
  have HE := Lib.hid he
  clear he
  cases hf : Plain.fits size n
  · have hv : Plain.trimA next size frm n = 0 := by unfold Plain.trimA; rw [if_neg]; rintro ⟨h, _⟩; rw [hf] at h; cases h
    have hu : Plain.trimN next size frm n = 0 := by unfold Plain.trimN; rw [if_neg]; rintro ⟨h, _⟩; rw [hf] at h; cases h
    have HF := Lib.hid hf
    have HV := Lib.hid hv
    have HU := Lib.hid hu
    clear hf hv hu
    go_enter Try.func23, Try.ntmps23
    go_wp2_with (go_at_call 26; refine (refRight_any _ _ _).mono ?_; rw [HF.out]; rintro e w' ⟨rfl, rfl⟩)
    go_ret3
    exact ⟨ret_three (by rw [HV.out]) (by rw [HU.out]) (by rw [HE.out, HF.out]; rfl), rfl⟩
  · obtain ⟨h1, h2, h3, h4⟩ := Plain.fits_true hf
    have HG := Lib.hid (Plain.got_all next size frm n hf b0 b1 a0 a1)
    have HL := Lib.hid (Plain.lead_all next size frm n hf b0 b1 a0 a1)
    have HF := Lib.hid hf
    clear hf
    have g0 := Lib.hid (Plain.got_zero next frm n h3)
    have l0 : Hid (Plain.lead next frm n 0 = 0) := Lib.hid (by unfold Plain.lead; simp)
    go_enter Try.func23, Try.ntmps23
    go_wp2_with (go_at_call 26; refine (refRight_any _ _ _).mono ?_; rw [HF.out]; rintro e w' ⟨rfl, rfl⟩)
    go_loop [11, 12, 13, 14] (fun l g k _ => ∃ (i : Nat) (x y : Int), k = .int .i64 i ∧ (i : Int) ≤ size ∧ l = .int .i64 x ∧ g = .int .i64 y ∧ Hid (x = Plain.lead next frm n i) ∧ Hid (y = Plain.got next frm n i) ∧ 0 ≤ y ∧ y ≤ i) (fun _ _ k _ => size.toNat - (intOf k).toNat)
    case atStart => exact ⟨0, 0, 0, rfl, by omega, rfl, rfl, Lib.hid l0.out.symm, Lib.hid g0.out.symm, by omega, by omega⟩
    case round =>
      obtain ⟨i, x, y, rfl, hi, rfl, rfl, HX, HY, y0, y1⟩ := hrel
      clear g0 l0
      by_cases hlt : (i : Int) < size
      · have ra := Plain.add_range next i
        have rw_ := Plain.at_range next frm i
        have go := Plain.got_out next frm n i h3 h4 (by omega)
        have gi := Plain.got_in next frm n i h3 h4 (by omega)
        have lo := Plain.lead_out next frm n i h3 h4 (by omega)
        have lf := Plain.lead_first next frm n i h3 h4 (by omega)
        have lm := Plain.lead_more next frm n i h3 h4 (by omega)
        by_cases hat : n ≤ Plain.at_ next frm i
        · have G := Lib.hid (go hat)
          have L := Lib.hid (lo hat)
          clear go gi lo lf lm
          go_wp2_with fail
          refine (refAdd_any _ _ _ a0 a1).mono ?_
          rintro e w' ⟨rfl, rfl⟩
          go_wp2_with fail
          refine (refWay_any _ _ _ b0 b1 ra.1 ra.2).mono ?_
          rw [show Plain.way frm (Plain.add next i) = Plain.at_ next frm i from rfl]
          rintro e w' ⟨rfl, rfl⟩
          go_wp2
          go_round
          case rel => exact ⟨i + 1, x, y, by go_num, by omega, rfl, rfl, Lib.hid (by rw [L.out]; exact HX.out), Lib.hid (by rw [G.out]; exact HY.out), by omega, by omega⟩
          case measure => simp [intOf]; omega
        · have hat' : Plain.at_ next frm i < n := by omega
          have G := Lib.hid (gi hat')
          by_cases hy : y = 0
          · have L := Lib.hid (lf hat' (by rw [← HY.out]; exact hy))
            have hyb : (y == 0) = true := by simpa using hy
            clear go gi lo lf lm hy
            go_wp2_with fail
            refine (refAdd_any _ _ _ a0 a1).mono ?_
            rintro e w' ⟨rfl, rfl⟩
            go_wp2_with fail
            refine (refWay_any _ _ _ b0 b1 ra.1 ra.2).mono ?_
            rw [show Plain.way frm (Plain.add next i) = Plain.at_ next frm i from rfl]
            rintro e w' ⟨rfl, rfl⟩
            go_wp2
            go_round
            case rel => exact ⟨i + 1, _, y + 1, by go_num, by omega, rfl, by go_num, Lib.hid (by rw [L.out]), Lib.hid (by rw [G.out, HY.out]), by omega, by omega⟩
            case measure => simp [intOf]; omega
          · have L := Lib.hid (lm hat' (by rw [← HY.out]; exact hy))
            have hyb : (y == 0) = false := by simpa using hy
            clear go gi lo lf lm hy
            go_wp2_with fail
            refine (refAdd_any _ _ _ a0 a1).mono ?_
            rintro e w' ⟨rfl, rfl⟩
            go_wp2_with fail
            refine (refWay_any _ _ _ b0 b1 ra.1 ra.2).mono ?_
            rw [show Plain.way frm (Plain.add next i) = Plain.at_ next frm i from rfl]
            rintro e w' ⟨rfl, rfl⟩
            go_wp2
            go_round
            case rel => exact ⟨i + 1, x, y + 1, by go_num, by omega, rfl, by go_num, Lib.hid (by rw [L.out]; exact HX.out), Lib.hid (by rw [G.out, HY.out]), by omega, by omega⟩
            case measure => simp [intOf]; omega
      · have hi' : size.toNat = i := by omega
        have HI := Lib.hid hi'
        clear hi'
        go_wp2
        go_ret3
        exact ⟨ret_three (by rw [← HL.out, HI.out]; exact HX.out) (by rw [← HG.out, HI.out]; exact HY.out) (by rw [HE.out, HF.out]; rfl), rfl⟩
end Go.Proofs.Ythndipcfdfjhnaa
