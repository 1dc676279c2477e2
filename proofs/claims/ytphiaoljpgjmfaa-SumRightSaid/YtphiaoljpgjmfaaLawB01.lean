/- What the law functions SumRound, SumRight and SumTurned come to: true, whatever the bytes and numbers; nothing that was there is changed. Conditions: the bytes are cells of memory that hold numbers from 0 to 255. -/
import Derived.Test.YtphiaoljpgjmfaaLawA01
set_option linter.unusedVariables false
set_option linter.unusedSimpArgs false
namespace Go.Proofs.Ytphiaoljpgjmfaa
open Go.RowKit

/-- A number below n, and the world as it was. -/
def SomeBelow (n : Int) (w : World) (e : Ending) (w' : World) : Prop := ∃ r : Nat, (r : Int) < n ∧ e = .returned (.int .i64 r) ∧ w = w'

theorem among_any (x n : Int) (w : World) (h1 : 1 ≤ n) (h2 : n ≤ 1000000000) :
    Calls Try.prog 18 #[.int .i64 x, .int .i64 n] w (SomeBelow n w) := by
  have hx : 0 ≤ IntKind.u64.wrap x := by simp only [IntKind.wrap, IntKind.signed, IntKind.bits]; simp; omega
  have hm0 : 0 ≤ IntKind.u64.wrap x % n := Int.emod_nonneg _ (by omega)
  have hm1 : IntKind.u64.wrap x % n < n := Int.emod_lt_of_pos _ (by omega)
  have hfin : SomeBelow n w (.returned (.int .i64 (IntKind.u64.wrap x % n))) w := ⟨(IntKind.u64.wrap x % n).toNat, by omega, by rw [Int.toNat_of_nonneg hm0], rfl⟩
  have HF := Lib.hid hfin
  clear hfin
  go_enter Try.func18, Try.ntmps18
  go_wp2
  go_ret
  exact HF.out

theorem sumRound_walk (A D : Option Addr) (xs ys : List Int) (c d : Nat) (w : World) (h : Bytes w w.heap.size A xs) (hn : xs.length ≤ maxLen) (hc : xs.length ≤ c)
    (g : Bytes w w.heap.size D ys) (gn : ys.length ≤ maxLen) (gc : ys.length ≤ d) :
    Calls Try.prog 4 #[.slice A xs.length c, .slice D ys.length d] w fun e w' => e = .returned (.bool true) ∧ Below w.heap.size w w' := by
  obtain ⟨i0, hi0, hz0, hz1, hz2⟩ := info_parts u8_info
  have HA := Lib.hid h
  have HD := Lib.hid g
  clear h g
  go_enter Try.func4, Try.ntmps4
  go_wp2_with fail
  refine (works_any _).mono ?_
  rintro e w0 ⟨rfl, hb0⟩
  go_wp2_with fail
  refine (short_reads A xs c _ ((HA.out.below hb0).more hb0.size) hn hc).mono ?_
  have hl : (xs.take 600).length ≤ 600 := by rw [List.length_take]; omega
  generalize xs.take 600 = zs at hl ⊢
  rintro e w1 ⟨A1, c1, rfl, H1, hb1⟩
  have hc1 : zs.length ≤ c1 := own_cap_le H1.out.1
  have hb01 : Below w.heap.size w w1 := hb0.trans (hb1.mono hb0.size)
  go_wp2_with fail
  refine (short_reads D ys d _ ((HD.out.below hb01).more hb01.size) gn gc).mono ?_
  have gl : (ys.take 600).length ≤ 600 := by rw [List.length_take]; omega
  generalize ys.take 600 = vs at gl ⊢
  rintro e w2 ⟨A2, c2, rfl, H2, hb2⟩
  have hc2 : vs.length ≤ c2 := own_cap_le H2.out.1
  have hb02 : Below w.heap.size w w2 := hb01.trans (hb2.mono hb01.size)
  go_wp2_with fail
  have hel : (zs.take (zs.length / 2 * 2)).length = zs.length / 2 * 2 := by rw [List.length_take]; omega
  have hev : (zs.take (zs.length / 2 * 2)).length = 2 * (zs.length / 2) := by omega
  have hB2 : Bytes w2 w2.heap.size A1 (zs.take (zs.length / 2 * 2)) := ((H1.out.2.below hb2).more hb2.size).take _
  rw [← hel]
  generalize zs.take (zs.length / 2 * 2) = es at *
  have HB2 := Lib.hid hB2
  have HEV := Lib.hid hev
  have hel6 : es.length ≤ 600 := by omega
  have hec1 : es.length ≤ c1 := by omega
  clear hB2 hel hev
  refine (bytes_any A1 es c1 _ HB2.out (by omega)).mono ?_
  rintro e w3 ⟨v, rfl, hown3, hb3⟩
  have H3 := Lib.hid hown3
  clear hown3
  go_wp2_with (at_builtin; refine wpList_append_any _ rfl (.tmp 19) (.tmp 20) _ rfl w2.heap.size 5 i0 _ 1 1 Try.underlying23 hi0 hz0 hz1 hz2 rfl (by omega) v es.length (vals es) rfl H3.out w2.heap.size A2 vs.length c2 (vals vs) rfl (H2.out.2.below hb3).reads (vals_one vs) (by unfold maxLen; omega) (by omega) hb3.size ?_; intro v1 w4 hown4 hg4 hat4)
  have hb24 : Below w2.heap.size w2 w4 := hb3.grown hg4 hb3.size fun k hk => (H3.out.lt k hk).1
  have hz1' : ∀ x ∈ es ++ vs, 0 ≤ x ∧ x ≤ 255 := fun x hx => by
    rcases List.mem_append.1 hx with h | h
    · exact HB2.out.1 x h
    · exact H2.out.2.1 x h
  have hown5 : w4.ownsRow w2.heap.size 5 1 v1 (es ++ vs).length (vals (es ++ vs)) := by
    rw [List.length_append, vals_app]; exact hown4
  obtain ⟨A3, c3, rfl, hB3⟩ := Bytes.of_own hown5 hz1'
  have HB3 := Lib.hid hB3
  clear hB3 hown5 hown4 hg4 hat4 hz1'
  have hlen : (es ++ vs).length ≤ 100000 := by rw [List.length_append]; omega
  have hsum : Plain.canon (Plain.words (es ++ vs)) = Plain.canon (Plain.canon (Plain.words es) + Plain.words vs) := by
    rw [Plain.words_append (zs.length / 2) es vs HEV.out, Plain.canon_add _ _ (Plain.words_nonneg _ fun x hx => (HB2.out.1 x hx).1) (Plain.words_nonneg _ fun x hx => (H2.out.2.1 x hx).1)]
  have hr1 := Plain.canon_range (Plain.words es)
  refine (sumAdd_zero A3 (es ++ vs) c3 _ _ HB3.out hlen).mono ?_
  rw [hsum]
  have HS := Lib.hid hsum
  clear hsum
  rintro e w' ⟨rfl, rfl⟩
  have HB4 := Lib.hid (HB2.out.below hb24)
  have HC4 := Lib.hid ((H2.out.2.below hb24))
  go_wp2_with fail
  refine (sumAdd_zero A1 es c1 _ _ HB4.out (by omega)).mono ?_
  rintro e w' ⟨rfl, rfl⟩
  go_wp2_with fail
  refine (sumAdd_any _ A2 vs c2 _ _ HC4.out (by omega) hr1.1 (by omega)).mono ?_
  rintro e w' ⟨rfl, rfl⟩
  go_wp2_with fail
  have hfl : (vs.take (vs.length / 2 * 2)).length = vs.length / 2 * 2 := by rw [List.length_take]; omega
  rw [← hfl]
  have HF4 := Lib.hid (HC4.out.take (vs.length / 2 * 2))
  generalize vs.take (vs.length / 2 * 2) = fs at *
  have hfl6 : fs.length ≤ 600 := by omega
  have hfc : fs.length ≤ c2 := by omega
  clear hfl
  have hr2 := Plain.canon_range (Plain.words fs)
  have hsum2 : Plain.canon (Plain.canon (Plain.words fs) + Plain.words es) = Plain.canon (Plain.canon (Plain.words es) + Plain.words fs) := by
    have n1 := Plain.words_nonneg es fun x hx => (HB2.out.1 x hx).1
    have n2 := Plain.words_nonneg fs fun x hx => (HF4.out.1 x hx).1
    rw [Plain.canon_add _ _ n2 n1, Plain.canon_add _ _ n1 n2, Int.add_comm]
  refine (sumAdd_zero A2 fs c2 _ _ HF4.out (by omega)).mono ?_
  rintro e w' ⟨rfl, rfl⟩
  go_wp2_with fail
  refine (sumAdd_any _ A1 es c1 _ _ HB4.out (by omega) hr2.1 (by omega)).mono ?_
  rw [hsum2]
  clear hsum2
  rintro e w' ⟨rfl, rfl⟩
  go_wp2_with fail
  refine (sumAdd_zero A1 es c1 _ _ HB4.out (by omega)).mono ?_
  rintro e w' ⟨rfl, rfl⟩
  go_wp2_with fail
  refine (sumAdd_any _ A2 fs c2 _ _ HF4.out (by omega) hr1.1 (by omega)).mono ?_
  rintro e w' ⟨rfl, rfl⟩
  go_wp2
  go_ret
  exact ⟨rfl, hb02.trans (hb24.mono hb02.size)⟩
end Go.Proofs.Ytphiaoljpgjmfaa
